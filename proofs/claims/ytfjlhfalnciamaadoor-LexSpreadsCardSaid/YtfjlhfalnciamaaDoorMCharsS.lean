/- Package texts, merged: CharsS, CharsT, CharsU. -/
import Derived.Test.YtfjlhfalnciamaaDoorMCharsK

namespace Go.Proofs.YtfjlhfalnciamaaDoor.Chars
open Go Go.RowKit Go.Proofs.Chars
open Go.Proofs.YtfjlhfalnciamaaDoor.Utf

def esc3 : ByteArray := ⟨#[93, 45, 94]⟩
def signS (r : Int) : List UInt8 := (signB r esc3).data.toList
def pieceT (x : Rg) : List UInt8 := signS x.1 ++ if x.1 = x.2 then [] else (if x.1 + 1 < x.2 then [45] else []) ++ signS x.2
def textL (O : List Rg) : List UInt8 := O.flatMap pieceT
theorem textL_snoc (L : List Rg) (x : Rg) : textL (L ++ [x]) = textL L ++ pieceT x := by simp [textL]
theorem signB_size (r : Int) (hv : Lib.validRune r = true) (esc : ByteArray) : (signB r esc).size ≤ 6 := by
  have h1 := (encB_size r hv).2
  have h2 := hexL_len r.toNat
  unfold signB
  repeat' split
  · simp [ByteArray.size]
  · simp [ByteArray.size]
  · simp [ByteArray.size]
  · rw [ByteArray.size_append]; have : (⟨#[92]⟩ : ByteArray).size = 1 := rfl; omega
  · omega
  · rw [ByteArray.size_append, ByteArray.size_append]
    have a1 : (⟨#[92, 117, 123]⟩ : ByteArray).size = 3 := rfl
    have a2 : (⟨#[125]⟩ : ByteArray).size = 1 := rfl
    have a3 : (⟨(hexL r.toNat).toArray⟩ : ByteArray).size = (hexL r.toNat).length := by simp [ByteArray.size]
    omega
theorem signS_len (r : Int) (hv : Lib.validRune r = true) : (signS r).length ≤ 6 := by
  unfold signS
  rw [← Lib.size_eq]
  exact signB_size r hv esc3
theorem pieceT_len (x : Rg) (h1 : Lib.validRune x.1 = true) (h2 : Lib.validRune x.2 = true) : (pieceT x).length ≤ 13 := by
  have a := signS_len x.1 h1
  have b := signS_len x.2 h2
  unfold pieceT
  repeat' split
  all_goals simp
  all_goals omega
theorem textL_len : ∀ (O : List Rg), (∀ x ∈ O, Lib.validRune x.1 = true ∧ Lib.validRune x.2 = true) → (textL O).length ≤ 13 * O.length
  | [], _ => by simp [textL]
  | x :: l, h => by
    have a := textL_len l fun y hy => h y (List.mem_cons_of_mem _ hy)
    have b := pieceT_len x (h x List.mem_cons_self).1 (h x List.mem_cons_self).2
    unfold textL at a ⊢
    rw [List.flatMap_cons, List.length_append, List.length_cons]
    omega
theorem sign_str (r : Int) : (⟨(signS r).toArray⟩ : ByteArray) = signB r esc3 := by
  unfold signS
  cases signB r esc3 with
  | mk d => simp

theorem kept_row {w w' : World} {S b : Nat} {v : Value} {L : List Rg} (h : Rowed w S v L) (hb : ∃ cs, w.heap[b]? = some (.cells cs 99 (0, 0))) (hk : Lib.OthersKept 5 (some b) w w') : Rowed w' S v L := by
  refine ⟨h.1, ?_⟩
  rcases h.2 with h0 | ⟨g, cap, cur, e1, e2, e3, e4⟩
  · exact .inl h0
  · refine .inr ⟨g, cap, cur, e1, e2, hk g _ e3 (fun e => ?_) (fun c fz e => by cases e), e4⟩
    obtain ⟨cs, hb⟩ := hb
    have : g = b := Option.some.inj e
    subst this
    rw [hb] at e3
    cases e3
/-- The memory of Text while it goes on. -/
def Texting (W : World) (vo : Value) (O : List Rg) (l : List UInt8) (wx : World) : Prop :=
  Lib.IsBuilder 99 5 W.heap.size W.heap.size (Lib.byteCells l) wx ∧ Rowed wx W.heap.size vo O ∧ Below W.heap.size W wx
theorem Texting.stay {W wx w' : World} {vo : Value} {O : List Rg} {l : List UInt8} (h : Texting W vo O l wx) (hb : Below wx.heap.size wx w') : Texting W vo O l w' :=
  ⟨builder_stay h.1 hb, h.2.1.stay hb, h.2.2.trans (hb.mono h.2.2.size)⟩
theorem Texting.block {W wx : World} {vo : Value} {O : List Rg} {l : List UInt8} (h : Texting W vo O l wx) : ∃ cs, wx.heap[W.heap.size]? = some (.cells cs 99 (0, 0)) := by
  rcases h.1 with ⟨_, v, hb, _⟩ | ⟨_, v, hb, _⟩
  · exact ⟨_, hb⟩
  · exact ⟨_, hb⟩
theorem Texting.wrote {W wx w' : World} {vo : Value} {O : List Rg} {l l' : List UInt8} (h : Texting W vo O l wx) (hn : Lib.BuilderAt 99 5 W.heap.size W.heap.size (.pointer (some ⟨W.heap.size, 0, none⟩)) (Lib.byteCells l') w')
    (hb : Below W.heap.size wx w') (hk : Lib.OthersKept 5 (some W.heap.size) wx w') : Texting W vo O l' w' :=
  ⟨.inr hn, kept_row h.2.1 h.block hk, h.2.2.trans hb⟩

end Go.Proofs.YtfjlhfalnciamaaDoor.Chars

namespace Go.Proofs.YtfjlhfalnciamaaDoor.Chars
open Go Go.RowKit Go.Proofs.Chars
open Go.Proofs.YtfjlhfalnciamaaDoor.Utf

theorem byteCells_app (a b : List UInt8) : Lib.byteCells (a ++ b) = Lib.byteCells a ++ Lib.byteCells b := by simp [Lib.byteCells]
/-- The signs of a set: all but what is no sign. -/
def sur : List Rg := [(55296, 57343)]
theorem signs_of {L O : List Rg} (hc : Canon 0 O) (hm : ∀ r, memU O r ↔ memU L r ∧ ¬ memU sur r) : ∀ x ∈ O, Lib.validRune x.1 = true ∧ Lib.validRune x.2 = true := by
  intro x hx
  have hv := canon_all hc (Int.le_refl _) x hx
  have key : ∀ r, x.1 ≤ r → r ≤ x.2 → Lib.validRune r = true := fun r h1 h2 => by
    have := (hm r).1 ((hc.memU r).2 ⟨x, hx, h1, h2⟩)
    apply (valid_iff r).2
    have h3 := this.2
    unfold memU sur most at h3
    unfold most at hv
    simp at h3
    have := this.1.1
    omega
  exact ⟨key _ (Int.le_refl _) hv.2.1, key _ hv.2.1 (Int.le_refl _)⟩
theorem canon_len : ∀ {L : List Rg} {b : Int}, Canon b L → 0 ≤ b → (L.length : Int) + b ≤ most + 2 ∨ L = []
  | [], _, _, _ => .inr rfl
  | x :: l, b, hc, hb => .inl (by
    have h1 := hc.1
    have h2 := hc.2.1
    have h3 := hc.2.2.1
    rcases canon_len hc.2.2.2 (by omega) with h4 | rfl
    · simp only [List.length_cons]; push_cast; omega
    · simp; omega)

set_option maxHeartbeats 2000000 in
set_option maxRecDepth 100000 in
theorem text_any {va : Value} {L : List Rg} (W : World) (T : GT W) (H : Rgs W va L) (hL : L.length ≤ 30000) :
    Calls Tryd.prog 30 #[va] W fun e w' => ∃ O, e = .returned (.string ⟨(textL O).toArray⟩) ∧ Canon 0 O ∧ (∀ r, memU O r ↔ memU L r ∧ ¬ memU sur r) ∧ Below W.heap.size W w' := by
  have HG := Lib.hid T
  have hb0 : Below W.heap.size W (W.alloc (.cells #[.pointer none, .slice none 0 0] 99)) := (Below.refl _ _).alloc (Nat.le_refl _) _
  have H1 := H.stay hb0
  have hb1 : Below (W.heap.size + 1) (W.alloc (.cells #[.pointer none, .slice none 0 0] 99)) ((W.alloc (.cells #[.pointer none, .slice none 0 0] 99)).alloc (.cells #[.int .i32 55296, .int .i32 57343] 44)) := (Below.refl _ _).alloc (by simp) _
  have hlit : Rgs ((W.alloc (.cells #[.pointer none, .slice none 0 0] 99)).alloc (.cells #[.int .i32 55296, .int .i32 57343] 44)) (.slice (some ⟨W.heap.size + 1, 0, none⟩) 1 1) sur := by
    refine ⟨fun x hx => by simp [sur] at hx; subst hx; exact ⟨⟨by decide, by decide⟩, by decide, by decide⟩, some ⟨W.heap.size + 1, 0, none⟩, 1, rfl, by simp [sur], by simp [maxLen], fun _ => ⟨W.heap.size + 1, 0, rfl, by simp, fun i x hx => ?_⟩⟩
    match i, hx with
    | 0, hx => simp [sur] at hx; subst hx; simp
    | i + 1, hx => simp [sur] at hx
  have HLS := Lib.hid (less_any (H1.stay (by simpa using hb1)) hlit (by omega) (by simp [sur]))
  have HTX : Hid (Lib.IsBuilder 99 5 W.heap.size W.heap.size (Lib.byteCells []) ((W.alloc (.cells #[.pointer none, .slice none 0 0] 99)).alloc (.cells #[.int .i32 55296, .int .i32 57343] 44))) :=
    builder_stay (Lib.fresh_isBuilder 99 5 W) (by simpa using hb1)
  have HB1 := Lib.hid (hb0.trans (hb1.mono (by omega)))
  clear T H H1 hb0 hb1 hlit
  go_enter Tryd.func30, Tryd.ntmps30
  go_wp2_with fail
  refine HLS.out.mono ?_
  rintro e w1 ⟨vo, O, rfl, hro, hcan, hmem, hol, hb2⟩
  have hsgn := signs_of hcan hmem
  have hlen1 := (hro.rgs (canon_in32 hcan (Int.le_refl _))).len 3 w1
  have hO5 : O.length ≤ 30002 := by have : sur.length = 1 := rfl; omega
  have HT1 : Hid (Texting W vo O [] w1) := ⟨builder_stay HTX.out hb2, hro.low (by simp; omega), HB1.out.trans (hb2.mono (by simp; omega))⟩
  have HCN := Lib.hid hcan
  have HME := Lib.hid hmem
  have HSG := Lib.hid hsgn
  clear hro hcan hmem hb2 HLS HTX HB1 hsgn
  go_wp2_with fail
  go_loopw [5, 11] (fun x i wx => ∃ k : Nat, k ≤ O.length ∧ i = .int .i64 (k : Int) ∧ Texting W vo O (textL (O.take k)) wx) (fun _ i _ => O.length - (intOf i).toNat)
  case atStart => exact ⟨0, Nat.zero_le _, rfl, HT1.out⟩
  case round =>
    obtain ⟨k, hk, rfl, hT⟩ := hrel
    have HT := Lib.hid hT
    have hB := hT.2.2
    have hszr := hB.size
    by_cases hlt : k < O.length
    · obtain ⟨g, cap, hvo, h31, h32, h33, h34, h35, hcell⟩ := hT.2.1.at (by omega)
      obtain ⟨x, hx⟩ : ∃ x, O[k]? = some x := ⟨O[k], List.getElem?_eq_getElem hlt⟩
      obtain ⟨e0, e1⟩ := hcell k x hx
      have hxv := canon_all HCN.out (Int.le_refl _) x (List.mem_of_getElem? hx)
      have hx1 := hxv.1
      have hx2 := hxv.2.1
      have hx3 := hxv.2.2
      unfold most at hx3
      have hs := HSG.out x (List.mem_of_getElem? hx)
      have htl := textL_len (O.take k) fun y hy => HSG.out y (List.mem_of_mem_take hy)
      have htk : (O.take k).length ≤ 30002 := by simp; omega
      have HST : Hid (textL (O.take (k + 1)) = textL (O.take k) ++ pieceT x) := by
        rw [List.take_succ_eq_append_getElem hlt, textL_snoc, (List.getElem?_eq_some_iff.1 hx).2]; exact Lib.hid rfl
      obtain ⟨l, hl⟩ : ∃ l, textL (O.take k) = l := ⟨_, rfl⟩
      rw [hl] at HT htl HST
      have hll : l.length ≤ 400000 := by omega
      subst hvo
      have HVR := Lib.hid hs
      have hGr : GT wr := HG.out.stay hB
      -- the box of the round
      have hbb : Below wr.heap.size wr (wr.alloc (.cells #[.int .i32 x.1, .int .i32 x.2] 44)) := (Below.refl _ _).alloc (Nat.le_refl _) _
      have HS1 := Lib.hid (sign_any x.1 hs.1 esc3 (by decide) _ (hGr.stay hbb))
      have HTB := Lib.hid (HT.out.stay hbb)
      have hsl1 := signS_len x.1 hs.1
      have hsl2 := signS_len x.2 hs.2
      have HG2 := Lib.hid (hGr.stay hbb)
      rw [← sign_str] at HS1
      unfold esc3 at HS1
      clear hcell hx hxv hs htl htk hl hB hT hGr hbb h31 h32 h34 h35
      go_wp2_with fail
      refine HS1.out.mono ?_
      rintro e w2 ⟨rfl, hb2⟩
      have HT2 := Lib.hid (HTB.out.stay hb2)
      have hbx2 := (hb2.block wr.heap.size (by simp)).trans (heap_alloc_new wr _)
      have hs2 : wr.heap.size + 1 ≤ w2.heap.size := by have := hb2.size; simpa using this
      have HG3 := Lib.hid (HG2.out.stay hb2)
      have HW := Lib.hid (write_any W.heap.size W.heap.size (Lib.byteCells l) ⟨(signS x.1).toArray⟩ w2 HT2.out.1 (by rw [Lib.byteCells_length]; show l.length + (signS x.1).length ≤ _; omega) (by omega))
      have HBX2 := Lib.hid hbx2
      have HNB : Hid (wr.heap.size ≠ W.heap.size) := by
        intro e
        obtain ⟨cs, h⟩ := HT.out.block
        have := (Array.getElem?_eq_some_iff.1 h).1
        omega
      clear hb2 hbx2 HS1 HTB HG2
      go_wp2_with fail
      refine HW.out.mono ?_
      rintro e w3 ⟨rfl, ⟨hbd3, hb3⟩, hok⟩
      have hbx3 := hok _ _ HBX2.out (fun e => HNB.out (Option.some.inj e)) (fun c fz e => by cases e)
      have HT3 : Hid (Texting W (.slice (some ⟨g, 0, none⟩) O.length cap) O (l ++ signS x.1) w3) := HT2.out.wrote (by rw [byteCells_app]; exact hbd3) hb3 hok
      have c0 : w3.cell? ⟨wr.heap.size, 0, none⟩ = some (.int .i32 x.1) := by rw [Lib.cell_of_heap hbx3]; rfl
      have c1 : w3.cell? ⟨wr.heap.size, 1, none⟩ = some (.int .i32 x.2) := by rw [Lib.cell_of_heap hbx3]; rfl
      have hs3 : wr.heap.size + 1 ≤ w3.heap.size := Nat.le_trans hs2 hb3.size
      have HBX3 := Lib.hid hbx3
      clear hbd3 hb3 hok hbx3 HW HT2 HBX2
      by_cases hxx : x.1 = x.2
      · have hq : (x.1 == x.2) = true := by simpa using hxx
        have HP : Hid (textL (O.take (k + 1)) = l ++ signS x.1) := by rw [HST.out]; unfold pieceT; rw [if_pos hxx, List.append_nil]; exact Lib.hid rfl
        clear hxx
        go_wp2_with fail
        go_roundw
        case rel => exact ⟨k + 1, by omega, by go_num, by rw [HP.out]; exact HT3.out⟩
        case measure => simp [intOf]; omega
      · have hq : (x.1 == x.2) = false := by simpa using hxx
        have hlt12 : x.1 < x.2 := by omega
        have ws : IntKind.i32.wrap (x.1 + 1) = x.1 + 1 := IntWalk.i32_in _ (by omega)
        have HG3' := Lib.hid (HG.out.stay HT3.out.2.2)
        by_cases hgap : x.1 + 1 < x.2
        · have hgd : decide (x.1 + 1 < x.2) = true := decide_eq_true hgap
          have HP : Hid (textL (O.take (k + 1)) = l ++ signS x.1 ++ [45] ++ signS x.2) := by rw [HST.out]; unfold pieceT; rw [if_neg hxx, if_pos hgap]; simp only [List.append_assoc]; exact Lib.hid trivial
          have HWB := Lib.hid (byte_any W.heap.size W.heap.size (Lib.byteCells (l ++ signS x.1)) 45 w3 HT3.out.1 (by rw [Lib.byteCells_length, List.length_append]; omega) (by omega))
          clear hxx
          go_wp2_with fail
          refine HWB.out.mono ?_
          rintro e w4 ⟨rfl, ⟨hbd4, hb4⟩, hok⟩
          have hbx4 := hok _ _ HBX3.out (fun e => HNB.out (Option.some.inj e)) (fun c fz e => by cases e)
          have HT4 : Hid (Texting W (.slice (some ⟨g, 0, none⟩) O.length cap) O (l ++ signS x.1 ++ [45]) w4) := HT3.out.wrote (by rw [byteCells_app]; exact hbd4) hb4 hok
          have d0 : w4.cell? ⟨wr.heap.size, 0, none⟩ = some (.int .i32 x.1) := by rw [Lib.cell_of_heap hbx4]; rfl
          have d1 : w4.cell? ⟨wr.heap.size, 1, none⟩ = some (.int .i32 x.2) := by rw [Lib.cell_of_heap hbx4]; rfl
          have hs4 : wr.heap.size + 1 ≤ w4.heap.size := Nat.le_trans hs3 hb4.size
          have HBX4 := Lib.hid hbx4
          have HS2 := Lib.hid (sign_any x.2 HVR.out.2 esc3 (by decide) w4 (HG.out.stay HT4.out.2.2))
          rw [← sign_str] at HS2
          unfold esc3 at HS2
          clear hbd4 hb4 hok hbx4 HWB
          go_wp2_with fail
          refine (HS2.out).mono ?_
          rintro e w5 ⟨rfl, hb5⟩
          have HT5 := Lib.hid (HT4.out.stay hb5)
          have hbx5 := (hb5.block wr.heap.size (by omega)).trans HBX4.out
          have HBX5 := Lib.hid hbx5
          have hs5 : wr.heap.size + 1 ≤ w5.heap.size := Nat.le_trans hs4 hb5.size
          have HW2 := Lib.hid (write_any W.heap.size W.heap.size (Lib.byteCells (l ++ signS x.1 ++ [45])) ⟨(signS x.2).toArray⟩ w5 HT5.out.1 (by rw [Lib.byteCells_length]; simp only [List.length_append, List.length_singleton]; show l.length + (signS x.1).length + 1 + (signS x.2).length ≤ _; omega) (by omega))
          clear hb5 hbx5
          go_wp2_with fail
          refine HW2.out.mono ?_
          rintro e w6 ⟨rfl, ⟨hbd6, hb6⟩, hok⟩
          have HT6 : Hid (Texting W (.slice (some ⟨g, 0, none⟩) O.length cap) O ((l ++ signS x.1 ++ [45]) ++ signS x.2) w6) := HT5.out.wrote (by rw [byteCells_app]; exact hbd6) hb6 hok
          clear hbd6 hb6 hok HW2
          go_wp2_with fail
          go_roundw
          case rel => exact ⟨k + 1, by omega, by go_num, by rw [HP.out]; exact HT6.out⟩
          case measure => simp [intOf]; omega
        · have hgd : decide (x.1 + 1 < x.2) = false := decide_eq_false hgap
          have HP : Hid (textL (O.take (k + 1)) = l ++ signS x.1 ++ signS x.2) := by rw [HST.out]; unfold pieceT; rw [if_neg hxx, if_neg hgap]; simp only [List.append_assoc, List.nil_append]; exact Lib.hid trivial
          have HS2 := Lib.hid (sign_any x.2 HVR.out.2 esc3 (by decide) w3 HG3'.out)
          rw [← sign_str] at HS2
          unfold esc3 at HS2
          clear hxx
          go_wp2_with fail
          refine (HS2.out).mono ?_
          rintro e w5 ⟨rfl, hb5⟩
          have HT5 := Lib.hid (HT3.out.stay hb5)
          have hbx5 := (hb5.block wr.heap.size (by omega)).trans HBX3.out
          have HBX5 := Lib.hid hbx5
          have hs5 : wr.heap.size + 1 ≤ w5.heap.size := Nat.le_trans hs3 hb5.size
          have HW2 := Lib.hid (write_any W.heap.size W.heap.size (Lib.byteCells (l ++ signS x.1)) ⟨(signS x.2).toArray⟩ w5 HT5.out.1 (by rw [Lib.byteCells_length]; simp only [List.length_append]; show l.length + (signS x.1).length + (signS x.2).length ≤ _; omega) (by omega))
          clear hb5 hbx5
          go_wp2_with fail
          refine HW2.out.mono ?_
          rintro e w6 ⟨rfl, ⟨hbd6, hb6⟩, hok⟩
          have HT6 : Hid (Texting W (.slice (some ⟨g, 0, none⟩) O.length cap) O ((l ++ signS x.1) ++ signS x.2) w6) := HT5.out.wrote (by rw [byteCells_app]; exact hbd6) hb6 hok
          clear hbd6 hb6 hok HW2
          go_wp2_with fail
          go_roundw
          case rel => exact ⟨k + 1, by omega, by go_num, by rw [HP.out]; exact HT6.out⟩
          case measure => simp [intOf]; omega
    · obtain rfl : k = O.length := by omega
      rw [List.take_length] at HT
      have HST := Lib.hid (Tryd.Builder_String_any W.heap.size W.heap.size (textL O) wr HT.out.1 hszr)
      clear hT hB hlt
      go_wp2_with fail
      refine HST.out.mono ?_
      rintro e w2 ⟨rfl, hb2⟩
      have HB2 : Hid (Below W.heap.size W w2) := HT.out.2.2.trans hb2
      clear hb2
      go_wp2
      go_ret
      exact ⟨O, rfl, HCN.out, HME.out, HB2.out⟩

end Go.Proofs.YtfjlhfalnciamaaDoor.Chars

namespace Go.Proofs.YtfjlhfalnciamaaDoor.Chars
open Go Go.RowKit Go.Proofs.Chars
open Go.Proofs.YtfjlhfalnciamaaDoor.Utf

theorem known_read : readE ⟨#[97, 45, 99, 95]⟩ = .good [(97, 99), (95, 95)] := by kernel_rfl
theorem known_esc : escE (txt ⟨#[117, 123, 50, 48, 97, 99, 125, 120]⟩).b (⟨#[117, 123, 50, 48, 97, 99, 125, 120]⟩ : ByteArray).size = some (8364, 7) := by kernel_rfl
theorem known_text : textL [(95, 95), (97, 99)] = [95, 97, 45, 99] := by kernel_rfl
theorem known_no : ¬ memU [(95, 95), (97, 99)] 100 := by
  rintro ⟨_, _, x, hx, h1, h2⟩
  simp at hx
  rcases hx with rfl | rfl
  · exact absurd h2 (by decide)
  · exact absurd h2 (by decide)
theorem known_count : countC [(95, 95), (97, 99)] = 4 := by decide

set_option maxRecDepth 100000 in
theorem works_any (W : World) (T : GT W) : Calls Tryd.prog 27 #[] W fun e w' => e = .returned (.bool true) ∧ Below W.heap.size W w' := by
  have HR := Lib.hid (read_any ⟨#[97, 45, 99, 95]⟩ (by decide) W T.1)
  rw [known_read] at HR
  have HG := Lib.hid T
  have HE := Lib.hid (fun w => esc_any ⟨#[117, 123, 50, 48, 97, 99, 125, 120]⟩ (by decide) w)
  rw [known_esc] at HE
  unfold escV at HE
  clear T
  go_enter Tryd.func27, Tryd.ntmps27
  go_wp2_with fail
  refine HR.out.mono ?_
  rintro e w1 ⟨v, O, rfl, hro, hof, hol, hb1⟩
  obtain rfl := known_is hof
  have hin : ∀ x ∈ ([(95, 95), (97, 99)] : List Rg), in32 x := canon_in32 hof.1 (Int.le_refl _)
  have hrg := hro.rgs hin
  have HRG := Lib.hid hrg
  have HB1 := Lib.hid hb1
  unfold stopV
  clear hro hof hol hb1 HR hin hrg
  go_wp2_with fail
  refine (HE.out _).mono ?_
  rintro e w2 ⟨rfl, rfl⟩
  have hba : Below w1.heap.size w1 (w1.alloc (.cells #[.int .i64 0, .int .i64 0] 48)) := (Below.refl _ _).alloc (Nat.le_refl _) _
  have HG1 := Lib.hid ((HG.out.stay HB1.out).stay hba)
  have HRG1 := Lib.hid (HRG.out.stay hba)
  have HB2 : Hid (Below W.heap.size W (w1.alloc (.cells #[.int .i64 0, .int .i64 0] 48))) := HB1.out.alloc HB1.out.size _
  have hsz1 : W.heap.size ≤ (w1.alloc (.cells #[.int .i64 0, .int .i64 0] 48)).heap.size := HB2.out.size
  have HT := Lib.hid (text_any _ HG1.out HRG1.out (by decide))
  have hl0 : w1.heap.size < (w1.alloc (.cells #[.int .i64 0, .int .i64 0] 48)).heap.size := by simp
  clear hba
  go_wp2_with fail
  refine HT.out.mono ?_
  rintro e w3 ⟨O, rfl, hcan, hmem, hb3⟩
  have hO : O = [(95, 95), (97, 99)] := by
    refine hcan.uniq known_canon fun r => ?_
    rw [← hcan.memU, ← known_canon.memU, hmem]
    constructor
    · exact fun h => h.1
    · intro h
      refine ⟨h, fun h2 => ?_⟩
      obtain ⟨_, _, x, hx, h3, h4⟩ := h
      obtain ⟨_, _, y, hy, h5, h6⟩ := h2
      simp [sur] at hy
      subst hy
      simp at hx
      rcases hx with rfl | rfl
      · have : r ≤ 95 := h4
        have : 55296 ≤ r := h5
        omega
      · have : r ≤ 99 := h4
        have : 55296 ≤ r := h5
        omega
  subst hO
  rw [known_text]
  have HRG3 := Lib.hid (HRG1.out.stay hb3)
  have HG3 := Lib.hid (HG1.out.stay hb3)
  have HB3 : Hid (Below W.heap.size W w3) := HB2.out.trans (hb3.mono hsz1)
  have HC := Lib.hid (count_any HRG3.out (by decide))
  have hsz3 := HB3.out.size
  clear hcan hmem hb3 HT
  go_wp2_with fail
  refine HC.out.mono ?_
  rintro e w4 ⟨O, rfl, hof, hb4⟩
  have hO : O = [(95, 95), (97, 99)] := hof.uniq known_canon.isOf fun _ => Iff.rfl
  subst hO
  rw [known_count]
  have HRG4 := Lib.hid (HRG3.out.stay hb4)
  have HB4 : Hid (Below W.heap.size W w4) := HB3.out.trans (hb4.mono hsz3)
  have HH := Lib.hid (has_any HRG4.out (by decide) 98 true ⟨fun _ => ⟨by decide, by decide, (97, 99), by simp, by decide, by decide⟩, fun _ => rfl⟩)
  have hsz4 := HB4.out.size
  clear hof hb4 HC
  go_wp2_with fail
  refine HH.out.mono ?_
  rintro e w5 ⟨rfl, hb5⟩
  have HRG5 := Lib.hid (HRG4.out.stay hb5)
  have HB5 : Hid (Below W.heap.size W w5) := HB4.out.trans (hb5.mono hsz4)
  have HH2 := Lib.hid (has_any HRG5.out (by decide) 100 false ⟨(fun h => absurd h (by simp)), fun h => (known_no h).elim⟩)
  have hsz5 := HB5.out.size
  clear hb5 HH
  go_wp2_with fail
  refine HH2.out.mono ?_
  rintro e w6 ⟨rfl, hb6⟩
  have HB6 : Hid (Below W.heap.size W w6) := HB5.out.trans (hb6.mono hsz5)
  have HS := Lib.hid (sign_any 10 (by decide) ⟨#[]⟩ (by decide) w6 (HG.out.stay HB6.out))
  have hk : signB 10 ⟨#[]⟩ = ⟨#[92, 110]⟩ := by unfold signB; rw [if_pos rfl]
  rw [hk] at HS
  have hsz6 := HB6.out.size
  clear hb6 HH2 hk
  go_wp2_with fail
  refine HS.out.mono ?_
  rintro e w7 ⟨rfl, hb7⟩
  have HB7 : Hid (Below W.heap.size W w7) := HB6.out.trans (hb7.mono hsz6)
  clear hb7 HS
  go_wp2
  go_ret
  exact ⟨rfl, HB7.out⟩

end Go.Proofs.YtfjlhfalnciamaaDoor.Chars
