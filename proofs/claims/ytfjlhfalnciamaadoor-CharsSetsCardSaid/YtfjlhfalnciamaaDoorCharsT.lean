/- What stands between brackets for a set (Text), walked: the loop. -/
import Derived.Test.YtfjlhfalnciamaaDoorCharsS
namespace Go.Proofs.YtfjlhfalnciamaaDoor.Chars
open Go Go.RowKit Go.Proofs.Chars
open Go.Proofs.YtfjlhfalnciamaaDoor.Utf

theorem byteCells_app (a b : List UInt8) : Lib.byteCells (a ++ b) = Lib.byteCells a ++ Lib.byteCells b := by simp [Lib.byteCells]
/-- The signs of a set: all but what is no sign. -/
def sur : List Rg := [(55296, 57343)]
theorem signs_of {L O : List Rg} (hc : Canon 0 O) (hm : ∀ r, memU O r ↔ memU L r ∧ ¬ memU sur r) : ∀ x ∈ O, Lib.validRune x.1 = true ∧ Lib.validRune x.2 = true := by
  intro x hx
  have hv := canon_all hc (Int.le_refl _) x hx
  have key : ∀ r, x.1 ≤ r → r ≤ x.2 → Lib.validRune r = true := fun r h1 h2 => by
    have := (hm r).1 ((hc.memU r).2 ⟨x, hx, h1, h2⟩)
    apply (valid_iff r).2
    have h3 := this.2
    unfold memU sur most at h3
    unfold most at hv
    simp at h3
    have := this.1.1
    omega
  exact ⟨key _ (Int.le_refl _) hv.2.1, key _ hv.2.1 (Int.le_refl _)⟩
theorem canon_len : ∀ {L : List Rg} {b : Int}, Canon b L → 0 ≤ b → (L.length : Int) + b ≤ most + 2 ∨ L = []
  | [], _, _, _ => .inr rfl
  | x :: l, b, hc, hb => .inl (by
    have h1 := hc.1
    have h2 := hc.2.1
    have h3 := hc.2.2.1
    rcases canon_len hc.2.2.2 (by omega) with h4 | rfl
    · simp only [List.length_cons]; push_cast; omega
    · simp; omega)

set_option maxHeartbeats 2000000 in
set_option maxRecDepth 100000 in
theorem text_any {va : Value} {L : List Rg} (W : World) (T : GT W) (H : Rgs W va L) (hL : L.length ≤ 30000) :
    Calls Tryd.prog 30 #[va] W fun e w' => ∃ O, e = .returned (.string ⟨(textL O).toArray⟩) ∧ Canon 0 O ∧ (∀ r, memU O r ↔ memU L r ∧ ¬ memU sur r) ∧ Below W.heap.size W w' := by
  have HG := Lib.hid T
  have hb0 : Below W.heap.size W (W.alloc (.cells #[.pointer none, .slice none 0 0] 99)) := (Below.refl _ _).alloc (Nat.le_refl _) _
  have H1 := H.stay hb0
  have hb1 : Below (W.heap.size + 1) (W.alloc (.cells #[.pointer none, .slice none 0 0] 99)) ((W.alloc (.cells #[.pointer none, .slice none 0 0] 99)).alloc (.cells #[.int .i32 55296, .int .i32 57343] 44)) := (Below.refl _ _).alloc (by simp) _
  have hlit : Rgs ((W.alloc (.cells #[.pointer none, .slice none 0 0] 99)).alloc (.cells #[.int .i32 55296, .int .i32 57343] 44)) (.slice (some ⟨W.heap.size + 1, 0, none⟩) 1 1) sur := by
    refine ⟨fun x hx => by simp [sur] at hx; subst hx; exact ⟨⟨by decide, by decide⟩, by decide, by decide⟩, some ⟨W.heap.size + 1, 0, none⟩, 1, rfl, by simp [sur], by simp [maxLen], fun _ => ⟨W.heap.size + 1, 0, rfl, by simp, fun i x hx => ?_⟩⟩
    match i, hx with
    | 0, hx => simp [sur] at hx; subst hx; simp
    | i + 1, hx => simp [sur] at hx
  have HLS := Lib.hid (less_any (H1.stay (by simpa using hb1)) hlit (by omega) (by simp [sur]))
  have HTX : Hid (Lib.IsBuilder 99 5 W.heap.size W.heap.size (Lib.byteCells []) ((W.alloc (.cells #[.pointer none, .slice none 0 0] 99)).alloc (.cells #[.int .i32 55296, .int .i32 57343] 44))) :=
    builder_stay (Lib.fresh_isBuilder 99 5 W) (by simpa using hb1)
  have HB1 := Lib.hid (hb0.trans (hb1.mono (by omega)))
  clear T H H1 hb0 hb1 hlit
  go_enter Tryd.func30, Tryd.ntmps30
  go_wp2_with fail
  refine HLS.out.mono ?_
  rintro e w1 ⟨vo, O, rfl, hro, hcan, hmem, hol, hb2⟩
  have hsgn := signs_of hcan hmem
  have hlen1 := (hro.rgs (canon_in32 hcan (Int.le_refl _))).len 3 w1
  have hO5 : O.length ≤ 30002 := by have : sur.length = 1 := rfl; omega
  have HT1 : Hid (Texting W vo O [] w1) := ⟨builder_stay HTX.out hb2, hro.low (by simp; omega), HB1.out.trans (hb2.mono (by simp; omega))⟩
  have HCN := Lib.hid hcan
  have HME := Lib.hid hmem
  have HSG := Lib.hid hsgn
  clear hro hcan hmem hb2 HLS HTX HB1 hsgn
  go_wp2_with fail
  go_loopw [5, 11] (fun x i wx => ∃ k : Nat, k ≤ O.length ∧ i = .int .i64 (k : Int) ∧ Texting W vo O (textL (O.take k)) wx) (fun _ i _ => O.length - (intOf i).toNat)
  case atStart => exact ⟨0, Nat.zero_le _, rfl, HT1.out⟩
  case round =>
    obtain ⟨k, hk, rfl, hT⟩ := hrel
    have HT := Lib.hid hT
    have hB := hT.2.2
    have hszr := hB.size
    by_cases hlt : k < O.length
    · obtain ⟨g, cap, hvo, h31, h32, h33, h34, h35, hcell⟩ := hT.2.1.at (by omega)
      obtain ⟨x, hx⟩ : ∃ x, O[k]? = some x := ⟨O[k], List.getElem?_eq_getElem hlt⟩
      obtain ⟨e0, e1⟩ := hcell k x hx
      have hxv := canon_all HCN.out (Int.le_refl _) x (List.mem_of_getElem? hx)
      have hx1 := hxv.1
      have hx2 := hxv.2.1
      have hx3 := hxv.2.2
      unfold most at hx3
      have hs := HSG.out x (List.mem_of_getElem? hx)
      have htl := textL_len (O.take k) fun y hy => HSG.out y (List.mem_of_mem_take hy)
      have htk : (O.take k).length ≤ 30002 := by simp; omega
      have HST : Hid (textL (O.take (k + 1)) = textL (O.take k) ++ pieceT x) := by
        rw [List.take_succ_eq_append_getElem hlt, textL_snoc, (List.getElem?_eq_some_iff.1 hx).2]; exact Lib.hid rfl
      obtain ⟨l, hl⟩ : ∃ l, textL (O.take k) = l := ⟨_, rfl⟩
      rw [hl] at HT htl HST
      have hll : l.length ≤ 400000 := by omega
      subst hvo
      have HVR := Lib.hid hs
      have hGr : GT wr := HG.out.stay hB
      -- the box of the round
      have hbb : Below wr.heap.size wr (wr.alloc (.cells #[.int .i32 x.1, .int .i32 x.2] 44)) := (Below.refl _ _).alloc (Nat.le_refl _) _
      have HS1 := Lib.hid (sign_any x.1 hs.1 esc3 (by decide) _ (hGr.stay hbb))
      have HTB := Lib.hid (HT.out.stay hbb)
      have hsl1 := signS_len x.1 hs.1
      have hsl2 := signS_len x.2 hs.2
      have HG2 := Lib.hid (hGr.stay hbb)
      rw [← sign_str] at HS1
      unfold esc3 at HS1
      clear hcell hx hxv hs htl htk hl hB hT hGr hbb h31 h32 h34 h35
      go_wp2_with fail
      refine HS1.out.mono ?_
      rintro e w2 ⟨rfl, hb2⟩
      have HT2 := Lib.hid (HTB.out.stay hb2)
      have hbx2 := (hb2.block wr.heap.size (by simp)).trans (heap_alloc_new wr _)
      have hs2 : wr.heap.size + 1 ≤ w2.heap.size := by have := hb2.size; simpa using this
      have HG3 := Lib.hid (HG2.out.stay hb2)
      have HW := Lib.hid (write_any W.heap.size W.heap.size (Lib.byteCells l) ⟨(signS x.1).toArray⟩ w2 HT2.out.1 (by rw [Lib.byteCells_length]; show l.length + (signS x.1).length ≤ _; omega) (by omega))
      have HBX2 := Lib.hid hbx2
      have HNB : Hid (wr.heap.size ≠ W.heap.size) := by
        intro e
        obtain ⟨cs, h⟩ := HT.out.block
        have := (Array.getElem?_eq_some_iff.1 h).1
        omega
      clear hb2 hbx2 HS1 HTB HG2
      go_wp2_with fail
      refine HW.out.mono ?_
      rintro e w3 ⟨rfl, ⟨hbd3, hb3⟩, hok⟩
      have hbx3 := hok _ _ HBX2.out (fun e => HNB.out (Option.some.inj e)) (fun c fz e => by cases e)
      have HT3 : Hid (Texting W (.slice (some ⟨g, 0, none⟩) O.length cap) O (l ++ signS x.1) w3) := HT2.out.wrote (by rw [byteCells_app]; exact hbd3) hb3 hok
      have c0 : w3.cell? ⟨wr.heap.size, 0, none⟩ = some (.int .i32 x.1) := by rw [Lib.cell_of_heap hbx3]; rfl
      have c1 : w3.cell? ⟨wr.heap.size, 1, none⟩ = some (.int .i32 x.2) := by rw [Lib.cell_of_heap hbx3]; rfl
      have hs3 : wr.heap.size + 1 ≤ w3.heap.size := Nat.le_trans hs2 hb3.size
      have HBX3 := Lib.hid hbx3
      clear hbd3 hb3 hok hbx3 HW HT2 HBX2
      by_cases hxx : x.1 = x.2
      · have hq : (x.1 == x.2) = true := by simpa using hxx
        have HP : Hid (textL (O.take (k + 1)) = l ++ signS x.1) := by rw [HST.out]; unfold pieceT; rw [if_pos hxx, List.append_nil]; exact Lib.hid rfl
        clear hxx
        go_wp2_with fail
        go_roundw
        case rel => exact ⟨k + 1, by omega, by go_num, by rw [HP.out]; exact HT3.out⟩
        case measure => simp [intOf]; omega
      · have hq : (x.1 == x.2) = false := by simpa using hxx
        have hlt12 : x.1 < x.2 := by omega
        have ws : IntKind.i32.wrap (x.1 + 1) = x.1 + 1 := IntWalk.i32_in _ (by omega)
        have HG3' := Lib.hid (HG.out.stay HT3.out.2.2)
        by_cases hgap : x.1 + 1 < x.2
        · have hgd : decide (x.1 + 1 < x.2) = true := decide_eq_true hgap
          have HP : Hid (textL (O.take (k + 1)) = l ++ signS x.1 ++ [45] ++ signS x.2) := by rw [HST.out]; unfold pieceT; rw [if_neg hxx, if_pos hgap]; simp only [List.append_assoc]; exact Lib.hid trivial
          have HWB := Lib.hid (byte_any W.heap.size W.heap.size (Lib.byteCells (l ++ signS x.1)) 45 w3 HT3.out.1 (by rw [Lib.byteCells_length, List.length_append]; omega) (by omega))
          clear hxx
          go_wp2_with fail
          refine HWB.out.mono ?_
          rintro e w4 ⟨rfl, ⟨hbd4, hb4⟩, hok⟩
          have hbx4 := hok _ _ HBX3.out (fun e => HNB.out (Option.some.inj e)) (fun c fz e => by cases e)
          have HT4 : Hid (Texting W (.slice (some ⟨g, 0, none⟩) O.length cap) O (l ++ signS x.1 ++ [45]) w4) := HT3.out.wrote (by rw [byteCells_app]; exact hbd4) hb4 hok
          have d0 : w4.cell? ⟨wr.heap.size, 0, none⟩ = some (.int .i32 x.1) := by rw [Lib.cell_of_heap hbx4]; rfl
          have d1 : w4.cell? ⟨wr.heap.size, 1, none⟩ = some (.int .i32 x.2) := by rw [Lib.cell_of_heap hbx4]; rfl
          have hs4 : wr.heap.size + 1 ≤ w4.heap.size := Nat.le_trans hs3 hb4.size
          have HBX4 := Lib.hid hbx4
          have HS2 := Lib.hid (sign_any x.2 HVR.out.2 esc3 (by decide) w4 (HG.out.stay HT4.out.2.2))
          rw [← sign_str] at HS2
          unfold esc3 at HS2
          clear hbd4 hb4 hok hbx4 HWB
          go_wp2_with fail
          refine (HS2.out).mono ?_
          rintro e w5 ⟨rfl, hb5⟩
          have HT5 := Lib.hid (HT4.out.stay hb5)
          have hbx5 := (hb5.block wr.heap.size (by omega)).trans HBX4.out
          have HBX5 := Lib.hid hbx5
          have hs5 : wr.heap.size + 1 ≤ w5.heap.size := Nat.le_trans hs4 hb5.size
          have HW2 := Lib.hid (write_any W.heap.size W.heap.size (Lib.byteCells (l ++ signS x.1 ++ [45])) ⟨(signS x.2).toArray⟩ w5 HT5.out.1 (by rw [Lib.byteCells_length]; simp only [List.length_append, List.length_singleton]; show l.length + (signS x.1).length + 1 + (signS x.2).length ≤ _; omega) (by omega))
          clear hb5 hbx5
          go_wp2_with fail
          refine HW2.out.mono ?_
          rintro e w6 ⟨rfl, ⟨hbd6, hb6⟩, hok⟩
          have HT6 : Hid (Texting W (.slice (some ⟨g, 0, none⟩) O.length cap) O ((l ++ signS x.1 ++ [45]) ++ signS x.2) w6) := HT5.out.wrote (by rw [byteCells_app]; exact hbd6) hb6 hok
          clear hbd6 hb6 hok HW2
          go_wp2_with fail
          go_roundw
          case rel => exact ⟨k + 1, by omega, by go_num, by rw [HP.out]; exact HT6.out⟩
          case measure => simp [intOf]; omega
        · have hgd : decide (x.1 + 1 < x.2) = false := decide_eq_false hgap
          have HP : Hid (textL (O.take (k + 1)) = l ++ signS x.1 ++ signS x.2) := by rw [HST.out]; unfold pieceT; rw [if_neg hxx, if_neg hgap]; simp only [List.append_assoc, List.nil_append]; exact Lib.hid trivial
          have HS2 := Lib.hid (sign_any x.2 HVR.out.2 esc3 (by decide) w3 HG3'.out)
          rw [← sign_str] at HS2
          unfold esc3 at HS2
          clear hxx
          go_wp2_with fail
          refine (HS2.out).mono ?_
          rintro e w5 ⟨rfl, hb5⟩
          have HT5 := Lib.hid (HT3.out.stay hb5)
          have hbx5 := (hb5.block wr.heap.size (by omega)).trans HBX3.out
          have HBX5 := Lib.hid hbx5
          have hs5 : wr.heap.size + 1 ≤ w5.heap.size := Nat.le_trans hs3 hb5.size
          have HW2 := Lib.hid (write_any W.heap.size W.heap.size (Lib.byteCells (l ++ signS x.1)) ⟨(signS x.2).toArray⟩ w5 HT5.out.1 (by rw [Lib.byteCells_length]; simp only [List.length_append]; show l.length + (signS x.1).length + (signS x.2).length ≤ _; omega) (by omega))
          clear hb5 hbx5
          go_wp2_with fail
          refine HW2.out.mono ?_
          rintro e w6 ⟨rfl, ⟨hbd6, hb6⟩, hok⟩
          have HT6 : Hid (Texting W (.slice (some ⟨g, 0, none⟩) O.length cap) O ((l ++ signS x.1) ++ signS x.2) w6) := HT5.out.wrote (by rw [byteCells_app]; exact hbd6) hb6 hok
          clear hbd6 hb6 hok HW2
          go_wp2_with fail
          go_roundw
          case rel => exact ⟨k + 1, by omega, by go_num, by rw [HP.out]; exact HT6.out⟩
          case measure => simp [intOf]; omega
    · obtain rfl : k = O.length := by omega
      rw [List.take_length] at HT
      have HST := Lib.hid (Tryd.Builder_String_any W.heap.size W.heap.size (textL O) wr HT.out.1 hszr)
      clear hT hB hlt
      go_wp2_with fail
      refine HST.out.mono ?_
      rintro e w2 ⟨rfl, hb2⟩
      have HB2 : Hid (Below W.heap.size W w2) := HT.out.2.2.trans hb2
      clear hb2
      go_wp2
      go_ret
      exact ⟨O, rfl, HCN.out, HME.out, HB2.out⟩

end Go.Proofs.YtfjlhfalnciamaaDoor.Chars
