/- The parts of a grammar's text: literals (package lex), walked. -/
import Derived.Test.YtfjlhfalnciamaaDoorLexE
import Derived.Test.YtfjlhfalnciamaaDoorLexF
namespace Go.Proofs.YtfjlhfalnciamaaDoor.Lex
open Go Go.RowKit Go.Proofs.Chars
open Go.Proofs.YtfjlhfalnciamaaDoor.Utf Go.Proofs.YtfjlhfalnciamaaDoor.Chars

inductive Lt where
  | bad (c : Int) (p : Nat) : Lt
  | good (l : List UInt8) : Lt
/-- What a literal says, from a place on up to where it ends. -/
def litGo (s : ByteArray) (z : Nat) : Nat → Nat → List UInt8 → Lt
  | 0, _, l => .good l
  | f + 1, p, l =>
    if p < z then
      if (txt s).ok p = false ∨ (txt s).r p = 10 then .bad 11 p
      else if (txt s).r p ≠ 92 then litGo s z f (p + (txt s).w p) (l ++ (s.extract p (p + (txt s).w p)).data.toList)
      else match escE (txt (s.extract (p + 1) z)).b (s.extract (p + 1) z).size with
        | none => .bad 12 p
        | some (r, n) => litGo s z f (p + 1 + n) (l ++ (encB r).data.toList)
    else .good l
def litX (s : ByteArray) (a : Nat) : Nx :=
  match untilE (txt s).b s.size 39 (s.size + 1) (a + 1) with
  | none => .bad 10 a
  | some z =>
    match litGo s z (s.size + 1) (a + 1) [] with
    | .bad c p => .bad c p
    | .good l => if l = [] then .bad 14 a else .tok 3 (z + 1) ⟨l.toArray⟩ none
abbrev B0 : Obj := .cells #[.pointer none, .slice none 0 0] 99
/-- What the scan of a literal keeps. -/
def Liting (W : World) (l : List UInt8) (wx : World) : Prop :=
  Lib.IsBuilder 99 5 (W.heap.size + 2) (W.heap.size + 2) (Lib.byteCells l) wx ∧ Below (W.heap.size + 2) ((W.alloc T0).alloc S0) wx
theorem Liting.stay {W wx w' : World} {l : List UInt8} (h : Liting W l wx) (hb : Below wx.heap.size wx w') : Liting W l w' :=
  ⟨builder_stay h.1 hb, h.2.trans (hb.mono (by have := h.2.size; simpa using this))⟩
theorem Liting.wrote {W wx w' : World} {l l' : List UInt8} (h : Liting W l wx) (hn : Lib.BuilderAt 99 5 (W.heap.size + 2) (W.heap.size + 2) (.pointer (some ⟨W.heap.size + 2, 0, none⟩)) (Lib.byteCells l') w') (hb : Below (W.heap.size + 2) wx w') : Liting W l' w' :=
  ⟨.inr hn, h.2.trans hb⟩
theorem Liting.start (W : World) : Liting W [] (((W.alloc T0).alloc S0).alloc B0) := by
  have hsz : ((W.alloc T0).alloc S0).heap.size = W.heap.size + 2 := by simp
  refine ⟨.inl ⟨Nat.le_refl _, .slice none 0 0, ?_, ⟨rfl, .inl ⟨rfl, rfl⟩⟩, by simp [Value.ownBlock]⟩, ?_⟩
  · have h := heap_alloc_new ((W.alloc T0).alloc S0) B0
    rw [hsz] at h
    exact h
  · exact (Below.refl _ _).alloc (by rw [hsz]; exact Nat.le_refl _) _
theorem liting_w {W wx : World} {l : List UInt8} (h : Liting W l wx) : Below W.heap.size W wx :=
  (two_allocs W T0 S0).trans (h.2.mono (by omega))
theorem liting_size {W wx : World} {l : List UInt8} (h : Liting W l wx) : W.heap.size + 2 ≤ wx.heap.size := by
  have := h.2.size; simpa using this
theorem byteCells_nil {l : List UInt8} : (Lib.byteCells l).length = l.length := by simp [Lib.byteCells]

/-- What stands in the two results while nothing is stored. -/
theorem tok_cells {H : Nat} {wx : World} (b0 : wx.heap[H]? = some (.cells #[.int .i64 0, .int .i64 0, .int .i64 0, .string ⟨#[]⟩, .slice none 0 0] 62 (0, 0))) (b1 : wx.heap[H + 1]? = some (.cells #[.int .i64 0, .int .i64 0] 48 (0, 0))) :
    (wx.cell? ⟨H, 0, none⟩ = some (.int .i64 0) ∧ wx.cell? ⟨H, 1, none⟩ = some (.int .i64 0) ∧ wx.cell? ⟨H, 2, none⟩ = some (.int .i64 0) ∧ wx.cell? ⟨H, 3, none⟩ = some (.string ⟨#[]⟩) ∧ wx.cell? ⟨H, 4, none⟩ = some (.slice none 0 0) ∧ wx.cell? ⟨H + 1, 0, none⟩ = some (.int .i64 0) ∧ wx.cell? ⟨H + 1, 1, none⟩ = some (.int .i64 0)) ∧
    wx.frozen? ⟨H, 0, none⟩ = false ∧ wx.frozen? ⟨H, 1, none⟩ = false ∧ wx.frozen? ⟨H, 2, none⟩ = false ∧ wx.frozen? ⟨H, 3, none⟩ = false ∧ wx.frozen? ⟨H, 4, none⟩ = false ∧ wx.frozen? ⟨H + 1, 0, none⟩ = false ∧ wx.frozen? ⟨H + 1, 1, none⟩ = false := by
  refine ⟨⟨?_, ?_, ?_, ?_, ?_, ?_, ?_⟩, Lib.frozen_of_heap b0 0, Lib.frozen_of_heap b0 1, Lib.frozen_of_heap b0 2, Lib.frozen_of_heap b0 3, Lib.frozen_of_heap b0 4, Lib.frozen_of_heap b1 0, Lib.frozen_of_heap b1 1⟩
  all_goals first | (rw [Lib.cell_of_heap b0]; rfl) | (rw [Lib.cell_of_heap b1]; rfl)
theorem litGo_end {s : ByteArray} {z f p : Nat} {l : List UInt8} (h : ¬ p < z) : litGo s z f p l = .good l := by
  cases f with
  | zero => rw [litGo]
  | succ f => rw [litGo, if_neg h]

set_option maxHeartbeats 1000000 in
set_option maxRecDepth 100000 in
theorem litX_any (s : ByteArray) (hs : s.size ≤ 50000) (a : Nat) (ha : a < s.size) (W : World) (T : U8 W) : Calls Tryd.prog 90 #[.string s, .int .i64 (a : Int)] W fun e w' => NextP W a (litX s a) e w' := by
  have HU := Lib.hid (fun w => until_any s (by omega) (a + 1) 39 (by omega) w)
  have HTA := Lib.hid (two_allocs W)
  rw [show (((a + 1 : Nat)) : Int) = (a : Int) + 1 by omega] at HU
  obtain ⟨N, hN⟩ : ∃ N, litX s a = N := ⟨_, rfl⟩
  rw [hN]
  unfold litX at hN
  cases hu : untilE (txt s).b s.size 39 (s.size + 1) (a + 1) with
  | none =>
    rw [hu] at HU hN
    unfold untilV at HU
    clear hu
    subst hN
    go_enter Tryd.func90, Tryd.ntmps90
    go_wp2_with (go_at_call 126; refine (HU.out _).mono ?_; rintro e w' ⟨rfl, rfl⟩)
    refine bodyPost_ret (v := .tuple #[tokV 0 0 0 ⟨#[]⟩ (.slice none 0 0), stopV 10 a]) (by simp [results, Tryd.results90, go_sem, tokV, stopV]) rfl ?_
    exact ⟨rfl, HTA.out _ _⟩
  | some z =>
    rw [hu] at HU hN
    obtain ⟨E, hE⟩ : ∃ E, litGo s z (s.size + 1) (a + 1) [] = E := ⟨_, rfl⟩
    simp only [hE] at hN
    have HE := Lib.hid hE
    have HN := Lib.hid hN
    clear hN hE
    unfold untilV at HU
    have hin := untilE_in _ _ _ _ _ _ hu
    clear hu
    have g4 : ¬ (z : Int) < 0 := by omega
    have g5 : decide ((z : Int) < 0) = false := decide_eq_false g4
    have HT := Lib.hid T
    have HST := Lib.hid (Liting.start W)
    clear T
    go_enter Tryd.func90, Tryd.ntmps90
    go_wp2_with (go_at_call 126; refine (HU.out _).mono ?_; rintro e w' ⟨rfl, rfl⟩)
    go_loopw [8, 9, 10, 11, 12] (fun x8 x9 x10 x11 x12 wx => ∃ (p f : Nat) (l : List UInt8), a + 1 ≤ p ∧ p ≤ s.size ∧ s.size < p + f ∧ l.length ≤ 4 * p ∧ x8 = .int .i64 (p : Int) ∧ litGo s z f p l = E ∧ Liting W l wx) (fun x8 _ _ _ _ _ => s.size - (intOf x8).toNat)
    case atStart => exact ⟨a + 1, s.size + 1, [], by omega, by omega, by omega, by simp, by go_num, HE.out, HST.out⟩
    case round =>
      obtain ⟨p, f, l, hp1, hp2, hf, hll, rfl, hgo, hlit⟩ := hrel
      have HG := Lib.hid hgo
      have HL := Lib.hid hlit
      have hszr := liting_size hlit
      clear hgo hlit
      by_cases hpz : p < z
      · have g1 : (p : Int) < (z : Int) := by omega
        have g2 : decide ((p : Int) < (z : Int)) = true := decide_eq_true g1
        obtain ⟨f, rfl⟩ : ∃ g, f = g + 1 := ⟨f - 1, by omega⟩
        have HA := Lib.hid (at_in s p wr (HT.out.stay (liting_w HL.out)) (by omega))
        unfold itemV at HA
        have hgo := HG.out
        rw [litGo, if_pos hpz] at hgo
        have hw1 := (txt s).w_pos p
        have hwi := (txt s).w_in p (show p < s.size by omega)
        have hwn : p + (txt s).w p ≤ s.size := hwi
        obtain ⟨R, hR⟩ : ∃ R, (txt s).r p = R := ⟨_, rfl⟩
        obtain ⟨K, hK⟩ : ∃ K, (txt s).w p = K := ⟨_, rfl⟩
        obtain ⟨Q, hQ⟩ : ∃ Q, (txt s).ok p = Q := ⟨_, rfl⟩
        rw [hR, hK, hQ] at hgo HA
        rw [hK] at hw1 hwn
        clear hwi hR hK hQ HG
        have HGO := Lib.hid hgo
        clear hgo
        go_wp2_with fail
        refine HA.out.mono ?_
        rintro e w2 ⟨rfl, hb2⟩
        have hba : Below w2.heap.size w2 (w2.alloc (.cells #[.int .i64 (p : Int), .int .i64 (K : Int), .int .i32 (R : Int), .bool Q] 110)) := (Below.refl _ _).alloc (Nat.le_refl _) _
        have hl3 := (HL.out.stay hb2).stay hba
        have hx : (w2.alloc (.cells #[.int .i64 (p : Int), .int .i64 (K : Int), .int .i32 (R : Int), .bool Q] 110)).heap[w2.heap.size]? = some (.cells #[.int .i64 (p : Int), .int .i64 (K : Int), .int .i32 (R : Int), .bool Q] 110 (0, 0)) := heap_alloc_new _ _
        have hsz3 := liting_size hl3
        have hlt3 : w2.heap.size < (w2.alloc (.cells #[.int .i64 (p : Int), .int .i64 (K : Int), .int .i32 (R : Int), .bool Q] 110)).heap.size := by simp
        have hsz2 : W.heap.size + 3 ≤ w2.heap.size := by
          rcases HL.out.1 with ⟨_, v, hbk, _⟩ | ⟨_, v, hbk, _⟩
          · have := (Array.getElem?_eq_some_iff.1 hbk).1; have := hb2.size; omega
          · have := (Array.getElem?_eq_some_iff.1 hbk).1; have := hb2.size; omega
        have HL3 := Lib.hid hl3
        clear hba hl3 hb2 HA HL
        go_upto_region 8 with fail
        generalize (w2.alloc (.cells #[.int .i64 (p : Int), .int .i64 (K : Int), .int .i32 (R : Int), .bool Q] 110)) = w3 at *
        have hx0 : w3.cell? ⟨w2.heap.size, 1, none⟩ = some (.int .i64 (K : Int)) := by rw [Lib.cell_of_heap hx]; rfl
        have hx1 : w3.cell? ⟨w2.heap.size, 2, none⟩ = some (.int .i32 (R : Int)) := by rw [Lib.cell_of_heap hx]; rfl
        have hx2 : w3.cell? ⟨w2.heap.size, 3, none⟩ = some (.bool Q) := by rw [Lib.cell_of_heap hx]; rfl
        have HX := Lib.hid hx
        clear hx
        by_cases hbad : Q = false ∨ R = 10
        · have hEq : N = .bad 11 p := by have h := HGO.out; rw [if_pos hbad] at h; have h2 := HN.out; rw [← h] at h2; exact h2.symm
          have EQ := Lib.hid hEq
          obtain ⟨b0, b1⟩ := tok_blocks HL3.out.2
          obtain ⟨⟨c0, c1, c2, c3, c4, c5, c6⟩, f0, f1, f2, f3, f4, f5, f6⟩ := tok_cells b0 b1
          have HF := Lib.hid (put7_below (liting_w HL3.out))
          clear hEq b0 b1 HGO HL3 HX
          cases Q with
          | false =>
            go_wp2
            refine bodyPost_ret (v := .tuple #[tokV 0 0 0 ⟨#[]⟩ (.slice none 0 0), stopV 11 p]) (by simp [results, Tryd.results90, go_sem, tokV, stopV, c0, c1, c2, c3, c4, c5, c6]) rfl ?_
            rw [EQ.out]
            exact ⟨rfl, HF.out _ _ _ _ _ _ _⟩
          | true =>
            have hR : R = 10 := by rcases hbad with h | h; cases h; exact h
            subst hR
            go_wp2
            refine bodyPost_ret (v := .tuple #[tokV 0 0 0 ⟨#[]⟩ (.slice none 0 0), stopV 11 p]) (by simp [results, Tryd.results90, go_sem, tokV, stopV, c0, c1, c2, c3, c4, c5, c6]) rfl ?_
            rw [EQ.out]
            exact ⟨rfl, HF.out _ _ _ _ _ _ _⟩
        · have hQ : Q = true := by cases Q with | true => rfl | false => exact absurd (.inl rfl) hbad
          have hR10 : ¬ R = 10 := fun h => hbad (.inr h)
          subst hQ
          have p1 : ((R : Int) == 10) = false := by simpa using (by omega : ¬ (R : Int) = 10)
          have hgo := HGO.out
          rw [if_neg hbad] at hgo
          clear HGO hbad
          by_cases h92 : R = 92
          · rw [if_neg (by simpa using h92)] at hgo
            have p2 : ((R : Int) != 92) = false := by simpa using (by omega : (R : Int) = 92)
            have hext := ext_size s (i := p + 1) (j := z) (by omega)
            have HES := Lib.hid (esc_any (s.extract (p + 1) z) (by omega) w3)
            have q1 : (0 : Int) ≤ (p : Int) + 1 := by omega
            have q2 : (p : Int) + 1 ≤ (z : Int) := by omega
            have q3 : (z : Int) ≤ (s.size : Int) := by omega
            have q4 : ((p : Int) + 1).toNat = p + 1 := by omega
            cases hes : escE (txt (s.extract (p + 1) z)).b (s.extract (p + 1) z).size with
            | none =>
              simp only [hes] at hgo
              rw [hes] at HES
              unfold escV at HES
              have hEq : N = .bad 12 p := by have h2 := HN.out; rw [← hgo] at h2; exact h2.symm
              have EQ := Lib.hid hEq
              obtain ⟨b0, b1⟩ := tok_blocks HL3.out.2
              obtain ⟨⟨c0, c1, c2, c3, c4, c5, c6⟩, f0, f1, f2, f3, f4, f5, f6⟩ := tok_cells b0 b1
              have HF := Lib.hid (put7_below (liting_w HL3.out))
              clear hEq b0 b1 hgo HL3 HX hes
              go_wp2_with (go_at_call 47; refine HES.out.mono ?_; rintro e w' ⟨rfl, rfl⟩)
              refine bodyPost_ret (v := .tuple #[tokV 0 0 0 ⟨#[]⟩ (.slice none 0 0), stopV 12 p]) (by simp [results, Tryd.results90, go_sem, tokV, stopV, c0, c1, c2, c3, c4, c5, c6]) rfl ?_
              rw [EQ.out]
              exact ⟨rfl, HF.out _ _ _ _ _ _ _⟩
            | some rn =>
              obtain ⟨r, n⟩ := rn
              simp only [hes] at hgo
              rw [hes] at HES
              unfold escV at HES
              have hrv := escE_sign hes
              have hni := escE_in hes
              rw [hext] at hni
              have HWR := Lib.hid (rune_any (W.heap.size + 2) (W.heap.size + 2) l r hrv w3 HL3.out.1 (by omega) (by omega))
              have hlen2 := (encB_size r hrv).2
              have hlen3 : (encB r).data.toList.length ≤ 4 := by rw [← Lib.size_eq]; exact hlen2
              obtain ⟨l', hl'⟩ : ∃ l', l ++ (encB r).data.toList = l' := ⟨_, rfl⟩
              have hll2 : l'.length ≤ 4 * (p + 1 + n) := by rw [← hl', List.length_append]; omega
              rw [hl'] at hgo HWR
              have HGO := Lib.hid hgo
              clear hgo hes hl' hlen2 hlen3
              go_wp2_with (go_at_call 47; refine HES.out.mono ?_; rintro e w' ⟨rfl, rfl⟩)
              refine HWR.out.mono ?_
              rintro e w4 ⟨x, rfl, ⟨hbd, hb4⟩, hok⟩
              have HL4 := Lib.hid (HL3.out.wrote hbd hb4)
              clear hbd hb4 hok HWR HL3 HX
              go_wp2_with fail
              go_roundw
              case rel => exact ⟨p + 1 + n, f, l', by omega, by omega, by omega, hll2, by go_num, HGO.out, HL4.out⟩
              case measure => simp [intOf]; omega
          · rw [if_pos h92] at hgo
            have p2 : ((R : Int) != 92) = true := by simpa using (by omega : ¬ (R : Int) = 92)
            obtain ⟨y, hy⟩ : ∃ y, p + K = y := ⟨_, rfl⟩
            have e1 : (p : Int) + (K : Int) = (y : Int) := by omega
            have e0 : IntKind.i64.wrap ((p : Int) + (K : Int)) = (y : Int) := by rw [e1]; exact IntWalk.i64_in _ (by omega)
            have g3 : (p : Int) ≤ (y : Int) := by omega
            have g6 : (y : Int) ≤ (s.size : Int) := by omega
            have g7 : (0 : Int) ≤ (y : Int) := by omega
            rw [hy] at hgo
            have hes := ext_size s (i := p) (j := y) (by omega)
            have HWR := Lib.hid (write_any (W.heap.size + 2) (W.heap.size + 2) (Lib.byteCells l) (s.extract p y) w3 HL3.out.1 (by rw [byteCells_nil]; omega) (by omega))
            have hsc : Lib.byteCells l ++ Lib.strCells (s.extract p y) = Lib.byteCells (l ++ (s.extract p y).data.toList) := by rw [byteCells_app]; rfl
            rw [hsc] at HWR
            obtain ⟨l', hl'⟩ : ∃ l', l ++ (s.extract p y).data.toList = l' := ⟨_, rfl⟩
            have hll2 : l'.length ≤ 4 * y := by rw [← hl', List.length_append, ← Lib.size_eq, hes]; omega
            rw [hl'] at hgo HWR
            have HGO := Lib.hid hgo
            have hpy : p < y := by omega
            clear hgo hl' hsc hes hy
            go_wp2_with fail
            refine HWR.out.mono ?_
            rintro e w4 ⟨rfl, ⟨hbd, hb4⟩, hok⟩
            have hx4 := hok _ _ HX.out (by simp; omega) (fun c fz e => by cases e)
            have hx0 : w4.cell? ⟨w2.heap.size, 1, none⟩ = some (.int .i64 (K : Int)) := by rw [Lib.cell_of_heap hx4]; rfl
            have HL4 := Lib.hid (HL3.out.wrote hbd hb4)
            clear hbd hb4 hok HWR HL3 HX hx4
            go_wp2_with fail
            go_roundw
            case rel => exact ⟨y, f, l', by omega, by omega, by omega, hll2, by go_num, HGO.out, HL4.out⟩
            case measure => simp [intOf]; omega
      · have g1 : ¬ (p : Int) < (z : Int) := by omega
        have g2 : decide ((p : Int) < (z : Int)) = false := decide_eq_false g1
        have hgo := HG.out
        rw [litGo_end hpz] at hgo
        have hN := HN.out
        rw [← hgo] at hN
        simp only [] at hN
        have HN := Lib.hid hN
        have HLN := Lib.hid (Tryd.Builder_Len (W.heap.size + 2) (W.heap.size + 2) (Lib.byteCells l) wr HL.out.1)
        rw [byteCells_nil] at HLN
        clear hgo hN HG
        by_cases hl0 : l = []
        · subst hl0
          obtain ⟨b0, b1⟩ := tok_blocks HL.out.2
          obtain ⟨⟨c0, c1, c2, c3, c4, c5, c6⟩, f0, f1, f2, f3, f4, f5, f6⟩ := tok_cells b0 b1
          have HF := Lib.hid (put7_below (liting_w HL.out))
          have hEq : N = .bad 14 a := by have h := HN.out; rw [if_pos rfl] at h; exact h.symm
          have EQ := Lib.hid hEq
          rw [List.length_nil] at HLN
          clear hEq b0 b1 HL
          go_wp2_with (go_at_call 128; refine HLN.out.mono ?_; rintro e w' ⟨rfl, rfl⟩)
          refine bodyPost_ret (v := .tuple #[tokV 0 0 0 ⟨#[]⟩ (.slice none 0 0), stopV 14 a]) (by simp [results, Tryd.results90, go_sem, tokV, stopV, c0, c1, c2, c3, c4, c5, c6]) rfl ?_
          rw [EQ.out]
          exact ⟨rfl, HF.out _ _ _ _ _ _ _⟩
        · have hEq : N = .tok 3 (z + 1) ⟨l.toArray⟩ none := by have h := HN.out; rw [if_neg hl0] at h; exact h.symm
          have EQ := Lib.hid hEq
          have hlen : 0 < l.length := List.length_pos_iff.2 hl0
          have p1 : ((l.length : Int) == 0) = false := by simpa using (by omega : ¬ (l.length : Int) = 0)
          have HST := Lib.hid (Tryd.Builder_String_any (W.heap.size + 2) (W.heap.size + 2) l wr HL.out.1 (by omega))
          obtain ⟨n, hn⟩ : ∃ n, l.length = n := ⟨_, rfl⟩
          rw [hn] at HLN p1
          clear hEq hl0 hlen hn
          go_wp2_with (go_at_call 128; refine HLN.out.mono ?_; rintro e w' ⟨rfl, rfl⟩)
          refine HST.out.mono ?_
          rintro e w4 ⟨rfl, hb4⟩
          have hB4 := HL.out.2.trans hb4
          obtain ⟨b0, b1⟩ := tok_blocks hB4
          obtain ⟨⟨c0, c1, c2, c3, c4, c5, c6⟩, f0, f1, f2, f3, f4, f5, f6⟩ := tok_cells b0 b1
          have HF := Lib.hid (put7_below ((two_allocs W T0 S0).trans (hB4.mono (by omega))))
          have q1 : (z : Int) + 1 ≤ 9223372036854775807 := by omega
          clear hb4 hB4 b0 b1 HL HST
          go_wp2
          refine bodyPost_ret (v := .tuple #[tokV 3 a (z + 1) ⟨l.toArray⟩ (.slice none 0 0), stopV 0 0]) (by rw [show tokV 3 a (z + 1) ⟨l.toArray⟩ (.slice none 0 0) = .agg #[.int .i64 3, .int .i64 (a : Int), .int .i64 ((z : Int) + 1), .string ⟨l.toArray⟩, .slice none 0 0] by simp only [tokV]; rw [show ((z + 1 : Nat) : Int) = (z : Int) + 1 by omega]]; simp [results, Tryd.results90, go_sem, stopV, c0, c1, c2, c3, c4, c5, c6]) rfl ?_
          rw [EQ.out]
          exact ⟨_, rfl, rfl, HF.out _ _ _ _ _ _ _⟩

end Go.Proofs.YtfjlhfalnciamaaDoor.Lex
