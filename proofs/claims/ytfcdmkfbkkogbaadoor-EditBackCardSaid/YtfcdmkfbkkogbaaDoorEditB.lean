/- Apply; the document's Caret, Count and Apply. -/
import Derived.Test.YtfcdmkfbkkogbaaDoorEditA
namespace Go.Proofs.YtfcdmkfbkkogbaaDoor.Edit
open Go Go.RowKit Go.Proofs.YtfcdmkfbkkogbaaDoor.Utf

def applS (s : ByteArray) (k m : Nat) (p : ByteArray) : ByteArray := s.extract 0 k ++ p ++ s.extract (k + m) s.size
theorem code_yes {s p : ByteArray} {a c : Int} (h : codeE s a c p = 0) : ∃ k m : Nat, a = k ∧ c = m ∧ k + m ≤ s.size ∧ caretB (txt s) k = true ∧ caretB (txt s) ((k : Int) + m) = true ∧ (s.size : Int) - m + p.size ≤ 65536 := by
  unfold codeE at h
  by_cases h1 : a < 0 ∨ c < 0 ∨ (s.size : Int) < a ∨ (s.size : Int) - a < c
  · rw [if_pos h1] at h; omega
  rw [if_neg h1] at h
  by_cases h2 : caretB (txt s) a = false ∨ caretB (txt s) (a + c) = false
  · rw [if_pos h2] at h; omega
  rw [if_neg h2] at h
  by_cases h3 : 65536 < (s.size : Int) - c + (p.size : Int)
  · rw [if_pos h3] at h; omega
  obtain ⟨k, rfl⟩ := Int.eq_ofNat_of_zero_le (show 0 ≤ a by omega)
  obtain ⟨m, rfl⟩ := Int.eq_ofNat_of_zero_le (show 0 ≤ c by omega)
  refine ⟨k, m, rfl, rfl, by omega, ?_, ?_, by omega⟩
  · cases hh : caretB (txt s) (k : Int) with
    | true => rfl
    | false => exact absurd (.inl hh) h2
  · cases hh : caretB (txt s) ((k : Int) + (m : Int)) with
    | true => rfl
    | false => exact absurd (.inr hh) h2

set_option maxRecDepth 100000 in
theorem apply_no (s : ByteArray) (a c : Int) (p : ByteArray) (W : World) (T : U8 W) (hs : s.size ≤ 1000000) (hp : p.size ≤ 1000000)
    (ha : -9223372036854775808 ≤ a ∧ a ≤ 9223372036854775807) (hc : -9223372036854775808 ≤ c ∧ c ≤ 9223372036854775807) (h : codeE s a c p ≠ 0) :
    Calls Tryd.prog 26 #[.string s, editV a c p] W fun e w' => e = .returned (.tuple #[.string ⟨#[]⟩, .int .i64 (codeE s a c p)]) ∧ Below W.heap.size W w' := by
  have hB0 := (Below.refl W.heap.size W).alloc (Nat.le_refl _) (.cells #[.int .i64 a, .int .i64 c, .string p] 41)
  have HB0 := Lib.hid hB0
  have H1 := Lib.hid (refused_any s a c p _ (T.stay hB0) hs hp ha hc)
  unfold editV at H1
  unfold editV
  have hne : (codeE s a c p != 0) = true := by rw [bne_iff_ne]; exact h
  obtain ⟨X, hX⟩ : ∃ X, codeE s a c p = X := ⟨_, rfl⟩
  rw [hX] at H1 hne ⊢
  clear hB0 T hX h ha hc
  go_enter Tryd.func26, Tryd.ntmps26
  go_wp2_with fail
  refine H1.out.mono ?_
  rintro e w1 ⟨rfl, hb⟩
  have HB := Lib.hid (HB0.out.trans (hb.mono (by simp)))
  clear hb
  go_wp2
  go_ret2
  exact ⟨rfl, HB.out⟩

set_option maxRecDepth 100000 in
theorem apply_yes (s : ByteArray) (k m : Nat) (p : ByteArray) (W : World) (T : U8 W) (hs : s.size ≤ 1000000) (hp : p.size ≤ 1000000) (h : codeE s k m p = 0) :
    Calls Tryd.prog 26 #[.string s, editV k m p] W fun e w' => e = .returned (.tuple #[.string (applS s k m p), .int .i64 0]) ∧ Below W.heap.size W w' := by
  obtain ⟨k', m', e1, e2, hkm, -, -, -⟩ := code_yes h
  obtain rfl : k = k' := by omega
  obtain rfl : m = m' := by omega
  clear e1 e2
  have hB0 := (Below.refl W.heap.size W).alloc (Nat.le_refl _) (.cells #[.int .i64 (k : Int), .int .i64 (m : Int), .string p] 41)
  have HB0 := Lib.hid hB0
  have H1 := Lib.hid (refused_any s k m p _ (T.stay hB0) hs hp (by omega) (by omega))
  rw [h] at H1
  unfold editV at H1
  unfold editV applS
  have hx1 : (s.extract 0 k).size ≤ 1000000 := by rw [ext_size s (by omega)]; omega
  have hx2 : (s.extract (k + m) s.size).size ≤ 1000000 := by rw [ext_size s (Nat.le_refl _)]; omega
  have hk6 : (k : Int) ≤ 1000000 := by omega
  have hm6 : (m : Int) ≤ 1000000 := by omega
  have hks : (k : Int) ≤ (s.size : Int) := by omega
  have hkms : (k : Int) + (m : Int) ≤ (s.size : Int) := by omega
  clear hB0 T h
  go_enter Tryd.func26, Tryd.ntmps26
  go_wp2_with fail
  refine H1.out.mono ?_
  rintro e w1 ⟨rfl, hb⟩
  have hbl := (hb.block _ (by simp)).trans (heap_alloc_new W _)
  have d0 : w1.cell? ⟨W.heap.size, 0, none⟩ = some (.int .i64 (k : Int)) := by rw [Lib.cell_of_heap hbl]; rfl
  have d1 : w1.cell? ⟨W.heap.size, 1, none⟩ = some (.int .i64 (m : Int)) := by rw [Lib.cell_of_heap hbl]; rfl
  have d2 : w1.cell? ⟨W.heap.size, 2, none⟩ = some (.string p) := by rw [Lib.cell_of_heap hbl]; rfl
  have HB := Lib.hid (HB0.out.trans (hb.mono (by simp)))
  clear hb hbl
  go_wp2_with fail
  go_quiet (fail)
  go_wp2
  go_ret2
  exact ⟨rfl, below_drewNv HB.out _⟩

/-- Going from item to item until a place is come to, or the end. -/
theorem come_caret (t : Txt) (k j : Nat) (hlt : ∀ i, i < j → t.pos i < k) (hj : j ≤ t.cnt) (hend : k ≤ t.pos j ∨ t.n ≤ t.pos j) : (((t.pos j : Nat) : Int) == (k : Int)) = caretB t (k : Int) := by
  have hle : t.pos j ≤ t.n := by
    rcases Nat.lt_or_eq_of_le hj with h | h
    · exact Nat.le_of_lt (t.pos_of_lt h)
    · rw [h, t.pos_cnt]; exact Nat.le_refl _
  rw [Bool.eq_iff_iff, beq_iff_eq, caret_iff]
  constructor
  · intro h
    exact ⟨by omega, j, by omega⟩
  · rintro ⟨h1, q, h2⟩
    have hqj : j ≤ q := by
      apply Nat.le_of_not_lt
      intro h
      have := hlt q h
      omega
    rcases Nat.lt_or_eq_of_le hqj with h | h
    · have := t.pos_lt h
      rcases hend with h3 | h3
      · omega
      · omega
    · subst h; omega
set_option maxRecDepth 100000 in
theorem refcaret_any (s : ByteArray) (k : Nat) (W : World) (hs : s.size ≤ 1000000) (hk : (k : Int) ≤ 9223372036854775807) :
    Calls Tryd.prog 34 #[.string s, .int .i64 (k : Int)] W fun e w' => e = .returned (.bool (caretB (txt s) (k : Int))) ∧ Below W.heap.size W w' := by
  obtain ⟨S, hS⟩ : ∃ S, S = W.heap.size := ⟨_, rfl⟩
  rw [← hS]
  have hsz : S ≤ W.heap.size := by omega
  obtain ⟨Q, hQ⟩ : ∃ Q, caretB (txt s) (k : Int) = Q := ⟨_, rfl⟩
  rw [hQ]
  have HQ := Lib.hid hQ
  clear hS hQ
  go_enter Tryd.func34, Tryd.ntmps34
  go_wp2_with fail
  go_loopw [5, 6, 7] (fun i a b wx => ∃ j : Nat, j ≤ (txt s).cnt ∧ i = .int .i64 ((txt s).pos j : Int) ∧ (∀ i, i < j → (txt s).pos i < k) ∧ Below S W wx) (fun i _ _ _ => s.size - (intOf i).toNat)
  case atStart => exact ⟨0, Nat.zero_le _, rfl, fun i hi => by omega, Below.refl _ _⟩
  case round =>
    obtain ⟨j, hj, rfl, hlt, hB⟩ := hrel
    have HB := Lib.hid hB
    have HLT := Lib.hid hlt
    have hn : (txt s).n = s.size := rfl
    have hszr : S ≤ wr.heap.size := Nat.le_trans hsz hB.size
    clear hB hlt
    by_cases hgo : (txt s).pos j < s.size ∧ (txt s).pos j < k
    · obtain ⟨h1, h2⟩ := hgo
      have hjc := (txt s).lt_cnt (show (txt s).pos j < (txt s).n from h1)
      have HA := Lib.hid (refat_any s ((txt s).pos j) wr h1 hs)
      have hps : (txt s).pos (j + 1) = (txt s).pos j + (txt s).w ((txt s).pos j) := rfl
      have HL2 : Hid (∀ i, i < j + 1 → (txt s).pos i < k) := fun i hi => by
        by_cases e : i = j
        · subst e; exact h2
        · exact HLT.out i (by omega)
      have hwn := (txt s).w_in _ (show (txt s).pos j < (txt s).n from h1)
      have hw1 := (txt s).w_pos ((txt s).pos j)
      rw [hn] at hwn
      obtain ⟨p, hp⟩ : ∃ x, (txt s).pos j = x := ⟨_, rfl⟩
      rw [hp] at h1 h2 HA hps hwn hw1 ⊢
      obtain ⟨w0, hw0⟩ : ∃ x, (txt s).w p = x := ⟨_, rfl⟩
      obtain ⟨r0, hr0⟩ : ∃ x, refR (txt s) p = x := ⟨_, rfl⟩
      rw [hw0, hr0] at HA
      rw [hw0] at hps hwn hw1
      have HPS := Lib.hid hps
      clear hp hw0 hr0 hps hn
      go_wp2_with fail
      refine HA.out.mono ?_
      rintro e w1 ⟨rfl, hb⟩
      have HB1 := Lib.hid (HB.out.trans (hb.mono hszr))
      clear hb
      go_wp2
      go_roundw
      case rel => exact ⟨j + 1, by omega, by rw [HPS.out]; go_num, HL2.out, HB1.out⟩
      case measure => simp [intOf]; omega
    · have hr := come_caret (txt s) k j HLT.out hj (by omega)
      rw [HQ.out] at hr
      have hcase : decide ((txt s).pos j < s.size) = false ∨ (decide ((txt s).pos j < s.size) = true ∧ decide ((txt s).pos j < k) = false) := by
        by_cases h1 : (txt s).pos j < s.size
        · exact .inr ⟨decide_eq_true h1, decide_eq_false fun h2 => hgo ⟨h1, h2⟩⟩
        · exact .inl (decide_eq_false h1)
      obtain ⟨p, hp⟩ : ∃ x, (txt s).pos j = x := ⟨_, rfl⟩
      rw [hp] at hr hcase ⊢
      clear hp hgo hn hj
      rcases hcase with e1 | ⟨e1, e2⟩
      all_goals
        go_wp2
        go_ret
        exact ⟨rfl, HB.out⟩

end Go.Proofs.YtfcdmkfbkkogbaaDoor.Edit
