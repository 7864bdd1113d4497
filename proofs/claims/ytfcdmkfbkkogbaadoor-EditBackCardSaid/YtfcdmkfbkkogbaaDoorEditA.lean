/- Contracts of the package edit: what is refused; Apply, and the document's. -/
import Derived.Test.YtfcdmkfbkkogbaaDoorUtfM
namespace Go.Proofs.YtfcdmkfbkkogbaaDoor.Edit
open Go Go.RowKit Go.Proofs.YtfcdmkfbkkogbaaDoor.Utf

/-- An edit, as a value. -/
def editV (a c : Int) (p : ByteArray) : Value := .agg #[.int .i64 a, .int .i64 c, .string p]
/-- What an edit of a text is refused with; 0: it is not. -/
def codeE (s : ByteArray) (a c : Int) (p : ByteArray) : Int :=
  if a < 0 ∨ c < 0 ∨ (s.size : Int) < a ∨ (s.size : Int) - a < c then 2
  else if caretB (txt s) a = false ∨ caretB (txt s) (a + c) = false then 30
  else if 65536 < (s.size : Int) - c + (p.size : Int) then 3 else 0

set_option maxRecDepth 100000 in
theorem refused_any (s : ByteArray) (a c : Int) (p : ByteArray) (W : World) (T : U8 W) (hs : s.size ≤ 1000000) (hp : p.size ≤ 1000000)
    (ha : -9223372036854775808 ≤ a ∧ a ≤ 9223372036854775807) (hc : -9223372036854775808 ≤ c ∧ c ≤ 9223372036854775807) :
    Calls Tryd.prog 59 #[.string s, editV a c p] W fun e w' => e = .returned (.int .i64 (codeE s a c p)) ∧ Below W.heap.size W w' := by
  have hB0 := (Below.refl W.heap.size W).alloc (Nat.le_refl _) (.cells #[.int .i64 a, .int .i64 c, .string p] 41)
  have HB0 := Lib.hid hB0
  have HT := Lib.hid (T.stay hB0)
  unfold editV
  clear hB0 T
  by_cases h1 : a < 0
  · have hcode : codeE s a c p = 2 := if_pos (.inl h1)
    rw [hcode]
    have e1 : decide (a < 0) = true := decide_eq_true h1
    clear hcode ha hc
    go_enter Tryd.func59, Tryd.ntmps59
    go_wp2
    go_ret
    exact ⟨rfl, HB0.out⟩
  have e1 : decide (a < 0) = false := decide_eq_false h1
  by_cases h2 : c < 0
  · have hcode : codeE s a c p = 2 := if_pos (.inr (.inl h2))
    rw [hcode]
    have e2 : decide (c < 0) = true := decide_eq_true h2
    clear hcode ha hc
    go_enter Tryd.func59, Tryd.ntmps59
    go_wp2
    go_ret
    exact ⟨rfl, HB0.out⟩
  have e2 : decide (c < 0) = false := decide_eq_false h2
  obtain ⟨k, rfl⟩ := Int.eq_ofNat_of_zero_le (show 0 ≤ a by omega)
  obtain ⟨m, rfl⟩ := Int.eq_ofNat_of_zero_le (show 0 ≤ c by omega)
  by_cases h3 : s.size < k
  · have hcode : codeE s k m p = 2 := if_pos (.inr (.inr (.inl (by omega))))
    rw [hcode]
    have e3 : decide (s.size < k) = true := decide_eq_true h3
    have e3' : decide ((s.size : Int) < (k : Int)) = true := decide_eq_true (by omega)
    clear hcode hc
    go_enter Tryd.func59, Tryd.ntmps59
    go_wp2
    go_ret
    exact ⟨rfl, HB0.out⟩
  have e3 : decide (s.size < k) = false := decide_eq_false h3
  have e3' : decide ((s.size : Int) < (k : Int)) = false := decide_eq_false (by omega)
  by_cases h4 : (s.size : Int) - k < m
  · have hcode : codeE s k m p = 2 := if_pos (.inr (.inr (.inr h4)))
    rw [hcode]
    have e4 : decide ((s.size : Int) - (k : Int) < (m : Int)) = true := decide_eq_true h4
    clear hcode
    go_enter Tryd.func59, Tryd.ntmps59
    go_wp2
    go_ret
    exact ⟨rfl, HB0.out⟩
  have e4 : decide ((s.size : Int) - (k : Int) < (m : Int)) = false := decide_eq_false h4
  have hk : k ≤ s.size := by omega
  have hm : k + m ≤ s.size := by omega
  have hcode : codeE s k m p = if caretB (txt s) k = false ∨ caretB (txt s) ((k : Int) + m) = false then 30 else if 65536 < (s.size : Int) - m + (p.size : Int) then 3 else 0 := if_neg (by omega)
  have H1 := Lib.hid (caret_any s k _ HT.out hs)
  have H2 := Lib.hid (fun w hw => caret_any s ((k : Int) + m) w hw hs)
  obtain ⟨c1, hc1⟩ : ∃ x, caretB (txt s) (k : Int) = x := ⟨_, rfl⟩
  obtain ⟨c2, hc2⟩ : ∃ x, caretB (txt s) ((k : Int) + m) = x := ⟨_, rfl⟩
  rw [hc1] at H1 hcode
  rw [hc2] at H2 hcode
  rw [hcode]
  have hk6 : (k : Int) ≤ 1000000 := by omega
  have hm6 : (m : Int) ≤ 1000000 := by omega
  have hl0 : W.heap.size < (W.alloc (.cells #[.int .i64 (k : Int), .int .i64 (m : Int), .string p] 41)).heap.size := by simp
  have HL0 := Lib.hid hl0
  clear hc1 hc2 hcode h1 h2 h3 h4 ha hc hl0
  cases c1 with
  | false =>
    rw [if_pos (.inl rfl)]
    go_enter Tryd.func59, Tryd.ntmps59
    go_wp2_with fail
    refine H1.out.mono ?_
    rintro e w1 ⟨rfl, hb⟩
    have HB := Lib.hid (HB0.out.trans (hb.mono (Nat.le_of_lt HL0.out)))
    clear hb
    go_wp2
    go_ret
    exact ⟨rfl, HB.out⟩
  | true =>
    have hcases : (c2 = false ∧ Hid ((if true = false ∨ c2 = false then (30 : Int) else if 65536 < (s.size : Int) - m + (p.size : Int) then 3 else 0) = 30)) ∨
        (c2 = true ∧ decide (65536 < (s.size : Int) - (m : Int) + (p.size : Int)) = true ∧ Hid ((if true = false ∨ c2 = false then (30 : Int) else if 65536 < (s.size : Int) - m + (p.size : Int) then 3 else 0) = 3)) ∨
        (c2 = true ∧ decide (65536 < (s.size : Int) - (m : Int) + (p.size : Int)) = false ∧ Hid ((if true = false ∨ c2 = false then (30 : Int) else if 65536 < (s.size : Int) - m + (p.size : Int) then 3 else 0) = 0)) := by
      cases c2 with
      | false => exact .inl ⟨rfl, if_pos (.inr rfl)⟩
      | true =>
        have e : (if true = false ∨ true = false then (30 : Int) else if 65536 < (s.size : Int) - m + (p.size : Int) then 3 else 0) = (if 65536 < (s.size : Int) - m + (p.size : Int) then 3 else 0) := if_neg (by simp)
        by_cases h5 : 65536 < (s.size : Int) - m + (p.size : Int)
        · exact .inr (.inl ⟨rfl, decide_eq_true h5, by rw [e]; exact if_pos h5⟩)
        · exact .inr (.inr ⟨rfl, decide_eq_false h5, by rw [e]; exact if_neg h5⟩)
    obtain ⟨X, hX⟩ : ∃ X, (if true = false ∨ c2 = false then (30 : Int) else if 65536 < (s.size : Int) - m + (p.size : Int) then 3 else 0) = X := ⟨_, rfl⟩
    rw [hX] at hcases ⊢
    clear hX
    rcases hcases with ⟨rfl, HX⟩ | ⟨rfl, e5, HX⟩ | ⟨rfl, e5, HX⟩
    all_goals
      go_enter Tryd.func59, Tryd.ntmps59
      go_wp2_with fail
      refine H1.out.mono ?_
      rintro e w1 ⟨rfl, hb⟩
      have hbl := (hb.block _ HL0.out).trans (heap_alloc_new W _)
      have d0 : w1.cell? ⟨W.heap.size, 0, none⟩ = some (.int .i64 (k : Int)) := by rw [Lib.cell_of_heap hbl]; rfl
      have d1 : w1.cell? ⟨W.heap.size, 1, none⟩ = some (.int .i64 (m : Int)) := by rw [Lib.cell_of_heap hbl]; rfl
      have HBL := Lib.hid hbl
      have HT1 := Lib.hid (HT.out.stay hb)
      have HB := Lib.hid (HB0.out.trans (hb.mono (Nat.le_of_lt HL0.out)))
      have HL1 := Lib.hid (Nat.lt_of_lt_of_le HL0.out hb.size)
      clear hb hbl
      go_wp2_with fail
      refine (H2.out _ HT1.out).mono ?_
      rintro e w2 ⟨rfl, hb⟩
      have hbl := (hb.block _ HL1.out).trans HBL.out
      have f1 : w2.cell? ⟨W.heap.size, 1, none⟩ = some (.int .i64 (m : Int)) := by rw [Lib.cell_of_heap hbl]; rfl
      have f2 : w2.cell? ⟨W.heap.size, 2, none⟩ = some (.string p) := by rw [Lib.cell_of_heap hbl]; rfl
      have HB2 := Lib.hid (HB.out.trans (hb.mono HB.out.size))
      clear hb hbl d0 d1
      go_wp2
      go_ret
      exact ⟨by rw [HX.out]; rfl, HB2.out⟩

end Go.Proofs.YtfcdmkfbkkogbaaDoor.Edit
