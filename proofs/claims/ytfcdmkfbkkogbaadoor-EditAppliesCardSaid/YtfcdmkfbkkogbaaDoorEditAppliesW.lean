/- The law EditApplies, walked. -/
import Derived.Test.YtfcdmkfbkkogbaaDoorEditD
namespace Go.Proofs.YtfcdmkfbkkogbaaDoor.Edit
open Go Go.RowKit Go.Proofs.YtfcdmkfbkkogbaaDoor.Utf

set_option maxRecDepth 100000 in
theorem applies_walk (s : ByteArray) (a c : Int) (p : ByteArray) (W : World) (h : U8 W)
    (ha : -9223372036854775808 ≤ a ∧ a ≤ 9223372036854775807) (hc : -9223372036854775808 ≤ c ∧ c ≤ 9223372036854775807) :
    Calls Tryd.prog 8 #[.string s, editV a c p] W fun e w' => e = .returned (.bool true) ∧ Below W.heap.size W w' := by
  have hB0 := (Below.refl W.heap.size W).alloc (Nat.le_refl _) (.cells #[.int .i64 a, .int .i64 c, .string p] 41)
  have HB0 := Lib.hid hB0
  have HT0 := Lib.hid (h.stay hB0)
  clear hB0 h
  unfold editV
  by_cases hl : 2000 < s.size
  · have e1 : decide ((2000 : Int) < (s.size : Int)) = true := decide_eq_true (by omega)
    clear ha hc
    go_enter Tryd.func8, Tryd.ntmps8
    go_wp2
    go_ret
    exact ⟨rfl, HB0.out⟩
  have e1 : decide ((2000 : Int) < (s.size : Int)) = false := decide_eq_false (by omega)
  by_cases hl2 : 70000 < p.size
  · have e2 : decide ((70000 : Int) < (p.size : Int)) = true := decide_eq_true (by omega)
    clear ha hc
    go_enter Tryd.func8, Tryd.ntmps8
    go_wp2
    go_ret
    exact ⟨rfl, HB0.out⟩
  have e2 : decide ((70000 : Int) < (p.size : Int)) = false := decide_eq_false (by omega)
  have H2 := Lib.hid (fun w => refapply_any s a c p w (by omega) (by omega) ha hc)
  have hw := Lib.hid (fun w (hw : U8 w) => works_any w hw)
  by_cases hcode : codeE s a c p = 0
  · obtain ⟨k, m, rfl, rfl, -, -, -, -⟩ := code_yes hcode
    have H1 := Lib.hid (apply_yes s k m p _ HT0.out (by omega) (by omega) hcode)
    have HC := Lib.hid hcode
    unfold editV at H1
    obtain ⟨Y, hY⟩ : ∃ Y, applS s k m p = Y := ⟨_, rfl⟩
    rw [hY] at H1
    have HY := Lib.hid hY
    clear ha hc hl hl2 hcode hY
    go_enter Tryd.func8, Tryd.ntmps8
    go_wp2_with fail
    refine H1.out.mono ?_
    rintro e w1 ⟨rfl, hb⟩
    have hbl := (hb.block _ (by simp)).trans (heap_alloc_new W _)
    have d0 : w1.cell? ⟨W.heap.size, 0, none⟩ = some (.int .i64 (k : Int)) := by rw [Lib.cell_of_heap hbl]; rfl
    have d1 : w1.cell? ⟨W.heap.size, 1, none⟩ = some (.int .i64 (m : Int)) := by rw [Lib.cell_of_heap hbl]; rfl
    have d2 : w1.cell? ⟨W.heap.size, 2, none⟩ = some (.string p) := by rw [Lib.cell_of_heap hbl]; rfl
    have HT1 := Lib.hid (HT0.out.stay hb)
    have HB1 := Lib.hid (HB0.out.trans (hb.mono (by simp)))
    clear hb hbl
    go_wp2_with fail
    refine (H2.out _).mono ?_
    rintro e w2 ⟨⟨X, rfl, hX⟩, hb⟩
    obtain rfl : X = Y := by
      rcases hX with ⟨h, _⟩ | ⟨_, h⟩
      · exact absurd HC.out h
      · rw [h, ← HY.out, Int.toNat_natCast, Int.toNat_natCast]
    clear hX
    rw [HC.out]
    have HT2 := Lib.hid (HT1.out.stay hb)
    have HB2 := Lib.hid (HB1.out.trans (hb.mono HB1.out.size))
    have HW := Lib.hid (works_any w2 HT2.out)
    clear hb
    go_wp2_with fail
    refine HW.out.mono ?_
    rintro e w3 ⟨rfl, hb⟩
    have HB3 := Lib.hid (HB2.out.trans (hb.mono HB2.out.size))
    clear hb
    go_wp2
    go_ret
    exact ⟨rfl, HB3.out⟩
  · have H1 := Lib.hid (apply_no s a c p _ HT0.out (by omega) (by omega) ha hc hcode)
    unfold editV at H1
    have HC := Lib.hid hcode
    obtain ⟨x, hx⟩ : ∃ x, codeE s a c p = x := ⟨_, rfl⟩
    rw [hx] at H1
    have HX := Lib.hid hx
    clear ha hc hl hl2 hcode hx
    go_enter Tryd.func8, Tryd.ntmps8
    go_wp2_with fail
    refine H1.out.mono ?_
    rintro e w1 ⟨rfl, hb⟩
    have hbl := (hb.block _ (by simp)).trans (heap_alloc_new W _)
    have d0 : w1.cell? ⟨W.heap.size, 0, none⟩ = some (.int .i64 a) := by rw [Lib.cell_of_heap hbl]; rfl
    have d1 : w1.cell? ⟨W.heap.size, 1, none⟩ = some (.int .i64 c) := by rw [Lib.cell_of_heap hbl]; rfl
    have d2 : w1.cell? ⟨W.heap.size, 2, none⟩ = some (.string p) := by rw [Lib.cell_of_heap hbl]; rfl
    have HT1 := Lib.hid (HT0.out.stay hb)
    have HB1 := Lib.hid (HB0.out.trans (hb.mono (by simp)))
    clear hb hbl
    go_wp2_with fail
    refine (H2.out _).mono ?_
    rintro e w2 ⟨⟨X, rfl, hX⟩, hb⟩
    obtain rfl : X = ⟨#[]⟩ := by
      rcases hX with ⟨_, h⟩ | ⟨h, _⟩
      · exact h
      · exact absurd h HC.out
    clear hX
    rw [HX.out]
    have HT2 := Lib.hid (HT1.out.stay hb)
    have HB2 := Lib.hid (HB1.out.trans (hb.mono HB1.out.size))
    have HW := Lib.hid (works_any w2 HT2.out)
    clear hb
    go_wp2_with fail
    refine HW.out.mono ?_
    rintro e w3 ⟨rfl, hb⟩
    have HB3 := Lib.hid (HB2.out.trans (hb.mono HB2.out.size))
    clear hb
    go_wp2
    go_ret
    exact ⟨rfl, HB3.out⟩

end Go.Proofs.YtfcdmkfbkkogbaaDoor.Edit
