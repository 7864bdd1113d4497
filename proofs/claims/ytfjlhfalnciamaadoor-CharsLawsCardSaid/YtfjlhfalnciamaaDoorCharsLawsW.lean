/- The law CharsLaws, walked. -/
import Derived.Test.YtfjlhfalnciamaaDoorCharsU
namespace Go.Proofs.YtfjlhfalnciamaaDoor.Chars
open Go Go.RowKit Go.Proofs.Chars
open Go.Proofs.YtfjlhfalnciamaaDoor.Utf

/-- What the law keeps: both sets read, the tables stand. -/
def At (W : World) (va vb : Value) (a b : List Rg) (w : World) : Prop := Rgs w va a ∧ Rgs w vb b ∧ Below W.heap.size W w ∧ GT w
theorem At.next {W w w' : World} {va vb : Value} {a b : List Rg} (h : At W va vb a b w) (hb : Below w.heap.size w w') : At W va vb a b w' :=
  ⟨h.1.stay hb, h.2.1.stay hb, h.2.2.1.trans (hb.mono h.2.2.1.size), h.2.2.2.stay hb⟩

set_option maxRecDepth 100000 in
theorem laws_long {w : World} {va vb : Value} {a b : List Rg} (Ha : Rgs w va a) (Hb : Rgs w vb b) (h : 20 < a.length ∨ 20 < b.length) :
    Calls Tryd.prog 6 #[va, vb] w fun e w' => e = .returned (.bool true) ∧ Below w.heap.size w w' := by
  have HLA := Ha.len 3 w
  have HLB := Hb.len 3 w
  clear Ha Hb
  by_cases ha : 20 < a.length
  · have h1 : (20 : Int) < a.length := by omega
    have h2 : decide ((20 : Int) < a.length) = true := decide_eq_true h1
    go_enter Tryd.func6, Tryd.ntmps6
    go_wp2
    go_ret
    exact ⟨rfl, Below.refl _ _⟩
  · have h1 : ¬ (20 : Int) < a.length := by omega
    have h2 : decide ((20 : Int) < a.length) = false := decide_eq_false h1
    have h3 : (20 : Int) < b.length := by omega
    have h4 : decide ((20 : Int) < b.length) = true := decide_eq_true h3
    go_enter Tryd.func6, Tryd.ntmps6
    go_wp2
    go_ret
    exact ⟨rfl, Below.refl _ _⟩

theorem law_not (p q : Prop) (l m : Prop) : (l ∧ m ∧ ¬ (p ∧ q)) ↔ ((l ∧ m ∧ ¬ p) ∨ (l ∧ m ∧ ¬ q)) := by
  by_cases p <;> by_cases q <;> simp_all
theorem law_split (p q : Prop) : ((p ∧ ¬ q) ∨ (p ∧ q)) ↔ p := by
  by_cases p <;> by_cases q <;> simp_all
theorem law_twice {p l m : Prop} (h : p → l ∧ m) : (l ∧ m ∧ ¬ (l ∧ m ∧ ¬ p)) ↔ p := by
  by_cases p <;> by_cases l <;> by_cases m <;> simp_all

set_option maxHeartbeats 4000000 in
set_option maxRecDepth 100000 in
theorem laws_walk {W : World} {va vb : Value} {a b : List Rg} (Ha : Rgs W va a) (Hb : Rgs W vb b) (hla : ¬ 20 < a.length) (hlb : ¬ 20 < b.length) (T : GT W) :
    Calls Tryd.prog 6 #[va, vb] W fun e w' => e = .returned (.bool true) ∧ Below W.heap.size W w' := by
  have HLA := Ha.len 3 W
  have HLB := Hb.len 3 W
  have d1 : ¬ (20 : Int) < a.length := by omega
  have d2 : decide ((20 : Int) < a.length) = false := decide_eq_false d1
  have d3 : ¬ (20 : Int) < b.length := by omega
  have d4 : decide ((20 : Int) < b.length) = false := decide_eq_false d3
  have HAT : Hid (At W va vb a b W) := ⟨Ha, Hb, Below.refl _ _, T⟩
  clear Ha Hb T
  go_enter Tryd.func6, Tryd.ntmps6
  have HC := Lib.hid (and_any HAT.out.1 HAT.out.2.1 (by omega) (by omega))
  go_wp2_with fail
  refine HC.out.mono ?_
  rintro e w1 ⟨v1, o1, rfl, hr, hc, hm, hl1, hb⟩
  have HAT := Lib.hid (HAT.out.next hb)
  have HR1 := Lib.hid (hr.rgs (canon_in32 hc (Int.le_refl _)))
  have HM1 : Hid (∀ r, memU o1 r ↔ memU a r ∧ memU b r) := Lib.hid hm
  clear hr hc hm hb HC
  have HC := Lib.hid (not_any HR1.out (by omega))
  go_wp2_with fail
  refine HC.out.mono ?_
  rintro e w2 ⟨v2, o2, rfl, hr, hc, hm, hl2, hb⟩
  have HR1 := Lib.hid (HR1.out.stay hb)
  have HAT := Lib.hid (HAT.out.next hb)
  have HR2 := Lib.hid (hr.rgs (canon_in32 hc (Int.le_refl _)))
  have HM2 : Hid (∀ r, memU o2 r ↔ 0 ≤ r ∧ r ≤ most ∧ ¬ memU o1 r) := Lib.hid hm
  clear hr hc hm hb HC
  have HC := Lib.hid (not_any HAT.out.1 (by omega))
  go_wp2_with fail
  refine HC.out.mono ?_
  rintro e w3 ⟨v3, o3, rfl, hr, hc, hm, hl3, hb⟩
  have HR1 := Lib.hid (HR1.out.stay hb)
  have HR2 := Lib.hid (HR2.out.stay hb)
  have HAT := Lib.hid (HAT.out.next hb)
  have HR3 := Lib.hid (hr.rgs (canon_in32 hc (Int.le_refl _)))
  have HM3 : Hid (∀ r, memU o3 r ↔ 0 ≤ r ∧ r ≤ most ∧ ¬ memU a r) := Lib.hid hm
  clear hr hc hm hb HC
  have HC := Lib.hid (not_any HAT.out.2.1 (by omega))
  go_wp2_with fail
  refine HC.out.mono ?_
  rintro e w4 ⟨v4, o4, rfl, hr, hc, hm, hl4, hb⟩
  have HR1 := Lib.hid (HR1.out.stay hb)
  have HR2 := Lib.hid (HR2.out.stay hb)
  have HR3 := Lib.hid (HR3.out.stay hb)
  have HAT := Lib.hid (HAT.out.next hb)
  have HR4 := Lib.hid (hr.rgs (canon_in32 hc (Int.le_refl _)))
  have HM4 : Hid (∀ r, memU o4 r ↔ 0 ≤ r ∧ r ≤ most ∧ ¬ memU b r) := Lib.hid hm
  clear hr hc hm hb HC
  have HC := Lib.hid (or_any HR3.out HR4.out (by omega) (by omega))
  go_wp2_with fail
  refine HC.out.mono ?_
  rintro e w5 ⟨v5, o5, rfl, hr, hc, hm, hl5, hb⟩
  have HR1 := Lib.hid (HR1.out.stay hb)
  have HR2 := Lib.hid (HR2.out.stay hb)
  have HR3 := Lib.hid (HR3.out.stay hb)
  have HR4 := Lib.hid (HR4.out.stay hb)
  have HAT := Lib.hid (HAT.out.next hb)
  have HR5 := Lib.hid (hr.rgs (canon_in32 hc (Int.le_refl _)))
  have HM5 : Hid (∀ r, memU o5 r ↔ memU o3 r ∨ memU o4 r) := Lib.hid hm
  clear hr hc hm hb HC
  have HC := Lib.hid (same_any HR2.out HR5.out (by omega) (by omega) true ⟨fun _ r => by rw [HM2.out, HM5.out, HM3.out, HM4.out, HM1.out]; exact law_not _ _ _ _, fun _ => rfl⟩)
  go_wp2_with fail
  refine HC.out.mono ?_
  rintro e w6 ⟨rfl, hb⟩
  have HR1 := Lib.hid (HR1.out.stay hb)
  have HR2 := Lib.hid (HR2.out.stay hb)
  have HR3 := Lib.hid (HR3.out.stay hb)
  have HR4 := Lib.hid (HR4.out.stay hb)
  have HR5 := Lib.hid (HR5.out.stay hb)
  have HAT := Lib.hid (HAT.out.next hb)
  clear hb HC
  have HC := Lib.hid (less_any HAT.out.1 HAT.out.2.1 (by omega) (by omega))
  go_wp2_with fail
  refine HC.out.mono ?_
  rintro e w7 ⟨v6, o6, rfl, hr, hc, hm, hl6, hb⟩
  have HAT := Lib.hid (HAT.out.next hb)
  have HR6 := Lib.hid (hr.rgs (canon_in32 hc (Int.le_refl _)))
  have HM6 : Hid (∀ r, memU o6 r ↔ memU a r ∧ ¬ memU b r) := Lib.hid hm
  clear hr hc hm hb HC
  have HC := Lib.hid (and_any HAT.out.1 HAT.out.2.1 (by omega) (by omega))
  go_wp2_with fail
  refine HC.out.mono ?_
  rintro e w8 ⟨v7, o7, rfl, hr, hc, hm, hl7, hb⟩
  have HR6 := Lib.hid (HR6.out.stay hb)
  have HAT := Lib.hid (HAT.out.next hb)
  have HR7 := Lib.hid (hr.rgs (canon_in32 hc (Int.le_refl _)))
  have HM7 : Hid (∀ r, memU o7 r ↔ memU a r ∧ memU b r) := Lib.hid hm
  clear hr hc hm hb HC
  have HC := Lib.hid (or_any HR6.out HR7.out (by omega) (by omega))
  go_wp2_with fail
  refine HC.out.mono ?_
  rintro e w9 ⟨v8, o8, rfl, hr, hc, hm, hl8, hb⟩
  have HR6 := Lib.hid (HR6.out.stay hb)
  have HR7 := Lib.hid (HR7.out.stay hb)
  have HAT := Lib.hid (HAT.out.next hb)
  have HR8 := Lib.hid (hr.rgs (canon_in32 hc (Int.le_refl _)))
  have HM8 : Hid (∀ r, memU o8 r ↔ memU o6 r ∨ memU o7 r) := Lib.hid hm
  clear hr hc hm hb HC
  have HC := Lib.hid (same_any HR8.out HAT.out.1 (by omega) (by omega) true ⟨fun _ r => by rw [HM8.out, HM6.out, HM7.out]; exact law_split _ _, fun _ => rfl⟩)
  go_wp2_with fail
  refine HC.out.mono ?_
  rintro e w10 ⟨rfl, hb⟩
  have HR6 := Lib.hid (HR6.out.stay hb)
  have HR7 := Lib.hid (HR7.out.stay hb)
  have HR8 := Lib.hid (HR8.out.stay hb)
  have HAT := Lib.hid (HAT.out.next hb)
  clear hb HC
  have HC := Lib.hid (not_any HAT.out.1 (by omega))
  go_wp2_with fail
  refine HC.out.mono ?_
  rintro e w11 ⟨v9, o9, rfl, hr, hc, hm, hl9, hb⟩
  have HAT := Lib.hid (HAT.out.next hb)
  have HR9 := Lib.hid (hr.rgs (canon_in32 hc (Int.le_refl _)))
  have HM9 : Hid (∀ r, memU o9 r ↔ 0 ≤ r ∧ r ≤ most ∧ ¬ memU a r) := Lib.hid hm
  clear hr hc hm hb HC
  have HC := Lib.hid (not_any HR9.out (by omega))
  go_wp2_with fail
  refine HC.out.mono ?_
  rintro e w12 ⟨v10, o10, rfl, hr, hc, hm, hl10, hb⟩
  have HR9 := Lib.hid (HR9.out.stay hb)
  have HAT := Lib.hid (HAT.out.next hb)
  have HR10 := Lib.hid (hr.rgs (canon_in32 hc (Int.le_refl _)))
  have HM10 : Hid (∀ r, memU o10 r ↔ 0 ≤ r ∧ r ≤ most ∧ ¬ memU o9 r) := Lib.hid hm
  clear hr hc hm hb HC
  have HC := Lib.hid (same_any HR10.out HAT.out.1 (by omega) (by omega) true ⟨fun _ r => by rw [HM10.out, HM9.out]; exact law_twice (fun h => ⟨h.1, h.2.1⟩), fun _ => rfl⟩)
  go_wp2_with fail
  refine HC.out.mono ?_
  rintro e w13 ⟨rfl, hb⟩
  have HR9 := Lib.hid (HR9.out.stay hb)
  have HR10 := Lib.hid (HR10.out.stay hb)
  have HAT := Lib.hid (HAT.out.next hb)
  clear hb HC
  have HC := Lib.hid (or_any HAT.out.1 HAT.out.2.1 (by omega) (by omega))
  go_wp2_with fail
  refine HC.out.mono ?_
  rintro e w14 ⟨v11, o11, rfl, hr, hc, hm, hl11, hb⟩
  have HAT := Lib.hid (HAT.out.next hb)
  have HR11 := Lib.hid (hr.rgs (canon_in32 hc (Int.le_refl _)))
  have HM11 : Hid (∀ r, memU o11 r ↔ memU a r ∨ memU b r) := Lib.hid hm
  clear hr hc hm hb HC
  have HC := Lib.hid (count_any HR11.out (by omega))
  go_wp2_with fail
  refine HC.out.mono ?_
  rintro e w15 ⟨qx, rfl, hof, hb⟩
  have HR11 := Lib.hid (HR11.out.stay hb)
  have HAT := Lib.hid (HAT.out.next hb)
  have HOx := Lib.hid hof
  have hinx := countC_in hof.1
  obtain ⟨cx, hcx⟩ : ∃ c, countC qx = c := ⟨_, rfl⟩
  rw [hcx] at hinx ⊢
  have HCTx := Lib.hid hcx
  clear hof hb HC hcx
  have HC := Lib.hid (and_any HAT.out.1 HAT.out.2.1 (by omega) (by omega))
  go_wp2_with fail
  refine HC.out.mono ?_
  rintro e w16 ⟨v12, o12, rfl, hr, hc, hm, hl12, hb⟩
  have HAT := Lib.hid (HAT.out.next hb)
  have HR12 := Lib.hid (hr.rgs (canon_in32 hc (Int.le_refl _)))
  have HM12 : Hid (∀ r, memU o12 r ↔ memU a r ∧ memU b r) := Lib.hid hm
  clear hr hc hm hb HC
  have HC := Lib.hid (count_any HR12.out (by omega))
  go_wp2_with fail
  refine HC.out.mono ?_
  rintro e w17 ⟨qy, rfl, hof, hb⟩
  have HR12 := Lib.hid (HR12.out.stay hb)
  have HAT := Lib.hid (HAT.out.next hb)
  have HOy := Lib.hid hof
  have hiny := countC_in hof.1
  obtain ⟨cy, hcy⟩ : ∃ c, countC qy = c := ⟨_, rfl⟩
  rw [hcy] at hiny ⊢
  have HCTy := Lib.hid hcy
  clear hof hb HC hcy
  have HC := Lib.hid (count_any HAT.out.1 (by omega))
  go_wp2_with fail
  refine HC.out.mono ?_
  rintro e w18 ⟨qz, rfl, hof, hb⟩
  have HAT := Lib.hid (HAT.out.next hb)
  have HOz := Lib.hid hof
  have hinz := countC_in hof.1
  obtain ⟨cz, hcz⟩ : ∃ c, countC qz = c := ⟨_, rfl⟩
  rw [hcz] at hinz ⊢
  have HCTz := Lib.hid hcz
  clear hof hb HC hcz
  have HC := Lib.hid (count_any HAT.out.2.1 (by omega))
  go_wp2_with fail
  refine HC.out.mono ?_
  rintro e w19 ⟨qu, rfl, hof, hb⟩
  have HAT := Lib.hid (HAT.out.next hb)
  have HOu := Lib.hid hof
  have hinu := countC_in hof.1
  obtain ⟨cu, hcu⟩ : ∃ c, countC qu = c := ⟨_, rfl⟩
  rw [hcu] at hinu ⊢
  have HCTu := Lib.hid hcu
  clear hof hb HC hcu
  have hsum : cx + cy = cz + cu := by
    rw [← HCTx.out, ← HCTy.out, ← HCTz.out, ← HCTu.out]
    exact count_both HOz.out HOu.out HOx.out HOy.out HM11.out HM12.out
  have hs2 : ((cx + cy) == (cz + cu)) = true := by simpa using hsum
  clear hsum
  have HC := Lib.hid (not_any HAT.out.1 (by omega))
  go_wp2_with fail
  refine HC.out.mono ?_
  rintro e w20 ⟨v13, o13, rfl, hr, hc, hm, hl13, hb⟩
  have HAT := Lib.hid (HAT.out.next hb)
  have HR13 := Lib.hid (hr.rgs (canon_in32 hc (Int.le_refl _)))
  have HM13 : Hid (∀ r, memU o13 r ↔ 0 ≤ r ∧ r ≤ most ∧ ¬ memU a r) := Lib.hid hm
  clear hr hc hm hb HC
  have HC := Lib.hid (and_any HAT.out.1 HR13.out (by omega) (by omega))
  go_wp2_with fail
  refine HC.out.mono ?_
  rintro e w21 ⟨v14, o14, rfl, hr, hc, hm, hl14, hb⟩
  have HR13 := Lib.hid (HR13.out.stay hb)
  have HAT := Lib.hid (HAT.out.next hb)
  have HR14 := Lib.hid (hr.rgs (canon_in32 hc (Int.le_refl _)))
  have HM14 : Hid (∀ r, memU o14 r ↔ memU a r ∧ memU o13 r) := Lib.hid hm
  clear hr hc hm hb HC
  have HC := Lib.hid (empty_any HR14.out (by omega) true ⟨fun _ r => by rw [HM14.out, HM13.out]; exact fun h => h.2.2.2 h.1, fun _ => rfl⟩)
  go_wp2_with fail
  refine HC.out.mono ?_
  rintro e wy ⟨rfl, hb⟩
  have HAT := Lib.hid (HAT.out.next hb)
  clear hb HC
  have HC := Lib.hid (works_any _ HAT.out.2.2.2)
  go_wp2_with fail
  refine HC.out.mono ?_
  rintro e wz ⟨rfl, hb⟩
  have HAT := Lib.hid (HAT.out.next hb)
  clear hb HC
  go_wp2
  go_ret
  exact ⟨rfl, HAT.out.2.2.1⟩

theorem laws_all {W : World} {va vb : Value} {a b : List Rg} (Ha : Rgs W va a) (Hb : Rgs W vb b) (T : GT W) :
    Calls Tryd.prog 6 #[va, vb] W fun e w' => e = .returned (.bool true) ∧ Below W.heap.size W w' := by
  by_cases hla : 20 < a.length
  · exact laws_long Ha Hb (.inl hla)
  by_cases hlb : 20 < b.length
  · exact laws_long Ha Hb (.inr hlb)
  exact laws_walk Ha Hb hla hlb T

end Go.Proofs.YtfjlhfalnciamaaDoor.Chars
