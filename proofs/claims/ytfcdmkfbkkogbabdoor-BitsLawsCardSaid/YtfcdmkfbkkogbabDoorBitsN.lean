/- The law of the laws of sets, walked. -/
import Derived.Test.YtfcdmkfbkkogbabDoorBitsM
namespace Go.Proofs.YtfcdmkfbkkogbabDoor.Bits
open Go Go.RowKit

set_option maxRecDepth 100000 in
theorem laws_long {w : World} {va vb : Value} {a b : List Nat} {n : Int} (Ha : Words w va a) (Hb : Words w vb b) (h : 20 < a.length ∨ 20 < b.length) :
    Calls Tryd.prog 4 #[va, vb, .int .i64 n] w fun e w' => e = .returned (.bool true) ∧ Below w.heap.size w w' := by
  have HLA := Ha.len
  have HLB := Hb.len
  clear Ha Hb
  by_cases ha : 20 < a.length
  · have h1 : (20 : Int) < a.length := by omega
    have h2 : decide ((20 : Int) < a.length) = true := decide_eq_true h1
    go_enter Tryd.func4, Tryd.ntmps4
    go_wp2
    go_ret
    exact ⟨rfl, Below.refl _ _⟩
  · have h1 : ¬ (20 : Int) < a.length := by omega
    have h2 : decide ((20 : Int) < a.length) = false := decide_eq_false h1
    have h3 : (20 : Int) < b.length := by omega
    have h4 : decide ((20 : Int) < b.length) = true := decide_eq_true h3
    go_enter Tryd.func4, Tryd.ntmps4
    go_wp2
    go_ret
    exact ⟨rfl, Below.refl _ _⟩

set_option maxRecDepth 100000 in
set_option maxHeartbeats 4000000 in
theorem laws_walk {w : World} {va vb : Value} {a b : List Nat} {n : Int} (Ha : Words w va a) (Hb : Words w vb b) (hla : ¬ 20 < a.length) (hlb : ¬ 20 < b.length) (h0 : w.cell? ⟨0, 0, none⟩ = some (.int .u8 0)) :
    Calls Tryd.prog 4 #[va, vb, .int .i64 n] w fun e w' => e = .returned (.bool true) ∧ Below w.heap.size w w' := by
  have HLA := Ha.len
  have HLB := Hb.len
  have d1 : ¬ (20 : Int) < a.length := by omega
  have d2 : decide ((20 : Int) < a.length) = false := decide_eq_false d1
  have d3 : ¬ (20 : Int) < b.length := by omega
  have d4 : decide ((20 : Int) < b.length) = false := decide_eq_false d3
  have BA := Lib.hid (fun i => wd_bound Ha.bound i)
  have BB := Lib.hid (fun i => wd_bound Hb.bound i)
  have HAT : Hid (At w va vb a b w) := ⟨Ha, Hb, Below.refl _ _, h0⟩
  obtain ⟨ca, hca⟩ : ∃ c, c = count a := ⟨_, rfl⟩
  obtain ⟨cb, hcb⟩ : ∃ c, c = count b := ⟨_, rfl⟩
  have hca1 : ca ≤ 65536 := hca ▸ count_le a
  have hcb1 : cb ≤ 65536 := hcb ▸ count_le b
  have HCA := Lib.hid hca
  have HCB := Lib.hid hcb
  clear Ha Hb h0 hca hcb hla hlb
  have H1 := Lib.hid (less_any HAT.out.1 HAT.out.2.1)
  go_enter Tryd.func4, Tryd.ntmps4
  go_wp2_with fail
  -- less
  refine H1.out.mono ?_
  rintro e w1 ⟨v1, l1, rfl, ho1, -, hw1, hB⟩
  have HAT := Lib.hid (HAT.out.next hB)
  have HO1 := Lib.hid ho1
  have HW1 := Lib.hid hw1
  clear ho1 hw1 hB H1
  have H1 := Lib.hid (and_any HAT.out.1 HAT.out.2.1)
  go_wp2_with fail
  -- and
  refine H1.out.mono ?_
  rintro e w2 ⟨v2, l2, rfl, ho2, -, hw2, hB⟩
  have HAT := Lib.hid (HAT.out.next hB)
  have HWD1 := Lib.hid (HO1.out.words.stay hB)
  have HO2 := Lib.hid ho2
  have HW2 := Lib.hid hw2
  clear ho2 hw2 hB H1 HO1
  have H1 := Lib.hid (or_any HWD1.out HO2.out.words)
  go_wp2_with fail
  -- or of them
  refine H1.out.mono ?_
  rintro e w3 ⟨v3, l3, rfl, ho3, -, hw3, hB⟩
  have HAT := Lib.hid (HAT.out.next hB)
  have HS : Hid (sameB l3 a = true) := same_iff.2 fun i => by
    rw [hw3, HW1.out, HW2.out]
    exact less_or_and (BA.out i) (BB.out i)
  have H1 := Lib.hid (same_any ho3.words HAT.out.1)
  rw [HS.out] at H1
  clear ho3 hw3 hB HWD1 HO2 HW1 HW2 HS
  go_wp2_with fail
  -- same
  refine H1.out.mono ?_
  rintro e w4 ⟨rfl, hk⟩
  have HAT := Lib.hid (HAT.out.like hk)
  clear hk H1
  have H1 := Lib.hid (or_any HAT.out.1 HAT.out.2.1)
  go_wp2_with fail
  -- or
  refine H1.out.mono ?_
  rintro e w5 ⟨v1, l1, rfl, ho1, -, hw1, hB⟩
  have HAT := Lib.hid (HAT.out.next hB)
  have HO1 := Lib.hid ho1
  have HW1 := Lib.hid hw1
  clear ho1 hw1 hB H1
  have H1 := Lib.hid (or_any HAT.out.2.1 HAT.out.1)
  go_wp2_with fail
  -- or, the other way
  refine H1.out.mono ?_
  rintro e w6 ⟨v2, l2, rfl, ho2, -, hw2, hB⟩
  have HAT := Lib.hid (HAT.out.next hB)
  have HWD1 := Lib.hid (HO1.out.words.stay hB)
  have HS : Hid (sameB l1 l2 = true) := same_iff.2 fun i => by
    rw [hw2, HW1.out, Nat.or_comm]
  have H1 := Lib.hid (same_any HWD1.out ho2.words)
  rw [HS.out] at H1
  clear ho2 hw2 hB HWD1 HO1 HW1 HS
  go_wp2_with fail
  -- same
  refine H1.out.mono ?_
  rintro e w7 ⟨rfl, hk⟩
  have HAT := Lib.hid (HAT.out.like hk)
  clear hk H1
  have H1 := Lib.hid (or_any HAT.out.1 HAT.out.2.1)
  go_wp2_with fail
  -- or
  refine H1.out.mono ?_
  rintro e w8 ⟨v1, l1, rfl, ho1, -, hw1, hB⟩
  have HAT := Lib.hid (HAT.out.next hB)
  have HO1 := Lib.hid ho1
  have HW1 := Lib.hid hw1
  clear ho1 hw1 hB H1
  have H1 := Lib.hid (count_any HO1.out.words)
  obtain ⟨co, hco⟩ : ∃ c, c = count l1 := ⟨_, rfl⟩
  rw [← hco] at H1
  have hco1 : co ≤ 65536 := hco ▸ count_le l1
  have HCO := Lib.hid hco
  clear hco
  go_wp2_with fail
  -- count
  refine H1.out.mono ?_
  rintro e w9 ⟨rfl, rfl⟩
  clear H1
  have H1 := Lib.hid (and_any HAT.out.1 HAT.out.2.1)
  go_wp2_with fail
  -- and
  refine H1.out.mono ?_
  rintro e w9 ⟨v2, l2, rfl, ho2, -, hw2, hB⟩
  have HAT := Lib.hid (HAT.out.next hB)
  have H1 := Lib.hid (count_any ho2.words)
  obtain ⟨cd, hcd⟩ : ∃ c, c = count l2 := ⟨_, rfl⟩
  rw [← hcd] at H1
  have hcd1 : cd ≤ 65536 := hcd ▸ count_le l2
  have hsum : co + cd = ca + cb := by
    rw [HCO.out, hcd, HCA.out, HCB.out]
    exact count_or_and HW1.out hw2
  have hs1 : (co : Int) + cd = (ca : Int) + cb := by omega
  have HSUM := Lib.hid hs1
  clear hcd hsum hs1 ho2 hw2 hB HW1 HO1 HCO
  go_wp2_with fail
  -- count
  refine H1.out.mono ?_
  rintro e w10 ⟨rfl, rfl⟩
  clear H1
  have H1 := Lib.hid (count_any HAT.out.1)
  rw [← HCA.out] at H1
  go_wp2_with fail
  refine H1.out.mono ?_
  rintro e w10 ⟨rfl, rfl⟩
  clear H1
  have H1 := Lib.hid (count_any HAT.out.2.1)
  rw [← HCB.out] at H1
  go_wp2_with fail
  refine H1.out.mono ?_
  rintro e w10 ⟨rfl, rfl⟩
  clear H1
  have hs2 : (((co : Int) + cd) != ((ca : Int) + cb)) = false := by rw [HSUM.out]; simp
  have H1 := Lib.hid (with_any HAT.out.1 n)
  go_wp2_with fail
  -- with
  refine H1.out.mono ?_
  rintro e w10 ⟨v1, l1, rfl, ho1, -, hw1, hB⟩
  have HAT := Lib.hid (HAT.out.next hB)
  have HW1 := Lib.hid hw1
  have H1 := Lib.hid (without_any ho1.words n)
  clear ho1 hw1 hB
  go_wp2_with fail
  -- without
  refine H1.out.mono ?_
  rintro e w11 ⟨v2, l2, rfl, ho2, -, hw2, hB⟩
  have HAT := Lib.hid (HAT.out.next hB)
  have HO2 := Lib.hid ho2
  have HW2 := Lib.hid hw2
  clear ho2 hw2 hB H1
  have H1 := Lib.hid (without_any HAT.out.1 n)
  go_wp2_with fail
  -- without alone
  refine H1.out.mono ?_
  rintro e w12 ⟨v3, l3, rfl, ho3, -, hw3, hB⟩
  have HAT := Lib.hid (HAT.out.next hB)
  have HWD2 := Lib.hid (HO2.out.words.stay hB)
  have HS : Hid (sameB l2 l3 = true) := same_iff.2 fun i => by
    rw [hw3, HW2.out, HW1.out]
    exact or_less (wd_bound (ofTo_lt _ _ _) i)
  have H1 := Lib.hid (same_any HWD2.out ho3.words)
  rw [HS.out] at H1
  clear ho3 hw3 hB HWD2 HO2 HW1 HW2 HS
  go_wp2_with fail
  -- same
  refine H1.out.mono ?_
  rintro e w13 ⟨rfl, hk⟩
  have HAT := Lib.hid (HAT.out.like hk)
  clear hk H1
  have H1 := Lib.hid (or_any HAT.out.1 (nil_words w13))
  go_wp2_with fail
  -- or with none
  refine H1.out.mono ?_
  rintro e w14 ⟨vc, lc, rfl, hoc, -, hwc, hB⟩
  have hwc' : ∀ i, wd lc i = wd a i := fun i => by rw [hwc i, show wd [] i = 0 by simp [wd], Nat.or_zero]
  have HLC := hoc.words.len
  have HWC := Lib.hid hwc'
  have rest : ∀ wq : World, At w va vb a b wq → Hid (Calls Tryd.prog 11 #[va, va] wq fun e w' => ∃ v' l', e = .returned v' ∧ Own w' wq.heap.size v' l' ∧ tl l' = l'.length ∧ (∀ i, wd l' i = lessF a i (wd a i)) ∧ Below wq.heap.size wq w') := fun wq h => less_any h.1 h.1
  have HREST := Lib.hid rest
  clear hwc hwc' H1 rest
  by_cases hz : lc.length = 0
  · have HAT := Lib.hid (HAT.out.next hB)
    clear hB hoc
    have z1 : ¬ (0 : Int) < lc.length := by omega
    have z2 : decide ((0 : Int) < lc.length) = false := decide_eq_false z1
    have H1 := Lib.hid (HREST.out _ HAT.out).out
    go_wp2_with fail
    refine H1.out.mono ?_
    rintro e w16 ⟨v1, l1, rfl, ho1, -, hw1, hB⟩
    have HAT := Lib.hid (HAT.out.next hB)
    have H1 := Lib.hid (count_any ho1.words)
    have hc0 : count l1 = 0 := count_zero fun i => (hw1 i).trans (less_self (BA.out i))
    rw [hc0] at H1
    clear ho1 hw1 hB hc0
    go_wp2_with fail
    refine H1.out.mono ?_
    rintro e w17 ⟨rfl, rfl⟩
    clear H1
    have H1 := Lib.hid (and_any HAT.out.1 HAT.out.1)
    go_wp2_with fail
    refine H1.out.mono ?_
    rintro e w17 ⟨v1, l1, rfl, ho1, -, hw1, hB⟩
    have HAT := Lib.hid (HAT.out.next hB)
    have HS : Hid (sameB l1 a = true) := same_iff.2 fun i => by
      rw [hw1]; exact Nat.and_self _
    have H1 := Lib.hid (same_any ho1.words HAT.out.1)
    rw [HS.out] at H1
    clear ho1 hw1 hB HS
    go_wp2_with fail
    refine H1.out.mono ?_
    rintro e w18 ⟨rfl, hk⟩
    have HAT := Lib.hid (HAT.out.like hk)
    clear hk H1
    have H1 := Lib.hid (works_any HAT.out.2.2.2)
    go_wp2_with fail
    refine H1.out.mono ?_
    rintro e w19 ⟨rfl, hB⟩
    have HAT := Lib.hid (HAT.out.next hB)
    clear hB H1
    go_wp2
    go_ret
    exact ⟨rfl, HAT.out.2.2.1⟩
  · obtain ⟨x, hx⟩ : ∃ x, lc[0]? = some x := ⟨lc[0], List.getElem?_eq_getElem _⟩
    obtain ⟨g, cap, rfl⟩ : ∃ g cap, vc = .slice (some ⟨g, 0, none⟩) lc.length cap := by
      rcases hoc.1.2 with ⟨_, h⟩ | ⟨g, cap, _, rfl, _⟩
      · omega
      · exact ⟨g, cap, rfl⟩
    have z1 : (0 : Int) < lc.length := by omega
    have z2 : decide ((0 : Int) < lc.length) = true := decide_eq_true z1
    have hcx : w14.cell? ⟨g, 0, none⟩ = some (wordV x) := by
      have := hoc.1.cellAt 0 (by omega)
      rw [this, words_get, hx]; rfl
    have hfx := hoc.1.frozenAt 0
    have HX := Lib.hid hx
    have HOC := Lib.hid hoc
    have HBC := Lib.hid hB
    clear hx hoc hB
    go_wp2_with fail
    refine (same_turned HAT.out.1 HBC.out HX.out HWC.out HOC.out.1 HOC.out.2.1 HOC.out.2.2 (by exact ⟨rfl, rfl, rfl, rfl⟩)).mono ?_
    rintro e w15 ⟨rfl, hB⟩
    have HAT := Lib.hid (HAT.out.next hB)
    clear hB HBC HX HOC hcx hfx
    have H1 := Lib.hid (HREST.out _ HAT.out).out
    go_wp2_with fail
    refine H1.out.mono ?_
    rintro e w16 ⟨v1, l1, rfl, ho1, -, hw1, hB⟩
    have HAT := Lib.hid (HAT.out.next hB)
    have H1 := Lib.hid (count_any ho1.words)
    have hc0 : count l1 = 0 := count_zero fun i => (hw1 i).trans (less_self (BA.out i))
    rw [hc0] at H1
    clear ho1 hw1 hB hc0
    go_wp2_with fail
    refine H1.out.mono ?_
    rintro e w17 ⟨rfl, rfl⟩
    clear H1
    have H1 := Lib.hid (and_any HAT.out.1 HAT.out.1)
    go_wp2_with fail
    refine H1.out.mono ?_
    rintro e w17 ⟨v1, l1, rfl, ho1, -, hw1, hB⟩
    have HAT := Lib.hid (HAT.out.next hB)
    have HS : Hid (sameB l1 a = true) := same_iff.2 fun i => by
      rw [hw1]; exact Nat.and_self _
    have H1 := Lib.hid (same_any ho1.words HAT.out.1)
    rw [HS.out] at H1
    clear ho1 hw1 hB HS
    go_wp2_with fail
    refine H1.out.mono ?_
    rintro e w18 ⟨rfl, hk⟩
    have HAT := Lib.hid (HAT.out.like hk)
    clear hk H1
    have H1 := Lib.hid (works_any HAT.out.2.2.2)
    go_wp2_with fail
    refine H1.out.mono ?_
    rintro e w19 ⟨rfl, hB⟩
    have HAT := Lib.hid (HAT.out.next hB)
    clear hB H1
    go_wp2
    go_ret
    exact ⟨rfl, HAT.out.2.2.1⟩

end Go.Proofs.YtfcdmkfbkkogbabDoor.Bits
