/- Sets as rows of words: Same, walked. -/
import Derived.Test.YtfcdmkfbkkogbabDoorBitsE
namespace Go.Proofs.YtfcdmkfbkkogbabDoor.Bits
open Go Go.RowKit

theorem Like.refl (w : World) : Like w w := ⟨rfl, rfl, rfl, rfl⟩
theorem Like.cell {w' w : World} (h : Like w' w) (a : Addr) : w'.cell? a = w.cell? a := by simp [World.cell?, h.1]
theorem Like.trans {a b c : World} (h : Like a b) (k : Like b c) : Like a c := ⟨h.1.trans k.1, h.2.1.trans k.2.1, h.2.2.1.trans k.2.2.1, h.2.2.2.trans k.2.2.2⟩
theorem Like.below {w' w : World} (h : Like w' w) (B : Nat) : Below B w w' := Below.like (Below.refl _ _) h

def sameB (s o : List Nat) : Bool := decide (tl s = tl o) && (List.range (tl s)).all fun i => decide (s.getD i 0 = o.getD i 0)

theorem same_iff {s o : List Nat} : sameB s o = true ↔ ∀ i, wd s i = wd o i := by
  unfold sameB
  simp only [Bool.and_eq_true, decide_eq_true_eq, List.all_eq_true, List.mem_range]
  constructor
  · rintro ⟨h1, h2⟩ i
    by_cases h : i < tl s
    · rw [wd_lt h, wd_lt (by omega), h2 i h]
    · rw [wd_ge (by omega), wd_ge (by omega)]
  · intro h
    have e := tl_eq h
    exact ⟨e, fun i hi => by rw [← wd_lt hi, ← wd_lt (l := o) (by omega)]; exact h i⟩

set_option maxRecDepth 100000 in
theorem same_any {w : World} {vs vo : Value} {s o : List Nat} (Hs : Words w vs s) (Ho : Words w vo o) :
    Calls Tryd.prog 12 #[vs, vo] w fun e w' => e = .returned (.bool (sameB s o)) ∧ Like w' w := by
  have HTS := Lib.hid (tidyLong_any Hs)
  have HTO := Lib.hid (tidyLong_any Ho)
  obtain ⟨ks, hks⟩ : ∃ ks, ks = tl s := ⟨_, rfl⟩
  obtain ⟨ko, hko⟩ : ∃ ko, ko = tl o := ⟨_, rfl⟩
  have hs1 : ks ≤ 1024 ∧ ks ≤ s.length := by rw [hks]; exact ⟨(tl_le s).2, (tl_le s).1⟩
  have ho1 : ko ≤ o.length := by rw [hko]; exact (tl_le o).1
  rw [← hks] at HTS
  rw [← hko] at HTO
  obtain ⟨hs1, hs2⟩ := hs1
  by_cases hne : ks = ko
  · by_cases hk0 : ks = 0
    · have hres : sameB s o = true := same_iff.2 fun i => by rw [wd_ge (by omega), wd_ge (by omega)]
      rw [hres]
      subst hk0
      rw [← hne] at HTO
      clear hne hres hks hko Hs Ho
      go_enter Tryd.func12, Tryd.ntmps12
      go_wp2_with fail
      refine HTS.out.mono ?_
      rintro e w1 ⟨rfl, rfl⟩
      go_wp2_with fail
      refine HTO.out.mono ?_
      rintro e w1 ⟨rfl, rfl⟩
      go_wp2_with fail
      go_loopw [14] (fun i wx => i = .int .i64 0 ∧ w = wx) (fun _ _ => 0)
      case atStart => exact ⟨rfl, rfl⟩
      case round =>
        obtain ⟨rfl, rfl⟩ := hrel
        go_wp2
        go_ret
        exact ⟨rfl, Like.refl _⟩
    · obtain ⟨b1, o1, c1, rfl, hb1, hc1, -, hcs⟩ := Hs.at (by omega)
      obtain ⟨b2, o2, c2, rfl, hb2, hc2, -, hco⟩ := Ho.at (by omega)
      have HCS := Lib.hid hcs
      have HCO := Lib.hid hco
      have HKS := Lib.hid hks
      have HKO := Lib.hid hko
      rw [← hne] at HTO
      have HNE := Lib.hid hne
      unfold maxLen at hc1 hc2
      have ho2 : ks ≤ o.length := by omega
      clear hcs hco hks hko hne Hs Ho hk0 ho1
      go_enter Tryd.func12, Tryd.ntmps12
      go_wp2_with fail
      refine HTS.out.mono ?_
      rintro e w1 ⟨rfl, rfl⟩
      go_wp2_with fail
      refine HTO.out.mono ?_
      rintro e w1 ⟨rfl, rfl⟩
      go_wp2_with fail
      go_loopw [14] (fun i wx => ∃ j : Nat, j ≤ ks ∧ i = .int .i64 j ∧ Hid (∀ q, q < j → s.getD q 0 = o.getD q 0) ∧ Like wx w) (fun i _ => ks - (intOf i).toNat)
      case atStart => exact ⟨0, Nat.zero_le _, rfl, fun q hq => by omega, Like.refl _⟩
      case round =>
        obtain ⟨j, hj, rfl, hpre, hl⟩ := hrel
        by_cases hlt : j < ks
        · obtain ⟨x, hx⟩ : ∃ x, s[j]? = some x := ⟨s[j], List.getElem?_eq_getElem _⟩
          obtain ⟨y, hy⟩ : ∃ y, o[j]? = some y := ⟨o[j], List.getElem?_eq_getElem _⟩
          have hcx : wr.cell? ⟨b1, o1 + j, none⟩ = some (wordV x) := (hl.cell _).trans (HCS.out j x hx)
          have hcy : wr.cell? ⟨b2, o2 + j, none⟩ = some (wordV y) := (hl.cell _).trans (HCO.out j y hy)
          have hsx : s.getD j 0 = x := by rw [List.getD_eq_getElem?_getD, hx]; rfl
          have hoy : o.getD j 0 = y := by rw [List.getD_eq_getElem?_getD, hy]; rfl
          have HL := Lib.hid hl
          have HSX := Lib.hid hsx
          have HOY := Lib.hid hoy
          clear hl hx hy hsx hoy
          by_cases hxy : x = y
          · have e1 : ((x : Int) != y) = false := by simp [hxy]
            have e2 : ((x : Int) == y) = true := by simp [hxy]
            have HXY := Lib.hid hxy
            clear hxy
            go_wp2_with fail
            go_quiet (fail)
            go_wp2
            go_roundw
            case rel =>
              refine ⟨j + 1, by omega, by go_num, fun q hq => ?_, Like.trans (by exact ⟨rfl, rfl, rfl, rfl⟩) HL.out⟩
              by_cases e : q = j
              · subst e; rw [HSX.out, HOY.out, HXY.out]
              · exact hpre.out q (by omega)
            case measure => simp [intOf]; omega
          · have e1 : ((x : Int) != y) = true := by simp; omega
            have e2 : ((x : Int) == y) = false := by simp; omega
            have hres : sameB s o = false := by
              cases hb : sameB s o with
              | false => rfl
              | true =>
                have := same_iff.1 hb j
                rw [wd_lt (by rw [← HKS.out]; exact hlt), wd_lt (by rw [← HKO.out, ← HNE.out]; exact hlt), HSX.out, HOY.out] at this
                exact absurd this hxy
            have HR := Lib.hid hres
            clear hxy hres
            go_wp2_with fail
            go_quiet (fail)
            go_wp2
            go_ret
            exact ⟨by rw [HR.out]; rfl, Like.trans (by exact ⟨rfl, rfl, rfl, rfl⟩) HL.out⟩
        · obtain rfl : j = ks := by omega
          have hres : sameB s o = true := same_iff.2 fun i => by
            by_cases h : i < tl s
            · rw [wd_lt h, wd_lt (by rw [← HKO.out, ← HNE.out, HKS.out]; exact h)]
              exact hpre.out i (by rw [HKS.out]; exact h)
            · rw [wd_ge (by omega), wd_ge (by rw [← HKO.out, ← HNE.out, HKS.out]; omega)]
          have HR := Lib.hid hres
          have HL := Lib.hid hl
          clear hres hl hpre
          go_wp2
          go_ret
          exact ⟨by rw [HR.out]; rfl, HL.out⟩
  · have hres : sameB s o = false := by
      unfold sameB
      rw [decide_eq_false (by omega)]
      rfl
    have e1 : ((ks : Int) != ko) = true := by simp; omega
    have e2 : ((ks : Int) == ko) = false := by simp; omega
    rw [hres]
    clear hres hks hko Hs Ho hne
    go_enter Tryd.func12, Tryd.ntmps12
    go_wp2_with fail
    refine HTS.out.mono ?_
    rintro e w1 ⟨rfl, rfl⟩
    go_wp2_with fail
    refine HTO.out.mono ?_
    rintro e w1 ⟨rfl, rfl⟩
    go_wp2
    go_ret
    exact ⟨rfl, Like.refl _⟩

end Go.Proofs.YtfcdmkfbkkogbabDoor.Bits
