/- Sets as rows of words: Or, walked. -/
import Derived.Test.YtfcdmkfbkkogbaaDoorBitsD
namespace Go.Proofs.YtfcdmkfbkkogbaaDoor.Bits
open Go Go.RowKit

def orF (o : List Nat) (i x : Nat) : Nat := x ||| wd o i
theorem or_lt {x y : Nat} (hx : x < 18446744073709551616) (hy : y < 18446744073709551616) : x ||| y < 18446744073709551616 := Nat.or_lt_two_pow (n := 64) hx hy
theorem wd_bound {l : List Nat} (h : ∀ x ∈ l, x < 18446744073709551616) (i : Nat) : wd l i < 18446744073709551616 := by
  unfold wd
  split
  · rw [List.getD_eq_getElem?_getD]
    cases hx : l[i]? with
    | none => simp
    | some x => exact h x (List.mem_of_getElem? hx)
  · decide

/-- What the loop of Or leaves. -/
theorem or_end {a b l : List Nat} (hl : l = a.take (tl a)) (hab : tl b ≤ tl a) (i : Nat) : wd (stepL (fun i x => orF b i x) l (tl b)) i = wd a i ||| wd b i := by
  have htl := tl_le a
  by_cases h : i < tl a
  · rw [wd_lt (l := a) h]
    unfold wd
    rw [if_pos (by omega), if_pos (by omega), List.getD_eq_getElem?_getD, stepL_get, hl, List.getElem?_take_of_lt h, List.getElem?_eq_getElem (by omega), List.getD_eq_getElem?_getD, List.getElem?_eq_getElem (by omega)]
    simp only [Option.map_some, Option.getD_some]
    by_cases hb : i < tl b
    · rw [if_pos hb]
      unfold orF wd
      rw [if_pos (by omega)]
    · rw [if_neg hb]
      have := wd_ge (l := b) (i := i) (by omega)
      unfold wd at this
      rw [if_pos (by omega)] at this
      rw [this, Nat.or_zero]
  · rw [wd_ge (l := a) (by omega), wd_ge (l := b) (by omega)]
    unfold wd
    split
    · rw [getD_ge (by rw [stepL_length, hl, List.length_take]; omega)]; rfl
    · rfl

theorem or_tidy {a b l : List Nat} (hl : l = a.take (tl a)) (hab : tl b ≤ tl a) : tl (stepL (fun i x => orF b i x) l (tl b)) = (stepL (fun i x => orF b i x) l (tl b)).length := by
  have htl := tl_le a
  have hlen : l.length = tl a := by rw [hl, List.length_take]; omega
  refine tl_tidy (by rw [stepL_length]; omega) ?_
  rw [stepL_length, hlen]
  by_cases h0 : tl a = 0
  · exact .inl h0
  · refine .inr ?_
    have h1 := or_end hl hab (tl a - 1)
    have h2 := wd_last (l := a) (by omega)
    unfold wd at h1
    rw [if_pos (by omega)] at h1
    rw [h1]
    intro e
    have h3 : wd a (tl a - 1) = 0 := by
      unfold wd at h2 ⊢
      exact Nat.or_eq_zero_iff.1 e |>.1
    exact h2 h3

set_option maxRecDepth 100000 in
theorem or_first {w : World} {va vb : Value} {a b : List Nat} (Ha : Words w va a) (Hb : Words w vb b) (hab : tl b ≤ tl a) :
    Calls Tryd.prog 71 #[va, vb] w fun e w' => ∃ v' l', e = .returned v' ∧ Own w' w.heap.size v' l' ∧ tl l' = l'.length ∧ (∀ i, wd l' i = wd a i ||| wd b i) ∧ Below w.heap.size w w' := by
  have hab' : tl b ≤ tl a := by omega
  have HAB := Lib.hid hab'
  have HT := Lib.hid (tidied_any Ha)
  have HTA := Lib.hid (tidyLong_any Ha)
  have HTB := Lib.hid (tidyLong_any Hb)
  have HA := Lib.hid Ha
  have HBB := Lib.hid Hb
  obtain ⟨S, hS⟩ : ∃ S, S = w.heap.size := ⟨_, rfl⟩
  have HSS := Lib.hid hS
  obtain ⟨ka, hka⟩ : ∃ ka, ka = tl a := ⟨_, rfl⟩
  obtain ⟨kb, hkb⟩ : ∃ kb, kb = tl b := ⟨_, rfl⟩
  have hb1024 : kb ≤ 1024 := by rw [hkb]; exact (tl_le b).2
  have hblen : kb ≤ b.length := by rw [hkb]; exact (tl_le b).1
  have ha1024 : ka ≤ 1024 := by rw [hka]; exact (tl_le a).2
  rw [← hka, ← hkb] at hab
  rw [← hka] at HTA
  rw [← hkb] at HTB
  have HKA := Lib.hid hka
  have HKB := Lib.hid hkb
  rw [← hS]
  clear hS hka hkb hab' Ha
  have hcmp : (¬ ((ka : Int) < kb)) := by omega
  by_cases hk0 : kb = 0
  · subst hk0
    obtain ⟨hshape, -, -⟩ := Hb
    rcases hshape with ⟨rfl, rfl⟩ | ⟨x, cp, rfl, rfl⟩ | ⟨bo, oo, co, rfl, hne, hbc, hcm, -⟩
    all_goals
      go_enter Tryd.func71, Tryd.ntmps71
      go_wp2_with fail
      refine HTA.out.mono ?_
      rintro e w1 ⟨rfl, rfl⟩
      go_wp2_with fail
      refine HTB.out.mono ?_
      rintro e w1 ⟨rfl, rfl⟩
      go_wp2_with fail
      refine HT.out.mono ?_
      rintro e w1 ⟨v1, rfl, hown, hB⟩
      rw [← HSS.out] at hown hB
      have HOwn := Lib.hid hown
      have HB := Lib.hid hB
      have HTB2 := Lib.hid (tidyLong_any (HBB.out.stay (by rw [← HSS.out]; exact hB)))
      rw [← HKB.out] at HTB2
      clear hown hB
      go_wp2_with fail
      refine HTB2.out.mono ?_
      rintro e w2 ⟨rfl, rfl⟩
      go_wp2_with fail
      go_loopw [26] (fun i wx => i = .int .i64 0 ∧ w1 = wx) (fun _ _ => 0)
      case atStart => exact ⟨rfl, rfl⟩
      case round =>
        obtain ⟨rfl, rfl⟩ := hrel
        go_wp2_with fail
        go_ret
        have hfin := fun i => or_end (a := a) rfl HAB.out i
        have htid := or_tidy (a := a) rfl HAB.out
        rw [← HKB.out, stepL_zero] at hfin htid
        exact ⟨_, _, rfl, HOwn.out, htid, hfin, HB.out⟩
  · obtain ⟨bo, oo, co, rfl, hbc, hcm, hbS, hcb⟩ := Hb.at (by omega)
    rw [← HSS.out] at hbS
    have HCB := Lib.hid hcb
    have HLB := Lib.hid Hb.2.1
    clear hcb Hb
    unfold maxLen at hcm
    go_enter Tryd.func71, Tryd.ntmps71
    go_wp2_with fail
    refine HTA.out.mono ?_
    rintro e w1 ⟨rfl, rfl⟩
    go_wp2_with fail
    refine HTB.out.mono ?_
    rintro e w1 ⟨rfl, rfl⟩
    go_wp2_with fail
    refine HT.out.mono ?_
    rintro e w1 ⟨v1, rfl, hown, hB⟩
    rw [← HSS.out] at hown hB
    obtain ⟨l, hl⟩ : ∃ l, l = a.take (tl a) := ⟨_, rfl⟩
    rw [← hl] at hown
    have hllen : l.length = ka := by rw [hl, List.length_take, ← HKA.out]; have := (tl_le a).1; rw [← HKA.out] at this; omega
    have hl0 : 0 < l.length := by omega
    obtain ⟨g, cap, rfl⟩ : ∃ g cap, v1 = .slice (some ⟨g, 0, none⟩) l.length cap := by
      rcases hown.1.2 with ⟨_, h⟩ | ⟨g, cap, _, rfl, _⟩
      · omega
      · exact ⟨g, cap, rfl⟩
    have HR0 : Hid (Row w S g cap l (fun i x => orF b i x) 0 w1) := ⟨by rw [stepL_zero]; exact hown.1, hB⟩
    have HOwn := Lib.hid hown
    have HTB2 := Lib.hid (tidyLong_any (HBB.out.stay (by rw [← HSS.out]; exact hB)))
    rw [← HKB.out] at HTB2
    have HL := Lib.hid hl
    have hkl : kb ≤ l.length := by omega
    have hl1024 : l.length ≤ 1024 := by omega
    clear hown hB hl hllen
    go_wp2_with fail
    refine HTB2.out.mono ?_
    rintro e w2 ⟨rfl, rfl⟩
    go_wp2_with fail
    go_loopw [26] (fun i wx => ∃ j : Nat, j ≤ kb ∧ i = .int .i64 j ∧ Row w S g cap l (fun i x => orF b i x) j wx) (fun i _ => kb - (intOf i).toNat)
    case atStart => exact ⟨0, Nat.zero_le _, rfl, HR0.out⟩
    case round =>
      obtain ⟨j, hj, rfl, hR⟩ := hrel
      by_cases hlt : j < kb
      · obtain ⟨x, hx⟩ : ∃ x, l[j]? = some x := ⟨l[j], List.getElem?_eq_getElem _⟩
        obtain ⟨y, hy⟩ : ∃ y, b[j]? = some y := ⟨b[j], List.getElem?_eq_getElem _⟩
        have hcx := hR.cell hx
        have hfx := hR.1.frozenAt j
        have hxlt := HOwn.out.2.1 x (List.mem_of_getElem? hx)
        have hcy : wr.cell? ⟨bo, oo + j, none⟩ = some (wordV y) := (hR.2.cell (p := ⟨bo, oo + j, none⟩) hbS).trans (HCB.out j y hy)
        have HBT := Lib.hid (u64_or_nat x y hxlt (HLB.out y (List.mem_of_getElem? hy)))
        have hfy : orF b j x = x ||| y := by unfold orF wd; rw [if_pos (by omega), List.getD_eq_getElem?_getD, hy]; rfl
        have HF := Lib.hid hfy
        have HR := Lib.hid hR
        have HX := Lib.hid hx
        clear hR hx hy hfy hxlt
        go_wp2
        go_roundw
        case rel => exact ⟨j + 1, by omega, by go_num, HR.out.set HX.out (by rw [HF.out]; show Like _ (wr.setCell _ (.int .u64 ((x ||| y : Nat) : Int))); rw [← HBT.out]; exact ⟨rfl, rfl, rfl, rfl⟩)⟩
        case measure => simp [intOf]; omega
      · obtain rfl : j = kb := by omega
        have HR := Lib.hid hR
        clear hR
        go_wp2
        go_ret
        have hfin := fun i => or_end HL.out HAB.out i
        have htid := or_tidy HL.out HAB.out
        rw [← HKB.out] at hfin htid
        refine ⟨_, _, rfl, ⟨?_, fun z hz => ?_, ?_⟩, htid, hfin, HR.out.2⟩
        · rw [stepL_length]; exact HR.out.1
        · obtain ⟨q, hq⟩ := List.getElem?_of_mem hz
          rw [stepL_get] at hq
          simp only [Option.map_eq_some_iff] at hq
          obtain ⟨u, hu, rfl⟩ := hq
          have hul := HOwn.out.2.1 u (List.mem_of_getElem? hu)
          split
          · exact or_lt hul (wd_bound HLB.out q)
          · exact hul
        · rw [stepL_length]; unfold maxLen; omega

set_option maxRecDepth 100000 in
theorem or_second {w : World} {va vb : Value} {a b : List Nat} (Ha : Words w va a) (Hb : Words w vb b) (hab : tl b < tl a) :
    Calls Tryd.prog 71 #[vb, va] w fun e w' => ∃ v' l', e = .returned v' ∧ Own w' w.heap.size v' l' ∧ tl l' = l'.length ∧ (∀ i, wd l' i = wd a i ||| wd b i) ∧ Below w.heap.size w w' := by
  have hab' : tl b ≤ tl a := by omega
  have HAB := Lib.hid hab'
  have HT := Lib.hid (tidied_any Ha)
  have HTA := Lib.hid (tidyLong_any Ha)
  have HTB := Lib.hid (tidyLong_any Hb)
  have HA := Lib.hid Ha
  have HBB := Lib.hid Hb
  obtain ⟨S, hS⟩ : ∃ S, S = w.heap.size := ⟨_, rfl⟩
  have HSS := Lib.hid hS
  obtain ⟨ka, hka⟩ : ∃ ka, ka = tl a := ⟨_, rfl⟩
  obtain ⟨kb, hkb⟩ : ∃ kb, kb = tl b := ⟨_, rfl⟩
  have hb1024 : kb ≤ 1024 := by rw [hkb]; exact (tl_le b).2
  have hblen : kb ≤ b.length := by rw [hkb]; exact (tl_le b).1
  have ha1024 : ka ≤ 1024 := by rw [hka]; exact (tl_le a).2
  rw [← hka, ← hkb] at hab
  rw [← hka] at HTA
  rw [← hkb] at HTB
  have HKA := Lib.hid hka
  have HKB := Lib.hid hkb
  rw [← hS]
  clear hS hka hkb hab' Ha
  have hcmp : ((kb : Int) < ka) := by omega
  by_cases hk0 : kb = 0
  · subst hk0
    obtain ⟨hshape, -, -⟩ := Hb
    rcases hshape with ⟨rfl, rfl⟩ | ⟨x, cp, rfl, rfl⟩ | ⟨bo, oo, co, rfl, hne, hbc, hcm, -⟩
    all_goals
      go_enter Tryd.func71, Tryd.ntmps71
      go_wp2_with fail
      refine HTB.out.mono ?_
      rintro e w1 ⟨rfl, rfl⟩
      go_wp2_with fail
      refine HTA.out.mono ?_
      rintro e w1 ⟨rfl, rfl⟩
      go_wp2_with fail
      refine HT.out.mono ?_
      rintro e w1 ⟨v1, rfl, hown, hB⟩
      rw [← HSS.out] at hown hB
      have HOwn := Lib.hid hown
      have HB := Lib.hid hB
      have HTB2 := Lib.hid (tidyLong_any (HBB.out.stay (by rw [← HSS.out]; exact hB)))
      rw [← HKB.out] at HTB2
      clear hown hB
      go_wp2_with fail
      refine HTB2.out.mono ?_
      rintro e w2 ⟨rfl, rfl⟩
      go_wp2_with fail
      go_loopw [26] (fun i wx => i = .int .i64 0 ∧ w1 = wx) (fun _ _ => 0)
      case atStart => exact ⟨rfl, rfl⟩
      case round =>
        obtain ⟨rfl, rfl⟩ := hrel
        go_wp2_with fail
        go_ret
        have hfin := fun i => or_end (a := a) rfl HAB.out i
        have htid := or_tidy (a := a) rfl HAB.out
        rw [← HKB.out, stepL_zero] at hfin htid
        exact ⟨_, _, rfl, HOwn.out, htid, hfin, HB.out⟩
  · obtain ⟨bo, oo, co, rfl, hbc, hcm, hbS, hcb⟩ := Hb.at (by omega)
    rw [← HSS.out] at hbS
    have HCB := Lib.hid hcb
    have HLB := Lib.hid Hb.2.1
    clear hcb Hb
    unfold maxLen at hcm
    go_enter Tryd.func71, Tryd.ntmps71
    go_wp2_with fail
    refine HTB.out.mono ?_
    rintro e w1 ⟨rfl, rfl⟩
    go_wp2_with fail
    refine HTA.out.mono ?_
    rintro e w1 ⟨rfl, rfl⟩
    go_wp2_with fail
    refine HT.out.mono ?_
    rintro e w1 ⟨v1, rfl, hown, hB⟩
    rw [← HSS.out] at hown hB
    obtain ⟨l, hl⟩ : ∃ l, l = a.take (tl a) := ⟨_, rfl⟩
    rw [← hl] at hown
    have hllen : l.length = ka := by rw [hl, List.length_take, ← HKA.out]; have := (tl_le a).1; rw [← HKA.out] at this; omega
    have hl0 : 0 < l.length := by omega
    obtain ⟨g, cap, rfl⟩ : ∃ g cap, v1 = .slice (some ⟨g, 0, none⟩) l.length cap := by
      rcases hown.1.2 with ⟨_, h⟩ | ⟨g, cap, _, rfl, _⟩
      · omega
      · exact ⟨g, cap, rfl⟩
    have HR0 : Hid (Row w S g cap l (fun i x => orF b i x) 0 w1) := ⟨by rw [stepL_zero]; exact hown.1, hB⟩
    have HOwn := Lib.hid hown
    have HTB2 := Lib.hid (tidyLong_any (HBB.out.stay (by rw [← HSS.out]; exact hB)))
    rw [← HKB.out] at HTB2
    have HL := Lib.hid hl
    have hkl : kb ≤ l.length := by omega
    have hl1024 : l.length ≤ 1024 := by omega
    clear hown hB hl hllen
    go_wp2_with fail
    refine HTB2.out.mono ?_
    rintro e w2 ⟨rfl, rfl⟩
    go_wp2_with fail
    go_loopw [26] (fun i wx => ∃ j : Nat, j ≤ kb ∧ i = .int .i64 j ∧ Row w S g cap l (fun i x => orF b i x) j wx) (fun i _ => kb - (intOf i).toNat)
    case atStart => exact ⟨0, Nat.zero_le _, rfl, HR0.out⟩
    case round =>
      obtain ⟨j, hj, rfl, hR⟩ := hrel
      by_cases hlt : j < kb
      · obtain ⟨x, hx⟩ : ∃ x, l[j]? = some x := ⟨l[j], List.getElem?_eq_getElem _⟩
        obtain ⟨y, hy⟩ : ∃ y, b[j]? = some y := ⟨b[j], List.getElem?_eq_getElem _⟩
        have hcx := hR.cell hx
        have hfx := hR.1.frozenAt j
        have hxlt := HOwn.out.2.1 x (List.mem_of_getElem? hx)
        have hcy : wr.cell? ⟨bo, oo + j, none⟩ = some (wordV y) := (hR.2.cell (p := ⟨bo, oo + j, none⟩) hbS).trans (HCB.out j y hy)
        have HBT := Lib.hid (u64_or_nat x y hxlt (HLB.out y (List.mem_of_getElem? hy)))
        have hfy : orF b j x = x ||| y := by unfold orF wd; rw [if_pos (by omega), List.getD_eq_getElem?_getD, hy]; rfl
        have HF := Lib.hid hfy
        have HR := Lib.hid hR
        have HX := Lib.hid hx
        clear hR hx hy hfy hxlt
        go_wp2
        go_roundw
        case rel => exact ⟨j + 1, by omega, by go_num, HR.out.set HX.out (by rw [HF.out]; show Like _ (wr.setCell _ (.int .u64 ((x ||| y : Nat) : Int))); rw [← HBT.out]; exact ⟨rfl, rfl, rfl, rfl⟩)⟩
        case measure => simp [intOf]; omega
      · obtain rfl : j = kb := by omega
        have HR := Lib.hid hR
        clear hR
        go_wp2
        go_ret
        have hfin := fun i => or_end HL.out HAB.out i
        have htid := or_tidy HL.out HAB.out
        rw [← HKB.out] at hfin htid
        refine ⟨_, _, rfl, ⟨?_, fun z hz => ?_, ?_⟩, htid, hfin, HR.out.2⟩
        · rw [stepL_length]; exact HR.out.1
        · obtain ⟨q, hq⟩ := List.getElem?_of_mem hz
          rw [stepL_get] at hq
          simp only [Option.map_eq_some_iff] at hq
          obtain ⟨u, hu, rfl⟩ := hq
          have hul := HOwn.out.2.1 u (List.mem_of_getElem? hu)
          split
          · exact or_lt hul (wd_bound HLB.out q)
          · exact hul
        · rw [stepL_length]; unfold maxLen; omega

theorem or_any {w : World} {vs vo : Value} {s o : List Nat} (Hs : Words w vs s) (Ho : Words w vo o) :
    Calls Tryd.prog 71 #[vs, vo] w fun e w' => ∃ v' l', e = .returned v' ∧ Own w' w.heap.size v' l' ∧ tl l' = l'.length ∧ (∀ i, wd l' i = wd s i ||| wd o i) ∧ Below w.heap.size w w' := by
  by_cases h : tl o ≤ tl s
  · exact or_first Hs Ho h
  · refine (or_second Ho Hs (by omega)).mono ?_
    rintro e w' ⟨v', l', h1, h2, h3, h4, h5⟩
    exact ⟨v', l', h1, h2, h3, fun i => by rw [h4, Nat.or_comm], h5⟩

end Go.Proofs.YtfcdmkfbkkogbaaDoor.Bits
