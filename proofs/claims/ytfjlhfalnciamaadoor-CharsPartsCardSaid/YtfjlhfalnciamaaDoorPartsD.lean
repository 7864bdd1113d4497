/- The law CharsParts, walked. -/
import Derived.Test.YtfjlhfalnciamaaDoorPartsC
import Derived.Test.YtfjlhfalnciamaaDoorCharsU
namespace Go.Proofs.YtfjlhfalnciamaaDoor.Chars
open Go Go.RowKit Go.Proofs.Chars

set_option maxRecDepth 100000 in
theorem cparts_long {w : World} {va vb vc : Value} {a b c : List Rg} (Ha : Rgs w va a) (Hb : Rgs w vb b) (Hc : Rgs w vc c) (h : 12 < a.length ∨ 12 < b.length ∨ 12 < c.length) :
    Calls Tryd.prog 4 #[va, vb, vc] w fun e w' => e = .returned (.bool true) ∧ Below w.heap.size w w' := by
  have HLA := Ha.len 3 w
  have HLB := Hb.len 3 w
  have HLC := Hc.len 3 w
  clear Ha Hb Hc
  by_cases ha : 12 < a.length
  · have h1 : (12 : Int) < a.length := by omega
    have h2 : decide ((12 : Int) < a.length) = true := decide_eq_true h1
    clear h
    go_enter Tryd.func4, Tryd.ntmps4
    go_wp2
    go_ret
    exact ⟨rfl, Below.refl _ _⟩
  · have h1 : ¬ (12 : Int) < a.length := by omega
    have h2 : decide ((12 : Int) < a.length) = false := decide_eq_false h1
    by_cases hb : 12 < b.length
    · have h3 : (12 : Int) < b.length := by omega
      have h4 : decide ((12 : Int) < b.length) = true := decide_eq_true h3
      clear h
      go_enter Tryd.func4, Tryd.ntmps4
      go_wp2
      go_ret
      exact ⟨rfl, Below.refl _ _⟩
    · have h3 : ¬ (12 : Int) < b.length := by omega
      have h4 : decide ((12 : Int) < b.length) = false := decide_eq_false h3
      have h5 : (12 : Int) < c.length := by omega
      have h6 : decide ((12 : Int) < c.length) = true := decide_eq_true h5
      clear h
      go_enter Tryd.func4, Tryd.ntmps4
      go_wp2
      go_ret
      exact ⟨rfl, Below.refl _ _⟩

/-- Three sets in a row of their own. -/
abbrev L3 (va vb vc : Value) (a b c : List Rg) : List (Value × List Rg) := [(va, a), (vb, b), (vc, c)]
theorem setsAt_made (w : World) {va vb vc : Value} {a b c : List Rg} (Ha : Rgs w va a) (Hb : Rgs w vb b) (Hc : Rgs w vc c) (la : a.length ≤ 12) (lb : b.length ≤ 12) (lc : c.length ≤ 12) :
    SetsAt (w.alloc (.cells #[va, vb, vc] 23)) w.heap.size (L3 va vb vc a b c) := by
  have hb0 : Below w.heap.size w (w.alloc (.cells #[va, vb, vc] 23)) := (RowKit.Below.refl _ w).alloc (Nat.le_refl _) _
  refine ⟨by simp, fun i x hx => ?_, by simp, fun x hx => ?_⟩
  · match i, hx with
    | 0, hx => simp at hx; subst hx; exact ⟨by simp only [World.cell?, heap_alloc_new]; rfl, Ha.stay hb0⟩
    | 1, hx => simp at hx; subst hx; exact ⟨by simp only [World.cell?, heap_alloc_new]; rfl, Hb.stay hb0⟩
    | 2, hx => simp at hx; subst hx; exact ⟨by simp only [World.cell?, heap_alloc_new]; rfl, Hc.stay hb0⟩
  · simp at hx
    rcases hx with rfl | rfl | rfl <;> simp <;> omega
theorem rgs_one (w : World) {z : Rg} (hz : in32 z) : Rgs (w.alloc (.cells #[.int .i32 z.1, .int .i32 z.2] 44)) (.slice (some ⟨w.heap.size, 0, none⟩) 1 1) [z] := by
  refine ⟨fun x hx => by simp at hx; subst hx; exact hz, _, 1, rfl, Nat.le_refl _, by simp [maxLen], fun _ => ⟨_, 0, rfl, by simp, fun i x hx => ?_⟩⟩
  match i, hx with
  | 0, hx =>
    simp at hx
    subst hx
    constructor
    · simp only [World.cell?, heap_alloc_new]; rfl
    · simp only [World.cell?, heap_alloc_new]; rfl
/-- What is known of three sets and their parts. -/
structure Known (L : List (Value × List Rg)) (P : List Rg) : Prop where
  none : ∀ (j : Nat) (s : Value × List Rg) (z : Rg), L[j]? = some s → z ∈ P → ∀ (o O : List Rg), IsOf o O → (∀ r, memU o r ↔ memU s.2 r ∧ memU [z] r) → countC O = 0 ∨ countC O = z.2 - z.1 + 1
  split : ∀ z ∈ P, ¬ ∀ (j : Nat) (s : Value × List Rg), L[j]? = some s → (memU s.2 z.1 ↔ memU s.2 (z.1 - 1))
  top : ∀ z ∈ P, 0 ≤ z.1 ∧ z.1 ≤ z.2 ∧ z.2 ≤ 1114111
  asc : ∀ (i : Nat) (x y : Rg), P[i]? = some x → P[i + 1]? = some y → x.2 < y.1
  mem : ∀ r, memU P r ↔ ∃ s ∈ L, memU s.2 r
theorem known_of {L : List (Value × List Rg)} {Os : List (List Rg)} {P : List Rg} (hl : Os.length = L.length) (ho : outsOf L Os) (hp : PartsP Os P) : Known L P := by
  have get : ∀ (j : Nat) (s : Value × List Rg), L[j]? = some s → ∃ O, Os[j]? = some O ∧ O ∈ Os ∧ IsOf s.2 O := fun j s hs => by
    have hj : j < Os.length := by rw [hl]; exact (List.getElem?_eq_some_iff.1 hs).1
    obtain ⟨x, hx, h2, _⟩ := ho j _ (List.getElem?_eq_getElem hj)
    rw [hs] at hx
    cases hx
    exact ⟨Os[j], List.getElem?_eq_getElem hj, List.getElem_mem hj, h2⟩
  refine ⟨fun j s z hs hz o O hO hm => ?_, fun z hz hall => ?_, fun z hz => ?_, fun i x y hx hy => ?_, fun r => ?_⟩
  · obtain ⟨Oj, _, hmem, hof⟩ := get j s hs
    have hw := hp.whole z hz
    have ht := hp.top z hz
    exact count_part hof ht.1 hw.1 ht.2 (hw.2 Oj hmem) hO hm
  · obtain ⟨O, hO, hne⟩ := hp.split z hz
    obtain ⟨j, hj⟩ := List.mem_iff_getElem?.1 hO
    obtain ⟨s, hs, hof, _⟩ := ho j O hj
    exact hne ((hof.2 _).trans ((hall j s hs).trans (hof.2 _).symm))
  · have ht := hp.top z hz
    have hw := hp.whole z hz
    unfold most at ht
    exact ⟨ht.1, hw.1, ht.2⟩
  · obtain ⟨b, _, h⟩ := hp.asc
    exact asc_next h hx hy
  · constructor
    · rintro ⟨_, _, x, hx, h⟩
      obtain ⟨O, hO, hm⟩ := (hp.mem r).1 ⟨x, hx, h⟩
      obtain ⟨j, hj⟩ := List.mem_iff_getElem?.1 hO
      obtain ⟨s, hs, hof, _⟩ := ho j O hj
      exact ⟨s, List.mem_of_getElem? hs, (hof.2 r).1 hm⟩
    · rintro ⟨s, hs, hm⟩
      obtain ⟨j, hj⟩ := List.mem_iff_getElem?.1 hs
      obtain ⟨O, _, hO, hof⟩ := get j s hj
      exact ⟨hm.1, hm.2.1, (hp.mem r).2 ⟨O, hO, (hof.2 r).2 hm⟩⟩

theorem SetsAt.stay {w w' : World} {b : Nat} {L : List (Value × List Rg)} (h : SetsAt w b L) (hb : RowKit.Below w.heap.size w w') : SetsAt w' b L :=
  ⟨Nat.lt_of_lt_of_le h.lt hb.size, fun i x hx => ⟨(hb.cell (p := ⟨b, i, none⟩) h.lt).trans (h.cell i x hx).1, (h.cell i x hx).2.stay hb⟩, h.len, h.lens⟩

set_option maxHeartbeats 8000000 in
set_option maxRecDepth 100000 in
theorem cparts_walk {W : World} {va vb vc : Value} {a b c : List Rg} (Ha : Rgs W va a) (Hb : Rgs W vb b) (Hc : Rgs W vc c) (hla : ¬ 12 < a.length) (hlb : ¬ 12 < b.length) (hlc : ¬ 12 < c.length) (T : GT W) :
    Calls Tryd.prog 4 #[va, vb, vc] W fun e w' => e = .returned (.bool true) ∧ Below W.heap.size W w' := by
  obtain ⟨A1, cp1, rfl⟩ : ∃ A cp, va = .slice A a.length cp := by obtain ⟨_, A, cp, e, _⟩ := Ha; exact ⟨A, cp, e⟩
  obtain ⟨A2, cp2, rfl⟩ : ∃ A cp, vb = .slice A b.length cp := by obtain ⟨_, A, cp, e, _⟩ := Hb; exact ⟨A, cp, e⟩
  obtain ⟨A3, cp3, rfl⟩ : ∃ A cp, vc = .slice A c.length cp := by obtain ⟨_, A, cp, e, _⟩ := Hc; exact ⟨A, cp, e⟩
  have HLA := Ha.len 3 W
  have HLB := Hb.len 3 W
  have HLC := Hc.len 3 W
  have d1 : ¬ (12 : Int) < a.length := by omega
  have d2 : decide ((12 : Int) < a.length) = false := decide_eq_false d1
  have d3 : ¬ (12 : Int) < b.length := by omega
  have d4 : decide ((12 : Int) < b.length) = false := decide_eq_false d3
  have d5 : ¬ (12 : Int) < c.length := by omega
  have d6 : decide ((12 : Int) < c.length) = false := decide_eq_false d5
  have HPA := Lib.hid (parts_any (cap := 3) (setsAt_made W Ha Hb Hc (by omega) (by omega) (by omega)))
  have HA := Lib.hid Ha
  have HB := Lib.hid Hb
  have HC := Lib.hid Hc
  have HT := Lib.hid T
  clear Ha Hb Hc T
  go_enter Tryd.func4, Tryd.ntmps4
  go_wp2_with fail
  refine HPA.out.mono ?_
  rintro e w1 ⟨v, P, Os, rfl, hrow, hl, ho, hp, hPl, hb⟩
  have hb1 : Below W.heap.size W w1 := ((RowKit.Below.refl _ W).alloc (Nat.le_refl _) (.cells #[.slice A1 a.length cp1, .slice A2 b.length cp2, .slice A3 c.length cp3] 23)).trans (hb.mono (by simp))
  have HK := Lib.hid (known_of hl ho hp)
  have HPL := Lib.hid hPl
  have HB1 := Lib.hid hb1
  have HROW1 := Lib.hid hrow
  have HSA := Lib.hid (setsAt_made w1 (HA.out.stay hb1) (HB.out.stay hb1) (HC.out.stay hb1) (by omega) (by omega) (by omega))
  have hba : Below w1.heap.size w1 (w1.alloc (.cells #[.slice A1 a.length cp1, .slice A2 b.length cp2, .slice A3 c.length cp3] 23)) := (RowKit.Below.refl _ w1).alloc (Nat.le_refl _) _
  have HA1 := Lib.hid ((HA.out.stay hb1).stay hba)
  have HB1' := Lib.hid ((HB.out.stay hb1).stay hba)
  have HC1 := Lib.hid ((HC.out.stay hb1).stay hba)
  have HROW2 := Lib.hid (hrow.stay hba)
  have HW2 := Lib.hid (hb1.trans (hba.mono hb1.size))
  clear hrow hl ho hp hb hPl hb1 hba HPA HA HB HC HLA HLB HLC
  obtain ⟨b2, hb2⟩ : ∃ b2, w1.heap.size = b2 := ⟨_, rfl⟩
  go_upto_region 5 with fail
  simp only [hb2] at HSA ⊢
  generalize w1.alloc (.cells #[.slice A1 a.length cp1, .slice A2 b.length cp2, .slice A3 c.length cp3] 23) = w2 at *
  have HB2 := Lib.hid hb2
  clear hb2
  have HOR := Lib.hid (or_any HA1.out HB1'.out (by omega) (by omega))
  go_wp2_with fail
  refine HOR.out.mono ?_
  rintro e w3 ⟨v3, o3, rfl, hr3, hc3, hm3, hl3, hb3⟩
  have HR3 := Lib.hid (hr3.rgs (canon_in32 hc3 (Int.le_refl _)))
  have HM3 := Lib.hid hm3
  have HSA := Lib.hid (HSA.out.stay hb3)
  have HC3 := Lib.hid (HC1.out.stay hb3)
  have HROW3 := Lib.hid (HROW2.out.stay hb3)
  have HW3 := Lib.hid (HW2.out.trans (hb3.mono HW2.out.size))
  clear hr3 hc3 hm3 hb3 HOR HA1 HB1' HC1 HROW2 HROW1 HW2
  have HOR := Lib.hid (or_any HR3.out HC3.out (by omega) (by omega))
  go_wp2_with fail
  refine HOR.out.mono ?_
  rintro e w4 ⟨v4, o4, rfl, hr4, hc4, hm4, hl4, hb4⟩
  have HR4 := Lib.hid (hr4.rgs (canon_in32 hc4 (Int.le_refl _)))
  have HM4 := Lib.hid hm4
  have HSA := Lib.hid (HSA.out.stay hb4)
  have HROW4 := Lib.hid (HROW3.out.stay hb4)
  have HW4 := Lib.hid (HW3.out.trans (hb4.mono HW3.out.size))
  clear hr4 hc4 hm4 hb4 HOR HR3 HC3 HROW3 HW3
  have hin : ∀ x ∈ P, in32 x := fun x hx => by
    have := HK.out.top x hx
    exact ⟨⟨by omega, by omega⟩, by omega, by omega⟩
  have HIN := Lib.hid hin
  have hPl6 : P.length ≤ 600 := HPL.out
  have HOF := Lib.hid (of_any (HROW4.out.rgs hin) (by omega))
  go_wp2_with fail
  refine HOF.out.mono ?_
  rintro e w5 ⟨v5, o5, rfl, hr5, hi5, hl5, hb5⟩
  have hss : SameSet o5 o4 := fun r => by
    rw [hi5.1.memU r, hi5.2 r, HK.out.mem r, HM4.out r, HM3.out r]
    constructor
    · rintro ⟨s, hs, h⟩
      simp at hs
      rcases hs with rfl | rfl | rfl
      · exact .inl (.inl h)
      · exact .inl (.inr h)
      · exact .inr h
    · rintro ((h | h) | h)
      · exact ⟨_, .head _, h⟩
      · exact ⟨_, .tail _ (.head _), h⟩
      · exact ⟨_, .tail _ (.tail _ (.head _)), h⟩
  have HSM := Lib.hid (same_any (hr5.rgs (canon_in32 hi5.1 (Int.le_refl _))) (HR4.out.stay hb5) (by omega) (by omega) true ⟨fun _ => hss, fun _ => rfl⟩)
  have HSA := Lib.hid (HSA.out.stay hb5)
  have HROW5 := Lib.hid (HROW4.out.stay hb5)
  have HW5 := Lib.hid (HW4.out.trans (hb5.mono HW4.out.size))
  clear hr5 hi5 hl5 hb5 hss HOF HR4 HM4 HM3 HROW4 HW4 hin
  go_wp2_with fail
  refine HSM.out.mono ?_
  rintro e w6 ⟨rfl, hb6⟩
  have HSA := Lib.hid (HSA.out.stay hb6)
  have HROW6 := Lib.hid (HROW5.out.stay hb6)
  have HW6 := Lib.hid (HW5.out.trans (hb6.mono HW5.out.size))
  clear hb6 HSM HROW5 HW5
  obtain ⟨Av, cpv, rfl⟩ := HROW6.out.form
  go_wp2_with fail
  go_loopw [10] (fun x10 wr => ∃ i : Nat, i ≤ P.length ∧ x10 = .int .i64 (i : Int) ∧ Below w6.heap.size w6 wr) (fun x10 _ => P.length - (intOf x10).toNat)
  case atStart => exact ⟨0, by omega, rfl, Below.refl _ _⟩
  case round =>
    obtain ⟨i, hip, rfl, hBr⟩ := hrel
    by_cases hil : i < P.length
    · have p1 : decide ((i : Int) < (P.length : Int)) = true := decide_eq_true (by omega)
      have p1' : decide (i < P.length) = true := decide_eq_true hil
      have p2 : (0 : Int) ≤ (i : Int) := by omega
      have p3 : (i : Int) < (P.length : Int) := by omega
      obtain ⟨z, hz⟩ : ∃ z, P[i]? = some z := ⟨P[i], List.getElem?_eq_getElem hil⟩
      obtain ⟨gp, cpp, e9, _, _, gpl, _, _, gc⟩ := HROW6.out.at (by omega)
      cases e9
      obtain ⟨hz0, hz1, hz2⟩ := HK.out.top z (List.mem_of_getElem? hz)
      have HCELL : Hid (∀ w', Below w6.heap.size w6 w' → ∀ (j : Nat) (y : Rg), P[j]? = some y → w'.cell? ⟨gp, j * 2, none⟩ = some (.int .i32 y.1) ∧ w'.cell? ⟨gp, j * 2 + 1, none⟩ = some (.int .i32 y.2)) := Lib.hid fun w' hb j y hy =>
        ⟨(hb.cell (p := ⟨gp, j * 2, none⟩) gpl).trans (gc j y hy).1, (hb.cell (p := ⟨gp, j * 2 + 1, none⟩) gpl).trans (gc j y hy).2⟩
      obtain ⟨c0, c1⟩ := HCELL.out wr hBr i z hz
      have s1 : decide (z.2 < z.1) = false := decide_eq_false (by omega)
      have HZ := Lib.hid hz
      have HBR := Lib.hid hBr
      have HPY : Hid (∀ k, i = k + 1 → ∃ y, P[k]? = some y ∧ y.2 < z.1 ∧ 0 ≤ y.2) := Lib.hid fun k hk => by
        have hk2 : k < P.length := by omega
        refine ⟨P[k], List.getElem?_eq_getElem hk2, HK.out.asc k _ z (List.getElem?_eq_getElem hk2) (by rw [← hk]; exact hz), ?_⟩
        have := HK.out.top P[k] (List.getElem_mem hk2)
        omega
      clear gc hz hBr
      go_upto_region 11 with fail
      go_cut [80] (fun v wx => v = .bool false ∧ Below wr.heap.size wr wx)
      case first =>
        by_cases h0 : 0 < i
        · have t1 : decide ((0 : Int) < (i : Int)) = true := decide_eq_true (by omega)
          have t1' : decide (0 < i) = true := decide_eq_true h0
          obtain ⟨k, hk⟩ : ∃ k, i - 1 = k := ⟨_, rfl⟩
          obtain ⟨y, hy, hyz, hy0⟩ := HPY.out k (by omega)
          have t2 : IntKind.i64.wrap ((i : Int) - 1) = (k : Int) := by rw [IntWalk.i64_in _ (by omega)]; omega
          have t3 : (0 : Int) ≤ (k : Int) := by omega
          have t4 : (k : Int) < (P.length : Int) := by omega
          obtain ⟨y0, y1⟩ := HCELL.out wr HBR.out k y hy
          have t5 : decide (z.1 ≤ y.2) = false := decide_eq_false (by omega)
          clear hk hy
          go_wp2_with fail
          go_quiet (fail)
          go_wp2
          go_meet
          exact ⟨rfl, below_drewN (RowKit.Below.refl _ _) _⟩
        · have t1 : decide ((0 : Int) < (i : Int)) = false := decide_eq_false (by omega)
          have t1' : decide (0 < i) = false := decide_eq_false h0
          go_wp2_with fail
          go_quiet (fail)
          go_wp2
          go_meet
          exact ⟨rfl, below_drewN (RowKit.Below.refl _ _) _⟩
      case rest =>
        obtain ⟨rfl, hbc⟩ := hcut
        have HBC := Lib.hid (HBR.out.trans (hbc.mono HBR.out.size))
        clear hbc c0 c1
        go_upto_region 13 with fail
        go_cut [11] (fun v wx => (∃ s0 : Bool, v = .bool s0) ∧ Below w6.heap.size w6 wx)
        case first =>
          by_cases h0 : 0 < i
          · have t1 : decide ((0 : Int) < (i : Int)) = true := decide_eq_true (by omega)
            have t1' : decide (0 < i) = true := decide_eq_true h0
            obtain ⟨k, hk⟩ : ∃ k, i - 1 = k := ⟨_, rfl⟩
            obtain ⟨y, hy, hyz, hy0⟩ := HPY.out k (by omega)
            have t2 : IntKind.i64.wrap ((i : Int) - 1) = (k : Int) := by rw [IntWalk.i64_in _ (by omega)]; omega
            have t3 : (0 : Int) ≤ (k : Int) := by omega
            have t4 : (k : Int) < (P.length : Int) := by omega
            obtain ⟨y0, y1⟩ := HCELL.out wc HBC.out k y hy
            obtain ⟨c0, c1⟩ := HCELL.out wc HBC.out i z HZ.out
            have t5 : IntKind.i32.wrap (y.2 + 1) = y.2 + 1 := IntWalk.i32_in _ (by omega)
            obtain ⟨s0, hs0⟩ : ∃ s0, (y.2 + 1 == z.1) = s0 := ⟨_, rfl⟩
            clear hk hy
            go_wp2_with fail
            go_quiet (fail)
            go_wp2
            go_meet
            exact ⟨⟨_, rfl⟩, HBC.out.trans ((below_drewN (RowKit.Below.refl _ _) _).mono HBC.out.size)⟩
          · have t1 : decide ((0 : Int) < (i : Int)) = false := decide_eq_false (by omega)
            have t1' : decide (0 < i) = false := decide_eq_false h0
            go_wp2_with fail
            go_quiet (fail)
            go_wp2
            go_meet
            exact ⟨⟨_, rfl⟩, HBC.out.trans ((below_drewN (RowKit.Below.refl _ _) _).mono HBC.out.size)⟩
        case rest =>
          obtain ⟨⟨s0, rfl⟩, hbd⟩ := hcut
          have HBD := Lib.hid hbd
          clear hbd HBC HBR HPY
          go_wp2_with fail
          go_loopw [11, 12] (fun x11 x12 wy => ∃ k : Nat, k ≤ 3 ∧ ∃ sv : Bool, x12 = .int .i64 (k : Int) ∧ x11 = .bool sv ∧ (sv = true → ∀ (j : Nat) (s : Value × List Rg), j < k → (L3 (.slice A1 a.length cp1) (.slice A2 b.length cp2) (.slice A3 c.length cp3) a b c)[j]? = some s → (memU s.2 z.1 ↔ memU s.2 (z.1 - 1))) ∧ Below w6.heap.size w6 wy) (fun _ x12 _ => 3 - (intOf x12).toNat)
          case atStart => exact ⟨0, by omega, s0, rfl, rfl, fun _ j s h => by omega, HBD.out⟩
          case round =>
            obtain ⟨k, hk, sv, rfl, rfl, hag, hBr⟩ := hrel
            by_cases hkl : k < 3
            · have q1 : decide ((k : Int) < 3) = true := decide_eq_true (by omega)
              have q2 : (0 : Int) ≤ (k : Int) := by omega
              have q3 : (k : Int) < 3 := by omega
              obtain ⟨s, hs⟩ : ∃ s, (L3 (.slice A1 a.length cp1) (.slice A2 b.length cp2) (.slice A3 c.length cp3) a b c)[k]? = some s := ⟨_, List.getElem?_eq_getElem (by simpa using hkl)⟩
              obtain ⟨e0, hrg⟩ := (HSA.out.stay hBr).cell k s hs
              have hsl := HSA.out.lens s (List.mem_of_getElem? hs)
              obtain ⟨c0, c1⟩ := HCELL.out wr hBr i z HZ.out
              have HS := Lib.hid hs
              have HAG := Lib.hid hag
              have HBR := Lib.hid hBr
              have HRG := Lib.hid hrg
              obtain ⟨sv1, sl⟩ := s
              simp only [] at e0 hrg hsl HRG
              obtain ⟨As, cps, rfl⟩ : ∃ A cp, sv1 = .slice A sl.length cp := by obtain ⟨_, A, cp, e, _⟩ := hrg; exact ⟨A, cp, e⟩
              clear hs hag hBr hrg
              go_upto_region 17 with fail
              have hzin : in32 z := HIN.out z (List.mem_of_getElem? HZ.out)
              have hba : Below wr.heap.size wr (wr.alloc (.cells #[.int .i32 z.1, .int .i32 z.2] 44)).drew := ((RowKit.Below.refl _ _).alloc (Nat.le_refl _) _).drew
              have HAC : Hid (Calls Tryd.prog 19 #[.slice As sl.length cps, .slice (some ⟨wr.heap.size, 0, none⟩) 1 1] (wr.alloc (.cells #[.int .i32 z.1, .int .i32 z.2] 44)).drew fun e w' => ∃ v O, e = .returned v ∧ Rgs w' v O ∧ (∀ r, memU O r ↔ memU sl r ∧ memU [z] r) ∧ O.length ≤ 200 ∧ Below wr.heap.size wr w') := Lib.hid (by
                refine (and_any (HRG.out.stay hba) ((rgs_one wr hzin).stay (RowKit.Below.refl _ _).drew) (by omega) (by simp)).mono ?_
                rintro e w' ⟨v, O, rfl, h1, h2, h3, h4, h5⟩
                exact ⟨v, O, rfl, h1.rgs (canon_in32 h2 (Int.le_refl _)), h3, by simp at h4; omega, hba.trans (h5.mono hba.size)⟩)
              clear hba
              have HKEEP : Hid (∀ w', Below wr.heap.size wr w' → w'.cell? ⟨b2, k, none⟩ = some (.slice As sl.length cps) ∧ w'.cell? ⟨gp, i * 2, none⟩ = some (.int .i32 z.1) ∧ w'.cell? ⟨gp, i * 2 + 1, none⟩ = some (.int .i32 z.2) ∧ Below wr.heap.size wr w') := Lib.hid fun w' hb => by
                have h1 := (HSA.out.stay HBR.out).lt
                obtain ⟨h2, h3⟩ := HCELL.out w' (HBR.out.trans (hb.mono HBR.out.size)) i z HZ.out
                exact ⟨(hb.cell (p := ⟨b2, k, none⟩) h1).trans e0, h2, h3, hb⟩
              obtain ⟨g0, g1, g2, -⟩ := HKEEP.out wr (RowKit.Below.refl _ _)
              have n0 := World.new_ne wr ⟨b2, k, none⟩ g0
              have n1 := World.new_ne wr ⟨gp, i * 2, none⟩ g1
              have n2 := World.new_ne wr ⟨gp, i * 2 + 1, none⟩ g2
              go_cut [13] (fun v wx => ∃ N5 : Int, v = .int .i64 N5 ∧ (N5 = 0 ∨ N5 = z.2 - z.1 + 1) ∧ Below w6.heap.size w6 wx)
              case first =>
                go_region_held3 (fun w' => w'.cell? ⟨b2, k, none⟩ = some (.slice As sl.length cps) ∧ w'.cell? ⟨gp, i * 2, none⟩ = some (.int .i32 z.1) ∧ w'.cell? ⟨gp, i * 2 + 1, none⟩ = some (.int .i32 z.2))
                  (first | go_keep | exact ⟨g0, g1, g2⟩)
                  (first
                    | (go_at_call 19; refine HAC.out.mono ?_; rintro e w5 ⟨v5, O5, rfl, hrg5, hm5, hl5, hbk⟩; obtain ⟨g0, g1, g2, -⟩ := HKEEP.out w5 hbk)
                    | (go_at_call 23; refine (count_any hrg5 (by omega)).mono ?_; rintro e w6' ⟨D5, rfl, hof5, hb6⟩; have hbk := hbk.trans (hb6.mono hbk.size); obtain ⟨g0, g1, g2, -⟩ := HKEEP.out w6' hbk))
                have hcn := HK.out.none k _ z HS.out (List.mem_of_getElem? HZ.out) O5 D5 hof5 hm5
                have HB7 := Lib.hid (HBR.out.trans (hbk.mono HBR.out.size))
                have HCN := Lib.hid hcn
                clear hrg5 hm5 hl5 hof5 hb6 hbk hcn n0 n1 n2
                go_wp2_with fail
                go_meet
                exact ⟨_, rfl, HCN.out, HB7.out⟩
              case rest =>
                obtain ⟨N5, rfl, hcn, hb7⟩ := hcut
                obtain ⟨w7, hw7⟩ : ∃ w7, w7 = wc := ⟨_, rfl⟩
                subst hw7
                obtain ⟨b0, b1⟩ := HCELL.out w7 hb7 i z HZ.out
                have HB7 := Lib.hid hb7
                clear hb7 n0 n1 n2 c0 c1 g0 g1 g2 e0 HAC HKEEP
                go_upto_region 18 with fail
                go_cut [131] (fun v wx => v = .bool false ∧ Below w7.heap.size w7 wx)
                case first =>
                  rcases hcn with rfl | hcn
                  · have t1 : ((0 : Int) != 0) = false := by decide
                    go_wp2_with fail
                    go_quiet (fail)
                    go_wp2
                    go_meet
                    exact ⟨rfl, below_drewN (RowKit.Below.refl _ _) _⟩
                  · obtain ⟨d, hd⟩ : ∃ d, z.2 - z.1 = d := ⟨_, rfl⟩
                    have t1 : IntKind.i32.wrap (z.2 - z.1) = d := by rw [IntWalk.i32_in _ (by omega), hd]
                    have t2 : IntKind.i64.wrap d = d := IntWalk.i64_in _ (by omega)
                    have t3 : IntKind.i64.wrap (d + 1) = N5 := by rw [IntWalk.i64_in _ (by omega), hcn, hd]
                    have t4 : (N5 != 0) = true := by simp; omega
                    have t5 : (N5 != N5) = false := by simp
                    clear hcn hd
                    go_wp2_with fail
                    go_quiet (fail)
                    go_wp2
                    go_meet
                    exact ⟨rfl, below_drewN (RowKit.Below.refl _ _) _⟩
                case rest =>
                  obtain ⟨rfl, hbc⟩ := hcut
                  have HB8 := Lib.hid (HB7.out.trans (hbc.mono HB7.out.size))
                  clear hbc b0 b1 hcn HB7
                  have HFIN : Hid (∀ (sv' : Bool) (wx : World), (sv' = true → sv = true ∧ (memU sl z.1 ↔ memU sl (z.1 - 1))) → Below w6.heap.size w6 wx → ∃ k' : Nat, k' ≤ 3 ∧ ∃ sv2 : Bool, Value.int .i64 ((k : Int) + 1) = .int .i64 (k' : Int) ∧ Value.bool sv' = .bool sv2 ∧ (sv2 = true → ∀ (j : Nat) (s : Value × List Rg), j < k' → (L3 (.slice A1 a.length cp1) (.slice A2 b.length cp2) (.slice A3 c.length cp3) a b c)[j]? = some s → (memU s.2 z.1 ↔ memU s.2 (z.1 - 1))) ∧ Below w6.heap.size w6 wx) := Lib.hid fun sv' wx hsv hbe => by
                    refine ⟨k + 1, by omega, sv', by go_num, rfl, fun h j s hj hs => ?_, hbe⟩
                    obtain ⟨h1, h2⟩ := hsv h
                    by_cases hjk : j = k
                    · subst hjk
                      have := HS.out
                      rw [hs] at this
                      cases this
                      exact h2
                    · exact HAG.out h1 j s (by omega) hs
                  cases sv with
                  | false =>
                    go_upto_region 20 with fail
                    go_quiet (fail)
                    go_wp2_with fail
                    go_roundw
                    case rel => exact HFIN.out false _ (fun h => by cases h) (HB8.out.trans ((below_drewN (RowKit.Below.refl _ _) _).mono HB8.out.size))
                    case measure => simp [intOf]; omega
                  | true =>
                    obtain ⟨mB, hmB⟩ : ∃ mB : Int → Bool, ∀ r, mB r = true ↔ memU sl r := by classical exact ⟨fun r => decide (memU sl r), fun r => by simp⟩
                    have HRG8 : Hid (Rgs wc (.slice As sl.length cps) sl) := Lib.hid ((HSA.out.stay HB8.out).cell k _ HS.out).2
                    have HLT8 := Lib.hid (HSA.out.stay HB8.out).lt
                    have HE8 : Hid (wc.cell? ⟨b2, k, none⟩ = some (.slice As sl.length cps)) := Lib.hid ((HSA.out.stay HB8.out).cell k _ HS.out).1
                    obtain ⟨q, hq⟩ : ∃ q, z.1 - 1 = q := ⟨_, rfl⟩
                    have t4 : IntKind.i32.wrap (z.1 - 1) = q := by rw [IntWalk.i32_in _ (by omega), hq]
                    have HH1 : Hid (∀ w' r, Below wc.heap.size wc w' → Calls Tryd.prog 22 #[.slice As sl.length cps, .int .i32 r] w' fun e w'' => e = .returned (.bool (mB r)) ∧ Below w'.heap.size w' w'') := Lib.hid fun w' r hb => has_any (HRG8.out.stay hb) (by omega) r (mB r) (hmB r)
                    have HKEEP : Hid (∀ w', Below wc.heap.size wc w' → w'.cell? ⟨b2, k, none⟩ = some (.slice As sl.length cps) ∧ w'.cell? ⟨gp, i * 2, none⟩ = some (.int .i32 z.1)) := Lib.hid fun w' hb =>
                      ⟨(hb.cell (p := ⟨b2, k, none⟩) HLT8.out).trans HE8.out, (HCELL.out w' (HB8.out.trans (hb.mono HB8.out.size)) i z HZ.out).1⟩
                    have HMB := Lib.hid hmB
                    have HQ := Lib.hid hq
                    obtain ⟨g0, g1⟩ := HKEEP.out wc (RowKit.Below.refl _ _)
                    have hbk : Below wc.heap.size wc wc.drew := (RowKit.Below.refl _ _).drew
                    clear hmB hq
                    go_upto_region 20 with fail
                    go_region_held3 (fun w' => w'.cell? ⟨b2, k, none⟩ = some (.slice As sl.length cps) ∧ w'.cell? ⟨gp, i * 2, none⟩ = some (.int .i32 z.1))
                      (first | go_keep | exact ⟨g0, g1⟩)
                      (first
                        | (go_at_call 22; refine (HH1.out _ _ hbk).mono ?_; rintro e w9 ⟨rfl, hb9⟩; have hbk := hbk.trans (hb9.mono hbk.size); obtain ⟨g0, g1⟩ := HKEEP.out w9 hbk))
                    all_goals
                      have HB9 := Lib.hid (HB8.out.trans (hbk.mono HB8.out.size))
                      clear hbk
                      go_wp2_with fail
                      go_roundw
                      case rel =>
                        refine HFIN.out _ _ (fun h => ⟨by trivial, ?_⟩) HB9.out
                        have h2 : mB z.1 = mB q := by simpa using h
                        rw [← HMB.out, HQ.out, ← HMB.out, h2]
                      case measure => simp [intOf]; omega
            · have q1 : decide ((k : Int) < 3) = false := decide_eq_false (by omega)
              obtain rfl : sv = false := by
                cases sv with
                | false => rfl
                | true => exact absurd (fun j s hs => hag rfl j s (by have := (List.getElem?_eq_some_iff.1 hs).1; simp at this; omega) hs) (HK.out.split z (List.mem_of_getElem? HZ.out))
              have HBR := Lib.hid hBr
              clear hag hBr
              go_wp2_with fail
              go_roundw
              case rel => exact ⟨i + 1, by omega, by go_num, HBR.out⟩
              case measure => simp [intOf]; omega
    · have p1 : decide ((i : Int) < (P.length : Int)) = false := decide_eq_false (by omega)
      have p1' : decide (i < P.length) = false := decide_eq_false hil
      have HB7 := Lib.hid (HW6.out.trans (hBr.mono HW6.out.size))
      have HG := Lib.hid (HT.out.stay HB7.out)
      clear hBr
      go_wp2_with fail
      refine (works_any _ HG.out).mono ?_
      rintro e w8 ⟨rfl, hb8⟩
      have HB8 := Lib.hid (HB7.out.trans (hb8.mono HB7.out.size))
      clear hb8
      go_wp2
      go_ret
      exact ⟨rfl, HB8.out⟩

theorem cparts_all {W : World} {va vb vc : Value} {a b c : List Rg} (Ha : Rgs W va a) (Hb : Rgs W vb b) (Hc : Rgs W vc c) (T : GT W) :
    Calls Tryd.prog 4 #[va, vb, vc] W fun e w' => e = .returned (.bool true) ∧ Below W.heap.size W w' := by
  by_cases hla : 12 < a.length
  · exact cparts_long Ha Hb Hc (.inl hla)
  by_cases hlb : 12 < b.length
  · exact cparts_long Ha Hb Hc (.inr (.inl hlb))
  by_cases hlc : 12 < c.length
  · exact cparts_long Ha Hb Hc (.inr (.inr hlc))
  exact cparts_walk Ha Hb Hc hla hlb hlc T

end Go.Proofs.YtfjlhfalnciamaaDoor.Chars
