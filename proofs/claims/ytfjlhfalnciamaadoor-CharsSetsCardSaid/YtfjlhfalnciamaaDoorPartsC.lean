/- Parts (package chars), walked. -/
import Derived.Test.YtfjlhfalnciamaaDoorPartsB
import Derived.Deep.AppendLies
import Derived.Deep.RegionLaw
import Derived.Deep.RegionHeld3
import Derived.Lib.Buffer
namespace Go.Proofs.YtfjlhfalnciamaaDoor.Chars
open Go Go.RowKit Go.Proofs.Chars

theorem own_block {w : World} {S e n size : Nat} {v : Value} {xs : List Value} (h : w.ownsRow S e size v n xs) {k : Nat} (hk : v.ownBlock = some k) : S ≤ k ∧ k < w.heap.size ∧ ∃ cur, w.heap[k]? = some (Obj.cells cur e (0, 0)) := by
  rcases h.2 with ⟨rfl, _⟩ | ⟨g, cap, cur, rfl, e2, e3, _⟩
  · cases hk
  · cases hk
    exact ⟨e2, (Array.getElem?_eq_some_iff.1 e3).1, cur, e3⟩
theorem own_agree {w w' : World} {S e n size : Nat} {v : Value} {xs : List Value} (h : w.ownsRow S e size v n xs) (hk : ∀ k, v.ownBlock = some k → w'.heap[k]? = w.heap[k]?) : w'.ownsRow S e size v n xs := by
  refine ⟨h.1, ?_⟩
  rcases h.2 with h0 | ⟨g, cap, cur, e1, e2, e3, e4⟩
  · exact .inl h0
  · exact .inr ⟨g, cap, cur, e1, e2, (hk g (by rw [e1]; rfl)).trans e3, e4⟩
theorem own_apart {w : World} {S S' e e' n n' size size' : Nat} {v v' : Value} {xs xs' : List Value} (h : w.ownsRow S e size v n xs) (h' : w.ownsRow S' e' size' v' n' xs') (hne : e ≠ e') {k : Nat} (hk : v.ownBlock = some k) : some k ≠ v'.ownBlock := fun e1 => by
  obtain ⟨_, _, c1, h1⟩ := own_block h hk
  obtain ⟨_, _, c2, h2⟩ := own_block h' e1.symm
  rw [h1] at h2
  simp only [Option.some.injEq, Obj.cells.injEq] at h2
  exact hne h2.2.1
theorem BRow.stay {w w' : World} {S : Nat} {v : Value} {L : List Bd} (h : BRow w S v L) (hb : RowKit.Below w.heap.size w w') : BRow w' S v L := own_agree h fun k hk => hb.block k (own_block h hk).2.1
theorem BRow.form {w : World} {S : Nat} {v : Value} {L : List Bd} (h : BRow w S v L) : ∃ A cap, v = .slice A L.length cap := by
  rcases h.2 with ⟨rfl, h0⟩ | ⟨g, cap, cur, rfl, _⟩
  · exact ⟨none, 0, by rw [h0]⟩
  · exact ⟨_, cap, rfl⟩
theorem BRow.at {w : World} {S : Nat} {v : Value} {L : List Bd} (h : BRow w S v L) (hn : 0 < L.length) : ∃ g cap, v = .slice (some ⟨g, 0, none⟩) L.length cap ∧ L.length ≤ maxLen ∧ g < w.heap.size ∧ ∀ (i : Nat) (x : Bd), L[i]? = some x → w.cell? ⟨g, i * 2, none⟩ = some (.int .i32 x.1) ∧ w.cell? ⟨g, i * 2 + 1, none⟩ = some (.int .i64 x.2) := by
  have h' := h
  rcases h.2 with ⟨_, h0⟩ | ⟨g, cap, cur, hv, h1, h3, h4, h5, h6, h7⟩
  · omega
  · refine ⟨g, cap, hv, Nat.le_trans h4 h5, (Array.getElem?_eq_some_iff.1 h3).1, fun i x hx => ?_⟩
    have hc := World.ownsRow.cells h' (g := g) (by rw [hv]; rfl)
    have h2 := bcells_get hx
    have e1 := hc _ _ h2.1
    have e2 := hc _ _ h2.2
    rw [addr_add] at e1 e2
    exact ⟨e1, e2⟩
theorem infoB : (Tryd.prog.info? 91).map (fun i => (i.zero, i.size, i.bytes)) = some (some (.agg #[.int .i32 0, .int .i64 0]), 2, 16) := by kernel_rfl
/-- Sets that are handed in, in a row of their own. -/
structure SetsAt (w : World) (b : Nat) (L : List (Value × List Rg)) : Prop where
  lt : b < w.heap.size
  cell : ∀ (i : Nat) (x : Value × List Rg), L[i]? = some x → w.cell? ⟨b, i, none⟩ = some x.1 ∧ Rgs w x.1 x.2
  len : L.length ≤ 1000
  lens : ∀ x ∈ L, x.2.length ≤ 100
def outsOf (L : List (Value × List Rg)) (Os : List (List Rg)) : Prop := ∀ (j : Nat) (O : List Rg), Os[j]? = some O → ∃ x, L[j]? = some x ∧ IsOf x.2 O ∧ O.length ≤ 100
/-- What Parts tells. -/
def PartsE (w : World) (L : List (Value × List Rg)) (e : Ending) (w' : World) : Prop :=
  ∃ v P Os, e = .returned v ∧ Rowed w' w.heap.size v P ∧ Os.length = L.length ∧ outsOf L Os ∧ PartsP Os P ∧ P.length ≤ 200 * L.length ∧ Below w.heap.size w w'
theorem flat_len {L : List (Value × List Rg)} {Os : List (List Rg)} (h : outsOf L Os) : (Os.flatMap borders).length ≤ 200 * Os.length := by
  have hb : ∀ O ∈ Os, (borders O).length ≤ 200 := fun O hO => by
    obtain ⟨j, hj⟩ := List.mem_iff_getElem?.1 hO
    obtain ⟨x, _, _, h3⟩ := h j O hj
    rw [borders_len]
    omega
  clear h
  induction Os with
  | nil => simp
  | cons O Os ih =>
    have h1 := hb O List.mem_cons_self
    have h2 := ih fun O' hO' => hb O' (List.mem_cons_of_mem _ hO')
    rw [List.flatMap_cons, List.length_append, List.length_cons]
    omega

set_option maxHeartbeats 4000000 in
set_option maxRecDepth 100000 in
theorem parts_any {w : World} {b cap : Nat} {L : List (Value × List Rg)} (H : SetsAt w b L) :
    Calls Tryd.prog 28 #[.slice (some ⟨b, 0, none⟩) L.length cap] w fun e w' => PartsE w L e w' := by
  obtain ⟨i0, hi, hz0, hz1, hz2⟩ := info_parts infoB
  obtain ⟨S, hS⟩ : ∃ S, S = w.heap.size := ⟨_, rfl⟩
  have HS := Lib.hid hS
  have hsz : S ≤ w.heap.size := by omega
  have hbS : b < S := by rw [hS]; exact H.lt
  have hLl := H.len
  have HH := Lib.hid H
  clear hS H
  go_enter Tryd.func28, Tryd.ntmps28
  go_wp2_with fail
  go_loopw [3, 14] (fun x3 x14 wx => ∃ i : Nat, i ≤ L.length ∧ x14 = .int .i64 (i : Int) ∧ ∃ Os, Os.length = i ∧ outsOf L Os ∧ BRow wx S x3 (Os.flatMap borders) ∧ Below S w wx) (fun _ x14 _ => L.length - (intOf x14).toNat)
  case atStart => exact ⟨0, by omega, rfl, [], rfl, fun j O h => by simp at h, ⟨rfl, .inl ⟨rfl, rfl⟩⟩, Below.refl _ _⟩
  case round =>
    obtain ⟨i, hi', rfl, Os, hOl, hOs, hrow, hB⟩ := hrel
    have hszr : S ≤ wr.heap.size := Nat.le_trans hsz hB.size
    by_cases hlt : i < L.length
    · have p1 : decide ((i : Int) < (L.length : Int)) = true := decide_eq_true (by omega)
      have p1' : decide (i < L.length) = true := decide_eq_true hlt
      have p2 : (0 : Int) ≤ (i : Int) := by omega
      have p3 : (i : Int) < (L.length : Int) := by omega
      obtain ⟨x, hx⟩ : ∃ x, L[i]? = some x := ⟨L[i], List.getElem?_eq_getElem hlt⟩
      obtain ⟨hc0, hrg⟩ := HH.out.cell i x hx
      have c0 := (hB.cell (p := ⟨b, i, none⟩) hbS).trans hc0
      have hxl := HH.out.lens x (List.mem_of_getElem? hx)
      have hrgr : Rgs wr x.1 x.2 := hrg.stay (by rw [← HS.out]; exact hB)
      have HO := Lib.hid (of_any hrgr (by omega))
      have HROW := Lib.hid hrow
      have HB := Lib.hid hB
      have HX := Lib.hid hx
      have HOs := Lib.hid hOs
      have HOl := Lib.hid hOl
      have hfl := flat_len hOs
      have HFL := Lib.hid hfl
      obtain ⟨xv, xl⟩ := x
      simp only [] at c0 HO hrgr hxl
      obtain ⟨A0, cp0, rfl⟩ : ∃ A cp, xv = .slice A xl.length cp := by obtain ⟨_, A, cp, e, _⟩ := hrgr; exact ⟨A, cp, e⟩
      clear hrow hB hx hc0 hrg hrgr hOs hOl hfl
      go_wp2_with fail
      refine HO.out.mono ?_
      rintro e w1 ⟨v1, O, rfl, hr1, hi1, hl1, hb1⟩
      obtain ⟨A1, cp1, rfl⟩ := hr1.form
      have HR1 := Lib.hid (show Rowed w1 S (.slice A1 O.length cp1) O from hr1.low hszr)
      have HI1 := Lib.hid hi1
      have HL1 := Lib.hid hl1
      have HB1 := Lib.hid (HB.out.trans (hb1.mono hszr))
      have HROW1 := Lib.hid (HROW.out.stay hb1)
      have hOl1 : O.length ≤ 100 := by omega
      clear hr1 hi1 hl1 hb1
      go_wp2_with fail
      go_loopw [3, 21] (fun x3 x21 wx => ∃ k : Nat, k ≤ O.length ∧ x21 = .int .i64 (k : Int) ∧ BRow wx S x3 (Os.flatMap borders ++ borders (O.take k)) ∧ Rowed wx S (.slice A1 O.length cp1) O ∧ Below S w wx) (fun _ x21 _ => O.length - (intOf x21).toNat)
      case atStart => exact ⟨0, by omega, rfl, by simpa [borders] using HROW1.out, HR1.out, HB1.out⟩
      case round =>
        obtain ⟨k, hk, rfl, hrow, hR, hB⟩ := hrel
        have hszr2 : S ≤ wr.heap.size := Nat.le_trans hsz hB.size
        by_cases hkl : k < O.length
        · have q1 : decide ((k : Int) < (O.length : Int)) = true := decide_eq_true (by omega)
          have q1' : decide (k < O.length) = true := decide_eq_true hkl
          have q2 : (0 : Int) ≤ (k : Int) := by omega
          have q3 : (k : Int) < (O.length : Int) := by omega
          obtain ⟨y, hy⟩ : ∃ y, O[k]? = some y := ⟨O[k], List.getElem?_eq_getElem hkl⟩
          obtain ⟨g1, d1, e1, _, _, _, _, _, gc⟩ := hR.at (by omega)
          cases e1
          obtain ⟨r0, r1⟩ := gc k y hy
          have hyc := canon_all HI1.out.1 (Int.le_refl _) y (List.mem_of_getElem? hy)
          have hy3 := hyc.2.2
          unfold most at hy3
          have w1' : IntKind.i32.wrap (y.2 + 1) = y.2 + 1 := IntWalk.i32_in _ (by omega)
          obtain ⟨B0, hB0⟩ : ∃ B0, Os.flatMap borders ++ borders (O.take k) = B0 := ⟨_, rfl⟩
          have hB0l : B0.length ≤ 200 * 1001 := by
            rw [← hB0, List.length_append, borders_len, List.length_take]
            have := HFL.out
            have := HOl.out
            omega
          have HN := Lib.hid (show Os.flatMap borders ++ borders (O.take (k + 1)) = B0 ++ [(y.1, 1), (y.2 + 1, -1)] by
            rw [List.take_add_one, hy]
            simp only [Option.toList_some]
            rw [borders_snoc, ← List.append_assoc, hB0])
          rw [hB0] at hrow
          obtain ⟨A3, cp3, rfl⟩ := hrow.form
          have hap : ∀ q, (Value.slice (some ⟨g1, 0, none⟩) O.length cp1).ownBlock = some q → some q ≠ (Value.slice A3 B0.length cp3).ownBlock := fun q hq => own_apart hR hrow (by decide) hq
          have HAP := Lib.hid hap
          have HROW2 := Lib.hid (show wr.ownsRow S 91 2 (.slice A3 B0.length cp3) B0.length (bcells B0) from hrow)
          have HR2 := Lib.hid hR
          have HB2 := Lib.hid hB
          clear hrow hR hB hy gc hB0 hap
          go_wp2_with (at_builtin; refine wpList_append_lies _ (by rfl) _ _ 89 (by rfl) S 91 i0 _ 2 16 Tryd.underlying89 hi hz0 hz1 hz2 rfl (by decide) (.slice A3 B0.length cp3) B0.length (bcells B0) (by rfl) ((HROW2.out.alloc _).alloc _) ⟨wr.heap.size + 1, 0, none⟩ 2 2 [.int .i32 y.1, .int .i64 1, .int .i32 (y.2 + 1), .int .i64 (-1)] (by rfl) (by rfl) ?c1 ?c2 (by omega) (by unfold maxLen; omega) (by omega) (by simp; omega) (wr.heap.size + 1 + 1) (by simp) ?_)
          case c1 =>
            have hn := heap_alloc_new (wr.alloc (.cells #[.int .i32 y.1, .int .i32 y.2] 44)) (.cells #[.int .i32 y.1, .int .i64 1, .int .i32 (y.2 + 1), .int .i64 (-1)] 91)
            have hs : (wr.alloc (.cells #[.int .i32 y.1, .int .i32 y.2] 44)).heap.size = wr.heap.size + 1 := by simp
            rw [hs] at hn
            exact World.news_of_block hn
          case c2 => intro u hu; simp at hu; rcases hu with rfl | rfl | rfl | rfl <;> rfl
          intro gg c5 w5 hown5 hgrow hat hlt5
          have hB5 : Below S w w5 := ((HB2.out.alloc hszr2 _).alloc (by simp; omega) _).grown hgrow (by simp; omega) fun q hq => (own_block HROW2.out hq).1
          have hR5 : Rowed w5 S (.slice (some ⟨g1, 0, none⟩) O.length cp1) O := own_agree HR2.out fun q hq => by
            have hql := (own_block HR2.out hq).2.1
            rw [hgrow.block q (by simp; omega) (HAP.out q hq), Below.heap_alloc _ _ _ (by simp; omega), Below.heap_alloc _ _ _ hql]
          have HB5 := Lib.hid hB5
          have HR5 := Lib.hid hR5
          have HW5 := Lib.hid hown5
          clear hown5 hgrow hat hlt5 hB5 hR5
          go_wp2_with fail
          go_roundw
          case rel =>
            refine ⟨k + 1, by omega, by go_num, ?_, HR5.out, HB5.out⟩
            rw [HN.out]
            unfold BRow
            rw [bcells_append, List.length_append]
            exact HW5.out
          case measure => simp [intOf]; omega
        · have q1 : decide ((k : Int) < (O.length : Int)) = false := decide_eq_false (by omega)
          have q1' : decide (k < O.length) = false := decide_eq_false hkl
          rw [List.take_of_length_le (by omega)] at hrow
          have HROW2 := Lib.hid hrow
          have HB2 := Lib.hid hB
          clear hrow hR hB
          go_wp2_with fail
          go_roundw
          case rel =>
            refine ⟨i + 1, by omega, by go_num, Os ++ [O], by rw [List.length_append, HOl.out]; rfl, ?_, by simpa using HROW2.out, HB2.out⟩
            intro j O' hj
            rcases Nat.lt_or_ge j Os.length with hjl | hjl
            · rw [List.getElem?_append_left hjl] at hj
              exact HOs.out j O' hj
            · rw [List.getElem?_append_right hjl] at hj
              obtain ⟨rfl, hj2⟩ : O = O' ∧ j = i := by
                have := HOl.out
                rcases Nat.eq_zero_or_pos (j - Os.length) with h0 | h0
                · rw [h0] at hj
                  simp at hj
                  exact ⟨hj, by omega⟩
                · rw [List.getElem?_eq_none (by simp; omega)] at hj
                  cases hj
              subst hj2
              exact ⟨_, HX.out, HI1.out, hOl1⟩
          case measure => simp [intOf]; omega
    · have p1 : decide ((i : Int) < (L.length : Int)) = false := decide_eq_false (by omega)
      have p1' : decide (i < L.length) = false := decide_eq_false hlt
      obtain rfl : i = L.length := by omega
      have hfl := flat_len hOs
      have HSO := Lib.hid (sort_brow hrow (by omega))
      have HB := Lib.hid hB
      have HOs := Lib.hid hOs
      have HOl := Lib.hid hOl
      clear hrow hB hOs hOl hfl
      go_wp2_with fail
      refine HSO.out.mono ?_
      rintro e w1 ⟨rfl, Q, hp, hris, hrow, hB1⟩
      have hcan : ∀ O ∈ Os, Canon 0 O := fun O hO => by
        obtain ⟨j, hj⟩ := List.mem_iff_getElem?.1 hO
        obtain ⟨x, _, h2, _⟩ := HOs.out j O hj
        exact h2.1
      have hmem : ∀ y ∈ Q, ∃ O ∈ Os, y ∈ borders O := fun y hy => List.mem_flatMap.1 (hp.mem_iff.1 hy)
      have HPP := Lib.hid (parts_of hcan hp (hris.rise fun y hy => by
        obtain ⟨O, h1, h2⟩ := hmem y hy
        exact (border_in (hcan O h1) h2).1))
      have hQl2 : Q.length ≤ 200 * L.length := by
        have h1 := hp.length_eq
        have h2 := flat_len HOs.out
        have h3 := HOl.out
        omega
      have hQl : Q.length ≤ 200000 := by omega
      have HQL2 := Lib.hid hQl2
      clear hQl2
      have HIN := Lib.hid (show ∀ y ∈ Q, (0 ≤ y.1 ∧ y.1 ≤ 1114112) ∧ (y.2 = 1 ∨ y.2 = -1) from fun y hy => by
        obtain ⟨O, h1, h2⟩ := hmem y hy
        have h3 := border_in (hcan O h1) h2
        unfold most at h3
        exact ⟨⟨h3.1, by omega⟩, borders_by h2⟩)
      have HB1 := Lib.hid (HB.out.trans hB1)
      obtain ⟨A3, cp3, rfl⟩ := hrow.form
      have HROW := Lib.hid hrow
      clear hp hris hrow hB1 hcan hmem HSO HB
      go_wp2_with fail
      go_loopw [8, 9, 41] (fun x8 x9 x41 wx => ∃ i : Nat, i ≤ Q.length ∧ x41 = .int .i64 (i : Int) ∧ x9 = .int .i64 (tot (Q.take i)) ∧ Rowed wx S x8 (partsOf (Q.take i)) ∧ BRow wx S (.slice A3 Q.length cp3) Q ∧ Below S w wx) (fun _ _ x41 _ => Q.length - (intOf x41).toNat)
      case atStart => exact ⟨0, by omega, rfl, rfl, ⟨rfl, .inl ⟨rfl, rfl⟩⟩, HROW.out, HB1.out⟩
      case round =>
        obtain ⟨i, hiq, rfl, rfl, hrow, hbr, hB⟩ := hrel
        have hszr2 : S ≤ wr.heap.size := Nat.le_trans hsz hB.size
        by_cases hil : i < Q.length
        · have q1 : decide ((i : Int) < (Q.length : Int)) = true := decide_eq_true (by omega)
          have q1' : decide (i < Q.length) = true := decide_eq_true hil
          have q2 : (0 : Int) ≤ (i : Int) := by omega
          have q3 : (i : Int) < (Q.length : Int) := by omega
          obtain ⟨x, hx⟩ : ∃ x, Q[i]? = some x := ⟨Q[i], List.getElem?_eq_getElem hil⟩
          obtain ⟨g3, e3, e4, _, g3l, gc⟩ := hbr.at (by omega)
          cases e4
          obtain ⟨r0, r1⟩ := gc i x hx
          obtain ⟨⟨hx0, hx1⟩, hx2⟩ := HIN.out x (List.mem_of_getElem? hx)
          have htb := tot_bound (Q := Q.take i) fun y hy => (HIN.out y (List.mem_of_mem_take hy)).2
          have htl : (Q.take i).length ≤ 200000 := by rw [List.length_take]; omega
          have HTN := Lib.hid (tot_next hx)
          have HPN := Lib.hid (parts_next hx)
          have hpl := partsOf_len (Q.take i)
          obtain ⟨T, hT⟩ : ∃ T, tot (Q.take i) = T := ⟨_, rfl⟩
          obtain ⟨P0, hP0⟩ : ∃ P0, partsOf (Q.take i) = P0 := ⟨_, rfl⟩
          rw [hT] at htb HTN ⊢
          rw [hP0] at hrow hpl HPN
          have HTT := Lib.hid hT
          have HGC := Lib.hid gc
          have HBR := Lib.hid hbr
          have HROW2 := Lib.hid hrow
          have HB2 := Lib.hid hB
          obtain ⟨A8, cp8, rfl⟩ := hrow.form
          clear hx gc hbr hrow hB hT hP0
          go_upto_region 17 with fail
          have hb4 : Below wr.heap.size wr (wr.alloc (.cells #[.int .i32 x.1, .int .i64 x.2] 91)) := (RowKit.Below.refl _ _).alloc (Nat.le_refl _) _
          have hh4 := heap_alloc_new wr (.cells #[.int .i32 x.1, .int .i64 x.2] 91)
          obtain ⟨X, hX⟩ : ∃ X, wr.heap.size = X := ⟨_, rfl⟩
          rw [hX] at hh4
          simp only [hX]
          generalize wr.alloc (.cells #[.int .i32 x.1, .int .i64 x.2] 91) = w4 at *
          have HB4 := Lib.hid hb4
          have HH4 := Lib.hid hh4
          have hg34 : g3 < w4.heap.size := Nat.lt_of_lt_of_le g3l hb4.size
          have HG4 : Hid (∀ (j : Nat) (y : Bd), Q[j]? = some y → w4.cell? ⟨g3, j * 2, none⟩ = some (.int .i32 y.1)) := Lib.hid fun j y hy => (hb4.cell (p := ⟨g3, j * 2, none⟩) g3l).trans (HGC.out j y hy).1
          have u0 : w4.cell? ⟨X, 0, none⟩ = some (.int .i32 x.1) := by rw [Lib.cell_of_heap hh4]; rfl
          have u1 : w4.cell? ⟨X, 1, none⟩ = some (.int .i64 x.2) := by rw [Lib.cell_of_heap hh4]; rfl
          have hXl : X < w4.heap.size := (Array.getElem?_eq_some_iff.1 hh4).1
          obtain ⟨t, ht⟩ : ∃ t, decide (0 < i ∧ 0 < T ∧ ((Q[i - 1]?).map (·.1)).getD 0 < x.1) = t := ⟨_, rfl⟩
          have HT := Lib.hid ht
          clear hb4 hh4 r0 r1 ht
          go_cut [62] (fun v wx => v = .bool t ∧ Below w4.heap.size w4 wx)
          case first =>
            by_cases h0 : 0 < i
            · have z1 : decide ((0 : Int) < (i : Int)) = true := decide_eq_true (by omega)
              have z1' : decide (0 < i) = true := decide_eq_true h0
              by_cases hT0 : 0 < T
              · have z2 : decide (0 < T) = true := decide_eq_true hT0
                obtain ⟨y, hy⟩ : ∃ y, Q[i - 1]? = some y := ⟨Q[i - 1], List.getElem?_eq_getElem (by omega)⟩
                obtain ⟨k, hk⟩ : ∃ k, i - 1 = k := ⟨_, rfl⟩
                rw [hk] at hy
                have z3 : IntKind.i64.wrap ((i : Int) - 1) = (k : Int) := by rw [IntWalk.i64_in _ (by omega)]; omega
                have z4 : (0 : Int) ≤ (k : Int) := by omega
                have z5 : (k : Int) < (Q.length : Int) := by omega
                have u2 := HG4.out k y hy
                by_cases hyx : y.1 < x.1
                · have z6 : decide (y.1 < x.1) = true := decide_eq_true hyx
                  have HTE : Hid (t = true) := Lib.hid (by rw [← HT.out, hk, hy]; exact decide_eq_true ⟨h0, hT0, hyx⟩)
                  clear hy hk
                  go_wp2_with fail
                  go_quiet (fail)
                  go_wp2
                  go_meet
                  exact ⟨by rw [HTE.out], below_drewN (RowKit.Below.refl _ _) _⟩
                · have z6 : decide (y.1 < x.1) = false := decide_eq_false hyx
                  have HTE : Hid (t = false) := Lib.hid (by rw [← HT.out, hk, hy]; exact decide_eq_false (fun h => hyx h.2.2))
                  clear hy hk
                  go_wp2_with fail
                  go_quiet (fail)
                  go_wp2
                  go_meet
                  exact ⟨by rw [HTE.out], below_drewN (RowKit.Below.refl _ _) _⟩
              · have z2 : decide (0 < T) = false := decide_eq_false hT0
                have HTE : Hid (t = false) := Lib.hid (by rw [← HT.out]; exact decide_eq_false (fun h => hT0 h.2.1))
                go_wp2_with fail
                go_quiet (fail)
                go_wp2
                go_meet
                exact ⟨by rw [HTE.out], below_drewN (RowKit.Below.refl _ _) _⟩
            · have z1 : decide ((0 : Int) < (i : Int)) = false := decide_eq_false (by omega)
              have z1' : decide (0 < i) = false := decide_eq_false h0
              have HTE : Hid (t = false) := Lib.hid (by rw [← HT.out]; exact decide_eq_false (fun h => h0 h.1))
              go_wp2_with fail
              go_quiet (fail)
              go_wp2
              go_meet
              exact ⟨by rw [HTE.out], below_drewN (RowKit.Below.refl _ _) _⟩
          case rest =>
            obtain ⟨rfl, hbc⟩ := hcut
            have u0' := (hbc.cell (p := ⟨X, 0, none⟩) hXl).trans u0
            have u1' := (hbc.cell (p := ⟨X, 1, none⟩) hXl).trans u1
            have hbw : Below wr.heap.size wr wc := HB4.out.trans (hbc.mono HB4.out.size)
            have z7 : IntKind.i64.wrap (T + x.2) = T + x.2 := IntWalk.i64_in _ (by omega)
            cases t with
            | false =>
              have HBW := Lib.hid hbw
              have HPE : Hid (partsOf (Q.take (i + 1)) = P0) := Lib.hid (by
                rw [HPN.out]
                have ht := of_decide_eq_false HT.out
                cases i with
                | zero => simp [nextP]
                | succ k =>
                  simp only [Nat.add_sub_cancel] at ht
                  rw [nextP, HTT.out]
                  rw [if_neg (fun h => ht ⟨by omega, h.1, h.2⟩), List.append_nil])
              clear hbc hbw u0 u1
              go_wp2_with fail
              go_roundw
              case rel => exact ⟨i + 1, by omega, by go_num, by rw [HTN.out], by rw [HPE.out]; exact HROW2.out.stay HBW.out, HBR.out.stay HBW.out, HB2.out.trans (HBW.out.mono hszr2)⟩
              case measure => simp [intOf]; omega
            | true =>
              obtain ⟨h0, hT0, hyx⟩ := of_decide_eq_true HT.out
              obtain ⟨y, hy⟩ : ∃ y, Q[i - 1]? = some y := ⟨Q[i - 1], List.getElem?_eq_getElem (by omega)⟩
              rw [hy] at hyx
              simp only [Option.map_some, Option.getD_some] at hyx
              have HPE : Hid (partsOf (Q.take (i + 1)) = P0 ++ [(y.1, x.1 - 1)]) := Lib.hid (by
                rw [HPN.out]
                cases i with
                | zero => omega
                | succ k =>
                  simp only [Nat.add_sub_cancel] at hy
                  simp only [nextP, hy, Option.map_some, Option.getD_some]
                  rw [HTT.out, if_pos ⟨hT0, hyx⟩])
              obtain ⟨k, hk⟩ : ∃ k, i - 1 = k := ⟨_, rfl⟩
              rw [hk] at hy
              have z3 : IntKind.i64.wrap ((i : Int) - 1) = (k : Int) := by rw [IntWalk.i64_in _ (by omega)]; omega
              have z4 : (0 : Int) ≤ (k : Int) := by omega
              have z5 : (k : Int) < (Q.length : Int) := by omega
              have z8 : IntKind.i32.wrap (x.1 - 1) = x.1 - 1 := IntWalk.i32_in _ (by omega)
              have u2 := (hbc.cell (p := ⟨g3, k * 2, none⟩) hg34).trans (HG4.out k y hy)
              obtain ⟨j0, hj0, jz0, jz1, jz2⟩ := info_parts info44
              have hrw : wc.ownsRow S 44 2 (.slice A8 P0.length cp8) P0.length (rcells P0) := HROW2.out.stay hbw
              have hbr2 : BRow wc S (.slice (some ⟨g3, 0, none⟩) Q.length cp3) Q := HBR.out.stay hbw
              have HAP := Lib.hid (fun q hq => own_apart hbr2 hrw (by decide) (k := q) hq)
              have HRW := Lib.hid hrw
              have HBR2 := Lib.hid hbr2
              have HBW := Lib.hid hbw
              have hXw : X < wc.heap.size := Nat.lt_of_lt_of_le hXl hbc.size
              have hwS : S ≤ wc.heap.size := Nat.le_trans hszr2 hbw.size
              have hP0l : P0.length ≤ 200000 := by omega
              have HX8 := Lib.hid (show some X ≠ (Value.slice A8 P0.length cp8).ownBlock from fun e => by
                obtain ⟨_, _, cur, hc⟩ := own_block hrw e.symm
                have := (hbc.block X hXl).trans HH4.out
                rw [hc] at this
                cases this)
              clear hbc hbw u0 u1 hy hk hrw hbr2 hyx
              go_wp2_with fail
              go_region_law (first
                | (refine step_append_lies _ (by rfl) _ _ _ (by rfl) S 44 j0 _ 2 8 Tryd.underlying22 hj0 jz0 jz1 jz2 rfl (by decide) (.slice A8 P0.length cp8) P0.length (rcells P0) (by rfl) (show World.ownsRow _ S 44 2 (.slice A8 P0.length cp8) P0.length (rcells P0) from (HRW.out.alloc _)) ⟨wc.heap.size, 0, none⟩ 1 1 [.int .i32 y.1, .int .i32 (x.1 - 1)] (by rfl) (by rfl) (World.news_of_block (heap_alloc_new _ _)) (by simp [Value.oneCell']) (by omega) (by unfold maxLen; omega) (by omega) (by simp; omega) (wc.heap.size + 1) (by simp) ?_; intro gg c5 w5 hown5 hgrow hat hlt5))
              all_goals
                have hbd : Below wc.heap.size wc (wc.alloc (.cells #[.int .i32 y.1, .int .i32 (x.1 - 1)] 44)).drew := ((RowKit.Below.refl _ _).alloc (Nat.le_refl _) _).drew
                have u1'' := (hgrow.cell_far ⟨X, 1, none⟩ (by simp; omega) HX8.out).trans ((hbd.cell (p := ⟨X, 1, none⟩) hXw).trans u1')
                have hB5 : Below S w w5 := ((HB2.out.trans (HBW.out.mono hszr2)).trans (hbd.mono hwS)).grown hgrow (by simp; omega) (fun q hq => (own_block HRW.out hq).1)
                have hQ5 : BRow w5 S (.slice (some ⟨g3, 0, none⟩) Q.length cp3) Q := own_agree HBR2.out fun q hq => (hgrow.block q (by have := (own_block HBR2.out hq).2.1; simp; omega) (HAP.out q hq)).trans (hbd.block q (own_block HBR2.out hq).2.1)
                have HB5 := Lib.hid hB5
                have HQ5 := Lib.hid hQ5
                have HW5 := Lib.hid hown5
                clear hown5 hgrow hat hlt5 hbd hB5 hQ5
                go_wp2_with fail
                go_roundw
                case rel =>
                  refine ⟨i + 1, by omega, by go_num, by rw [HTN.out], ?_, HQ5.out, HB5.out⟩
                  rw [HPE.out]
                  unfold Rowed
                  rw [rcells_append, List.length_append]
                  exact HW5.out
                case measure => simp [intOf]; omega
        · have q1 : decide ((i : Int) < (Q.length : Int)) = false := decide_eq_false (by omega)
          have q1' : decide (i < Q.length) = false := decide_eq_false hil
          rw [List.take_of_length_le (by omega)] at hrow
          have HROW2 := Lib.hid hrow
          have HB2 := Lib.hid hB
          clear hrow hbr hB
          go_wp2_with fail
          go_ret
          have := HS.out
          subst this
          exact ⟨_, _, Os, rfl, HROW2.out, HOl.out, HOs.out, HPP.out, Nat.le_trans (partsOf_len Q) HQL2.out, HB2.out⟩

end Go.Proofs.YtfjlhfalnciamaaDoor.Chars
