/- The numbers of both sets (And), and a set less another one, walked. -/
import Derived.Test.YtfjlhfalnciamaaDoorCharsI
import Derived.Deep.RegionHeld3
namespace Go.Proofs.YtfjlhfalnciamaaDoor.Chars
open Go Go.RowKit Go.Proofs.Chars

theorem andGo_step {A B : List Rg} {i j : Nat} {x y : Rg} (hx : A[i]? = some x) (hy : B[j]? = some y) :
    andGo (A.drop i) (B.drop j) = (if max x.1 y.1 ≤ min x.2 y.2 then [(max x.1 y.1, min x.2 y.2)] else []) ++ (if x.2 < y.2 then andGo (A.drop (i + 1)) (B.drop j) else andGo (A.drop i) (B.drop (j + 1))) := by
  have hi : i < A.length := (List.getElem?_eq_some_iff.1 hx).1
  have hj : j < B.length := (List.getElem?_eq_some_iff.1 hy).1
  have ex : A[i] = x := (List.getElem?_eq_some_iff.1 hx).2
  have ey : B[j] = y := (List.getElem?_eq_some_iff.1 hy).2
  have e1 : A.drop i = x :: A.drop (i + 1) := by rw [List.drop_eq_getElem_cons hi, ex]
  have e2 : B.drop j = y :: B.drop (j + 1) := by rw [List.drop_eq_getElem_cons hj, ey]
  rw [e1, e2, andGo, ← e1, ← e2]
theorem andGo_end {A B : List Rg} {i j : Nat} (h : A.length ≤ i ∨ B.length ≤ j) : andGo (A.drop i) (B.drop j) = [] := by
  rcases h with h | h
  · rw [List.drop_of_length_le h, andGo]
  · rw [List.drop_of_length_le h]
    cases A.drop i with
    | nil => rw [andGo]
    | cons _ _ => rw [andGo]

set_option maxRecDepth 100000 in
set_option maxHeartbeats 4000000 in
theorem and_any {w : World} {va vb : Value} {L M : List Rg} (Ha : Rgs w va L) (Hb : Rgs w vb M) (hL : L.length ≤ 50000) (hM : M.length ≤ 50000) :
    Calls Tryd.prog 19 #[va, vb] w fun e w' => ∃ v O, e = .returned v ∧ Rowed w' w.heap.size v O ∧ Canon 0 O ∧ (∀ r, memU O r ↔ memU L r ∧ memU M r) ∧ O.length ≤ L.length + M.length ∧ Below w.heap.size w w' := by
  obtain ⟨i0, hi, hz0, hz1, hz2⟩ := info_parts info44
  have HO := Lib.hid (of_any Ha (by omega))
  have HHB := Lib.hid Hb
  clear Ha Hb
  go_enter Tryd.func19, Tryd.ntmps19
  go_wp2_with fail
  refine HO.out.mono ?_
  rintro e w0 ⟨v1, A, rfl, hra, hofa, hola, hb0⟩
  have HO := Lib.hid (of_any (HHB.out.stay hb0) (by omega))
  have HRA := Lib.hid hra
  have HOA := Lib.hid hofa
  have HB0 := Lib.hid hb0
  clear hra hofa hb0
  go_wp2_with fail
  refine HO.out.mono ?_
  rintro e w1 ⟨v2, B, rfl, hrb, hofb, holb, hb1⟩
  have hra := HRA.out.stay hb1
  have HB1 := Lib.hid (HB0.out.trans (hb1.mono HB0.out.size))
  obtain ⟨S, hS⟩ : ∃ S, S = w1.heap.size := ⟨_, rfl⟩
  have hs1 : w.heap.size ≤ S := by rw [hS]; exact HB1.out.size
  have hsz : S ≤ w1.heap.size := by omega
  have hlena := fun wx => Rgs.len (hra.rgs (canon_in32 HOA.out.1 (Int.le_refl _))) 3 wx
  have hlenb := fun wx => Rgs.len (hrb.rgs (canon_in32 hofb.1 (Int.le_refl _))) 3 wx
  have HLA := Lib.hid hlena
  have HLB := Lib.hid hlenb
  have HS := Lib.hid hS
  have HRA := Lib.hid hra
  have HRB := Lib.hid hrb
  have HOB := Lib.hid hofb
  clear hra hrb hofb hb1 hS HO hlena hlenb HHB HB0
  go_wp2_with fail
  go_loopw [7, 8, 9, 10] (fun v i j x wx => ∃ (a b : Nat) (out : List Rg), a ≤ A.length ∧ b ≤ B.length ∧ i = .int .i64 (a : Int) ∧ j = .int .i64 (b : Int) ∧ out.length ≤ a + b ∧ out ++ andGo (A.drop a) (B.drop b) = andGo A B ∧ Rowed wx S v out ∧ Below S w1 wx) (fun _ i j _ _ => (A.length - (intOf i).toNat) + (B.length - (intOf j).toNat))
  case atStart => exact ⟨0, 0, [], Nat.zero_le _, Nat.zero_le _, rfl, rfl, by simp, by simp, ⟨rfl, .inl ⟨rfl, rfl⟩⟩, Below.refl _ _⟩
  case round =>
    obtain ⟨a, b, out, hka, hkb, rfl, rfl, hol, hgo, hrow, hB⟩ := hrel
    have HW := Lib.hid hrow
    have HB := Lib.hid hB
    have HG := Lib.hid hgo
    have hszr : S ≤ wr.heap.size := Nat.le_trans hsz hB.size
    have hlena := HLA.out wr
    have hlenb := HLB.out wr
    by_cases hlt : a < A.length ∧ b < B.length
    · obtain ⟨hla, hlb⟩ := hlt
      obtain ⟨g, cap, rfl, h31, h32, h33, h34, h35, hcell⟩ := HRA.out.at (by omega)
      obtain ⟨g', cap', rfl, h41, h42, h43, h44, h45, hcell'⟩ := HRB.out.at (by omega)
      obtain ⟨x, hx⟩ : ∃ x, A[a]? = some x := ⟨A[a], List.getElem?_eq_getElem hla⟩
      obtain ⟨y, hy⟩ : ∃ y, B[b]? = some y := ⟨B[b], List.getElem?_eq_getElem hlb⟩
      have hgS : g < S := by rw [HS.out]; exact h33
      have hgS' : g' < S := by rw [HS.out]; exact h43
      have e0 := (hB.cell (p := ⟨g, a * 2, none⟩) hgS).trans (hcell a x hx).1
      have e1 := (hB.cell (p := ⟨g, a * 2 + 1, none⟩) hgS).trans (hcell a x hx).2
      have e2 := (hB.cell (p := ⟨g', b * 2, none⟩) hgS').trans (hcell' b y hy).1
      have e3 := (hB.cell (p := ⟨g', b * 2 + 1, none⟩) hgS').trans (hcell' b y hy).2
      have HST := Lib.hid (andGo_step hx hy)
      have hown' := Lib.hid (show wr.ownsRow S 44 2 u7 out.length (rcells out) from HW.out)
      clear hx hy hcell hcell' hrow hB h35 h45 hgo
      go_upto_region 5 with fail
      go_cut [10] (fun p wx => p = .pointer (some ⟨wr.heap.size, 0, none⟩) ∧ wx = (wr.alloc (.cells #[.int .i32 (max x.1 y.1), .int .i32 (min x.2 y.2)] 44)).drew)
      case first =>
        go_region_held3 (fun w' => w'.cell? ⟨g, a * 2, none⟩ = some (.int .i32 x.1) ∧ w'.cell? ⟨g, a * 2 + 1, none⟩ = some (.int .i32 x.2) ∧ w'.cell? ⟨g', b * 2, none⟩ = some (.int .i32 y.1) ∧ w'.cell? ⟨g', b * 2 + 1, none⟩ = some (.int .i32 y.2)) (go_keep) (fail)
        all_goals (go_wp2_with fail; go_meet; exact ⟨rfl, rfl⟩)
      case rest =>
        obtain ⟨rfl, rfl⟩ := hcut
        have hb0 : Below wr.heap.size wr (wr.alloc (.cells #[.int .i32 (max x.1 y.1), .int .i32 (min x.2 y.2)] 44)).drew := ((RowKit.Below.refl _ wr).alloc (Nat.le_refl _) _).drew
        by_cases hmm : max x.1 y.1 ≤ min x.2 y.2
        · have hmm' : decide (max x.1 y.1 ≤ min x.2 y.2) = true := decide_eq_true hmm
          have HST2 := HST.out
          rw [if_pos hmm] at HST2
          have HST := Lib.hid HST2
          clear HST2
          go_wp2_with (at_builtin; refine wpList_append_own _ rfl _ _ 23 rfl S 44 i0 (.agg #[.int .i32 0, .int .i32 0]) 2 8 Tryd.underlying23 hi hz0 hz1 hz2 rfl (by decide) _ _ _ rfl (World.ownsRow.alloc (w := (wr.alloc _).drew) (hown'.out.alloc _) _) ⟨wr.heap.size + 1, 0, none⟩ 1 1 [.int .i32 (max x.1 y.1), .int .i32 (min x.2 y.2)] rfl rfl ?c1 ?c2 ?c3 ?c4 ?c5 ?_)
          case c1 => exact news2 _ _ 1 #[_, _] _
          case c2 => intro u hu; simp at hu; rcases hu with rfl | rfl <;> rfl
          case c3 => unfold maxLen; omega
          case c4 => omega
          case c5 => simp; omega
          intro v' w2 hown2 hgrow _
          have HR2 : Hid (Rowed w2 S v' (out ++ [(max x.1 y.1, min x.2 y.2)])) := by
            unfold Rowed
            rw [rcells_append, List.length_append]
            exact Lib.hid hown2
          have hbY : Below wr.heap.size wr ((wr.alloc (.cells #[.int .i32 (max x.1 y.1), .int .i32 (min x.2 y.2)] 44)).alloc (.cells #[.int .i32 (max x.1 y.1), .int .i32 (min x.2 y.2)] 44)).drew := (((RowKit.Below.refl _ wr).alloc (Nat.le_refl _) _).alloc (by simp) _).drew
          have hne : ∀ q, q < S → some q ≠ u7.ownBlock := fun q hq e => by have := (hown'.out.lt q e.symm).1; omega
          have e1' := (hgrow.cell_far ⟨g, a * 2 + 1, none⟩ (by simp; omega) (hne g hgS)).trans ((hbY.cell (p := ⟨g, a * 2 + 1, none⟩) (by show g < _; omega)).trans e1)
          have e3' := (hgrow.cell_far ⟨g', b * 2 + 1, none⟩ (by simp; omega) (hne g' hgS')).trans ((hbY.cell (p := ⟨g', b * 2 + 1, none⟩) (by show g' < _; omega)).trans e3)
          have HB2 : Hid (Below S w1 w2) := (HB.out.trans (hbY.mono hszr)).grown hgrow (by simp; omega) fun k hk => (hown'.out.lt k hk).1
          have hol2 : (out ++ [(max x.1 y.1, min x.2 y.2)]).length ≤ a + b + 1 := by simp; omega
          have HN2 := Lib.hid (fun n => (show Rowed (w2.drewN n) S v' (out ++ [(max x.1 y.1, min x.2 y.2)]) from HR2.out.of_heap rfl))
          have HB3 := Lib.hid (fun n => below_drewN HB2.out n)
          clear hown2 hgrow hown' hb0 hbY hne e0 e1 e2 e3 HB2 HB
          by_cases hlt : x.2 < y.2
          · have hlt' : decide (x.2 < y.2) = true := decide_eq_true hlt
            have HG2 : Hid ((out ++ [(max x.1 y.1, min x.2 y.2)]) ++ andGo (A.drop (a + 1)) (B.drop b) = andGo A B) := by
              have h1 := HG.out
              rw [HST.out, if_pos hlt, ← List.append_assoc] at h1
              exact Lib.hid h1
            go_wp2_with fail
            go_quiet (fail)
            go_wp2
            go_roundw
            case rel => exact ⟨a + 1, b, _, by omega, by omega, by go_num, rfl, by omega, HG2.out, HN2.out _, HB3.out _⟩
            case measure => simp [intOf]; omega
          · have hlt' : decide (x.2 < y.2) = false := decide_eq_false hlt
            have HG2 : Hid ((out ++ [(max x.1 y.1, min x.2 y.2)]) ++ andGo (A.drop a) (B.drop (b + 1)) = andGo A B) := by
              have h1 := HG.out
              rw [HST.out, if_neg hlt, ← List.append_assoc] at h1
              exact Lib.hid h1
            go_wp2_with fail
            go_quiet (fail)
            go_wp2
            go_roundw
            case rel => exact ⟨a, b + 1, _, by omega, by omega, rfl, by go_num, by omega, HG2.out, HN2.out _, HB3.out _⟩
            case measure => simp [intOf]; omega
        · have hmm' : decide (max x.1 y.1 ≤ min x.2 y.2) = false := decide_eq_false hmm
          have HST2 := HST.out
          rw [if_neg hmm] at HST2
          have HST := Lib.hid HST2
          have hgw : g < wr.heap.size := by omega
          have hgw' : g' < wr.heap.size := by omega
          have HN2 := Lib.hid (fun n => (show Rowed ((wr.alloc (.cells #[.int .i32 (max x.1 y.1), .int .i32 (min x.2 y.2)] 44)).drewN n) S u7 out from (HW.out.stay hb0).of_heap rfl))
          have HB3 := Lib.hid (fun n => below_drewN (HB.out.trans ((((RowKit.Below.refl _ wr).alloc (Nat.le_refl _) (.cells #[.int .i32 (max x.1 y.1), .int .i32 (min x.2 y.2)] 44))).mono hszr)) n)
          have hol2 : out.length ≤ a + b + 1 := by omega
          clear HST2 hown' hb0 e0 e2 HB
          by_cases hlt : x.2 < y.2
          · have hlt' : decide (x.2 < y.2) = true := decide_eq_true hlt
            have HG2 : Hid (out ++ andGo (A.drop (a + 1)) (B.drop b) = andGo A B) := by
              have h1 := HG.out
              rw [HST.out, if_pos hlt, List.nil_append] at h1
              exact Lib.hid h1
            go_wp2_with fail
            go_quiet (fail)
            go_wp2
            go_roundw
            case rel => exact ⟨a + 1, b, _, by omega, by omega, by go_num, rfl, by omega, HG2.out, HN2.out _, HB3.out _⟩
            case measure => simp [intOf]; omega
          · have hlt' : decide (x.2 < y.2) = false := decide_eq_false hlt
            have HG2 : Hid (out ++ andGo (A.drop a) (B.drop (b + 1)) = andGo A B) := by
              have h1 := HG.out
              rw [HST.out, if_neg hlt, List.nil_append] at h1
              exact Lib.hid h1
            go_wp2_with fail
            go_quiet (fail)
            go_wp2
            go_roundw
            case rel => exact ⟨a, b + 1, _, by omega, by omega, rfl, by go_num, by omega, HG2.out, HN2.out _, HB3.out _⟩
            case measure => simp [intOf]; omega
    · have hend : A.length ≤ a ∨ B.length ≤ b := by omega
      have hres : out = andGo A B := by have h1 := hgo; rw [andGo_end hend, List.append_nil] at h1; exact h1
      obtain ⟨hcan, hmem⟩ := and_is HOA.out HOB.out
      rw [← hres] at hcan hmem
      have hll : out.length ≤ L.length + M.length := by omega
      have HC := Lib.hid hcan
      have HM := Lib.hid hmem
      have HB2 : Hid (Below w.heap.size w wr) := HB1.out.trans (HB.out.mono hs1)
      clear hres hcan hmem hgo hrow hB
      by_cases hla : a < A.length
      · have d1 : (a : Int) < A.length := by omega
        have d2 : ¬ (b : Int) < B.length := by omega
        have d3 : decide ((a : Int) < A.length) = true := decide_eq_true d1
        have d4 : decide ((b : Int) < B.length) = false := decide_eq_false d2
        go_wp2
        go_ret
        first | exact ⟨_, _, rfl, HW.out.low hs1, HC.out, HM.out, hll, HB2.out⟩ | exact ⟨_, rfl, _, HW.out.low hs1, HC.out, HM.out, hll, HB2.out⟩
      · have d1 : ¬ (a : Int) < A.length := by omega
        have d3 : decide ((a : Int) < A.length) = false := decide_eq_false d1
        go_wp2
        go_ret
        first | exact ⟨_, _, rfl, HW.out.low hs1, HC.out, HM.out, hll, HB2.out⟩ | exact ⟨_, rfl, _, HW.out.low hs1, HC.out, HM.out, hll, HB2.out⟩

set_option maxRecDepth 100000 in
theorem less_any {w : World} {va vb : Value} {L M : List Rg} (Ha : Rgs w va L) (Hb : Rgs w vb M) (hL : L.length ≤ 40000) (hM : M.length ≤ 40000) :
    Calls Tryd.prog 20 #[va, vb] w fun e w' => ∃ v O, e = .returned v ∧ Rowed w' w.heap.size v O ∧ Canon 0 O ∧ (∀ r, memU O r ↔ memU L r ∧ ¬ memU M r) ∧ O.length ≤ L.length + M.length + 1 ∧ Below w.heap.size w w' := by
  have HN := Lib.hid (not_any Hb (by omega))
  have HA := Lib.hid Ha
  clear Ha Hb
  go_enter Tryd.func20, Tryd.ntmps20
  go_wp2_with fail
  refine HN.out.mono ?_
  rintro e w1 ⟨v1, O, rfl, hr, hc, hm, hl, hb⟩
  have HD := Lib.hid (and_any (HA.out.stay hb) (hr.rgs (canon_in32 hc (Int.le_refl _))) (by omega) (by omega))
  have HM := Lib.hid hm
  have HB := Lib.hid hb
  have hsz := hb.size
  clear hr hc hm hb HN
  go_wp2_with fail
  refine HD.out.mono ?_
  rintro e w2 ⟨v2, Q, rfl, hr2, hc2, hm2, hl2, hb2⟩
  have hm3 : ∀ r, memU Q r ↔ memU L r ∧ ¬ memU M r := fun r => by
    rw [hm2, HM.out]
    constructor
    · rintro ⟨h1, h2⟩; exact ⟨h1, h2.2.2⟩
    · rintro ⟨h1, h2⟩; exact ⟨h1, h1.1, h1.2.1, h2⟩
  have HR := Lib.hid (hr2.low hsz)
  have HC := Lib.hid hc2
  have HM3 := Lib.hid hm3
  have hll : Q.length ≤ L.length + M.length + 1 := by omega
  have HB2 : Hid (Below w.heap.size w w2) := HB.out.trans (hb2.mono hsz)
  clear hr2 hc2 hm2 hm3 hb2 HD HM
  go_wp2
  go_ret
  exact ⟨_, _, rfl, HR.out, HC.out, HM3.out, hll, HB2.out⟩

end Go.Proofs.YtfjlhfalnciamaaDoor.Chars
