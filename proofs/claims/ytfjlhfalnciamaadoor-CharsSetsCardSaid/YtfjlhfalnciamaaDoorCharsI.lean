/- The numbers that a set has not (Not), walked. -/
import Derived.Test.YtfjlhfalnciamaaDoorCharsH
namespace Go.Proofs.YtfjlhfalnciamaaDoor.Chars
open Go Go.RowKit Go.Proofs.Chars

def notStep (s : Int × List Rg) (x : Rg) : Int × List Rg := (x.2 + 1, s.2 ++ if s.1 < x.1 then [(s.1, x.1 - 1)] else [])
theorem notStep_go : ∀ (l : List Rg) (n : Int) (out : List Rg), (l.foldl notStep (n, out)).2 ++ (if (l.foldl notStep (n, out)).1 ≤ most then [((l.foldl notStep (n, out)).1, most)] else []) = out ++ notGo n l
  | [], n, out => by simp only [List.foldl_nil, notGo]; rfl
  | x :: l, n, out => by
    have := notStep_go l (x.2 + 1) (out ++ if n < x.1 then [(n, x.1 - 1)] else [])
    simp only [List.foldl_cons, notStep]
    rw [this, notGo, List.append_assoc]
def notAt (O : List Rg) (k : Nat) : Int × List Rg := (O.take k).foldl notStep (0, [])
theorem notAt_succ {O : List Rg} {k : Nat} {x : Rg} (h : O[k]? = some x) : notAt O (k + 1) = notStep (notAt O k) x := by
  have hk : k < O.length := (List.getElem?_eq_some_iff.1 h).1
  have hx : O[k] = x := (List.getElem?_eq_some_iff.1 h).2
  unfold notAt
  rw [List.take_succ_eq_append_getElem hk, List.foldl_append, hx]; rfl
theorem canon_all : ∀ {L : List Rg} {b : Int}, Canon b L → 0 ≤ b → ∀ x ∈ L, 0 ≤ x.1 ∧ x.1 ≤ x.2 ∧ x.2 ≤ most
  | [], _, _, _, x, h => by cases h
  | y :: l, b, hc, hb, x, h => by
    have h1 := hc.1
    have h2 := hc.2.1
    have h3 := hc.2.2.1
    rcases List.mem_cons.1 h with rfl | h
    · exact ⟨by omega, by omega, by omega⟩
    · exact canon_all hc.2.2.2 (by omega) x h
theorem notAt_ok {O : List Rg} (hc : Canon 0 O) : ∀ k, k ≤ O.length → (0 ≤ (notAt O k).1 ∧ (notAt O k).1 ≤ most + 1) ∧ (notAt O k).2.length ≤ k
  | 0, _ => by simp [notAt, most]
  | k + 1, h => by
    obtain ⟨x, hx⟩ : ∃ x, O[k]? = some x := ⟨O[k], List.getElem?_eq_getElem (by omega)⟩
    have ih := notAt_ok hc k (by omega)
    have hb := canon_all hc (Int.le_refl _) x (List.mem_of_getElem? hx)
    rw [notAt_succ hx]
    unfold notStep
    refine ⟨⟨?_, ?_⟩, ?_⟩
    · show 0 ≤ x.2 + 1; omega
    · show x.2 + 1 ≤ most + 1; omega
    · simp only [List.length_append]
      split <;> simp <;> omega

theorem news1 (w : World) (cs : Array Value) (t : TypeId) : ∀ j u, cs.toList[j]? = some u → (w.alloc (.cells cs t)).cell? ((⟨w.heap.size, 0, none⟩ : Addr).add j) = some u :=
  World.news_of_block (t := t) (fr := (0, 0)) (heap_alloc_new w (.cells cs t))

set_option maxRecDepth 100000 in
theorem not_any {w : World} {va : Value} {L : List Rg} (H : Rgs w va L) (hL : L.length ≤ 50000) :
    Calls Tryd.prog 21 #[va] w fun e w' => ∃ v O, e = .returned v ∧ Rowed w' w.heap.size v O ∧ Canon 0 O ∧ (∀ r, memU O r ↔ 0 ≤ r ∧ r ≤ most ∧ ¬ memU L r) ∧ O.length ≤ L.length + 1 ∧ Below w.heap.size w w' := by
  obtain ⟨i0, hi, hz0, hz1, hz2⟩ := info_parts info44
  have HO := Lib.hid (of_any H (by omega))
  clear H
  go_enter Tryd.func21, Tryd.ntmps21
  go_wp2_with fail
  refine HO.out.mono ?_
  rintro e w1 ⟨vo, O, rfl, hro, hof, hol, hb1⟩
  obtain ⟨S, hS⟩ : ∃ S, S = w1.heap.size := ⟨_, rfl⟩
  have hs1 : w.heap.size ≤ S := by rw [hS]; exact hb1.size
  have hsz : S ≤ w1.heap.size := by omega
  have hlen := fun wx => Rgs.len (hro.rgs (canon_in32 hof.1 (Int.le_refl _))) 3 wx
  have HLEN := Lib.hid (hlen w1)
  have hlen1 := hlen w1
  have HS := Lib.hid hS
  have HRO := Lib.hid hro
  have HOF := Lib.hid hof
  have HB1 := Lib.hid hb1
  clear hro hof hb1 hS HO hlen
  go_wp2_with fail
  go_loopw [3, 4, 6, 10] (fun v n x i wx => ∃ k : Nat, k ≤ O.length ∧ i = .int .i64 (k : Int) ∧ n = .int .i32 (notAt O k).1 ∧ Rowed wx S v (notAt O k).2 ∧ Below S w1 wx) (fun _ _ _ i _ => O.length - (intOf i).toNat)
  case atStart => exact ⟨0, Nat.zero_le _, rfl, rfl, ⟨rfl, .inl ⟨rfl, rfl⟩⟩, Below.refl _ _⟩
  case round =>
    obtain ⟨k, hk, rfl, rfl, hrow, hB⟩ := hrel
    have HW := Lib.hid hrow
    have HB := Lib.hid hB
    have hszr : S ≤ wr.heap.size := Nat.le_trans hsz hB.size
    obtain ⟨⟨hn0, hn1⟩, hnl⟩ := notAt_ok HOF.out.1 k hk
    unfold most at hn1
    by_cases hlt : k < O.length
    · obtain ⟨g, cap, rfl, h31, h32, h33, h34, h35, hcell⟩ := HRO.out.at (by omega)
      obtain ⟨x, hx⟩ : ∃ x, O[k]? = some x := ⟨O[k], List.getElem?_eq_getElem hlt⟩
      obtain ⟨c0, c1⟩ := hcell k x hx
      have hgS : g < S := by rw [HS.out]; exact h33
      have e0 := (hB.cell (p := ⟨g, k * 2, none⟩) hgS).trans c0
      have e1 := (hB.cell (p := ⟨g, k * 2 + 1, none⟩) hgS).trans c1
      have hxv := canon_all HOF.out.1 (Int.le_refl _) x (List.mem_of_getElem? hx)
      have hx1 := hxv.1
      have hx2 := hxv.2.1
      have hx3 := hxv.2.2
      unfold most at hx3
      have HST := Lib.hid (notAt_succ hx)
      obtain ⟨st, hst⟩ : ∃ st, notAt O k = st := ⟨_, rfl⟩
      rw [hst] at HST HW hn0 hn1 hnl ⊢
      have hown' := Lib.hid (show wr.ownsRow S 44 2 u3 st.2.length (rcells st.2) from HW.out)
      have ws1 : IntKind.i32.wrap (x.1 - 1) = x.1 - 1 := IntWalk.i32_in _ (by omega)
      have ws2 : IntKind.i32.wrap (x.2 + 1) = x.2 + 1 := IntWalk.i32_in _ (by omega)
      clear hx hcell c0 c1 hrow hB h35 hxv hst
      by_cases hc : st.1 < x.1
      · have hc' : decide (st.1 < x.1) = true := decide_eq_true hc
        go_wp2_with (at_builtin; refine wpList_append_own _ rfl _ _ 23 rfl S 44 i0 (.agg #[.int .i32 0, .int .i32 0]) 2 8 Tryd.underlying23 hi hz0 hz1 hz2 rfl (by decide) _ _ _ rfl ((hown'.out.alloc _).alloc _) ⟨wr.heap.size + 1, 0, none⟩ 1 1 [.int .i32 st.1, .int .i32 (x.1 - 1)] rfl rfl ?c1 ?c2 ?c3 ?c4 ?c5 ?_)
        case c1 => exact news2 _ _ 0 #[_, _] _
        case c2 => intro u hu; simp at hu; rcases hu with rfl | rfl <;> rfl
        case c3 => unfold maxLen; omega
        case c4 => omega
        case c5 => simp; omega
        intro v' w2 hown2 hgrow _
        have HR2 : Hid (notAt O (k + 1) = (x.2 + 1, st.2 ++ [(st.1, x.1 - 1)])) := by
          rw [HST.out]; unfold notStep; rw [if_pos hc]; exact Lib.hid rfl
        have HR3 : Hid (Rowed w2 S v' (st.2 ++ [(st.1, x.1 - 1)])) := by
          unfold Rowed
          rw [rcells_append, List.length_append]
          exact Lib.hid hown2
        have HB2 : Hid (Below S w1 w2) := (((HB.out.alloc hszr _).alloc (by simp; omega) _).grown hgrow (by simp; omega) fun k hk => (hown'.out.lt k hk).1)
        have hcx := (hgrow.cell_far ⟨wr.heap.size, 1, none⟩ (by simp; omega) (fun e => by have := HW.out.block_lt e.symm; simp at this)).trans (show _ = some (.int .i32 x.2) by simp)
        clear hown2 hgrow hown'
        go_wp2
        go_roundw
        case rel => exact ⟨k + 1, by omega, by go_num, by rw [HR2.out], by rw [HR2.out]; exact HR3.out, HB2.out⟩
        case measure => simp [intOf]; omega
      · have hc' : decide (st.1 < x.1) = false := decide_eq_false hc
        have HR2 : Hid (notAt O (k + 1) = (x.2 + 1, st.2)) := by
          rw [HST.out]; unfold notStep; rw [if_neg hc, List.append_nil]; exact Lib.hid rfl
        go_wp2
        go_roundw
        case rel => exact ⟨k + 1, by omega, by go_num, by rw [HR2.out], by rw [HR2.out]; exact HW.out.stay ((RowKit.Below.refl _ _).alloc (Nat.le_refl _) _), HB.out.alloc hszr _⟩
        case measure => simp [intOf]; omega
    · obtain rfl : k = O.length := by omega
      have hgo := notStep_go O 0 []
      have hat : notAt O O.length = O.foldl notStep (0, []) := by unfold notAt; rw [List.take_length]
      rw [← hat, List.nil_append] at hgo
      obtain ⟨hcan, hmem⟩ := not_is HOF.out
      obtain ⟨st, hst⟩ : ∃ st, notAt O O.length = st := ⟨_, rfl⟩
      rw [hst] at hgo HW hn0 hn1 hnl ⊢
      have HG := Lib.hid hgo
      have HCN := Lib.hid hcan
      have HME := Lib.hid hmem
      have hown' := Lib.hid (show wr.ownsRow S 44 2 u3 st.2.length (rcells st.2) from HW.out)
      clear hgo hcan hmem hst hat hrow hB hlt
      by_cases hc : st.1 ≤ 1114111
      · have hc' : decide (st.1 ≤ 1114111) = true := decide_eq_true hc
        go_wp2_with (at_builtin; refine wpList_append_own _ rfl _ _ 23 rfl S 44 i0 (.agg #[.int .i32 0, .int .i32 0]) 2 8 Tryd.underlying23 hi hz0 hz1 hz2 rfl (by decide) _ _ _ rfl (hown'.out.alloc _) ⟨wr.heap.size, 0, none⟩ 1 1 [.int .i32 st.1, .int .i32 1114111] rfl rfl ?d1 ?d2 ?d3 ?d4 ?d5 ?_)
        case d1 => exact news1 _ #[_, _] _
        case d2 => intro u hu; simp at hu; rcases hu with rfl | rfl <;> rfl
        case d3 => unfold maxLen; omega
        case d4 => omega
        case d5 => simp; omega
        intro v' w2 hown2 hgrow _
        have HR2 : Hid (Rowed w2 S v' (notGo 0 O)) := by
          rw [← HG.out, if_pos (show st.1 ≤ most from hc)]
          unfold Rowed
          rw [rcells_append, List.length_append]
          exact Lib.hid hown2
        have hll : (notGo 0 O).length ≤ L.length + 1 := by
          rw [← HG.out, if_pos (show st.1 ≤ most from hc), List.length_append]; simp; omega
        have HB2 : Hid (Below w.heap.size w w2) := HB1.out.trans (((HB.out.alloc hszr _).grown hgrow (by simp; omega) fun k hk => (hown'.out.lt k hk).1).mono hs1)
        clear hown2 hgrow hown'
        go_wp2
        go_ret
        exact ⟨_, _, rfl, HR2.out.low hs1, HCN.out, HME.out, hll, HB2.out⟩
      · have hc' : decide (st.1 ≤ 1114111) = false := decide_eq_false hc
        have HR2 : Hid (Rowed wr S u3 (notGo 0 O)) := by
          rw [← HG.out, if_neg (show ¬ st.1 ≤ most from hc), List.append_nil]
          exact HW
        have hll : (notGo 0 O).length ≤ L.length + 1 := by
          rw [← HG.out, if_neg (show ¬ st.1 ≤ most from hc), List.append_nil]; omega
        have HB2 : Hid (Below w.heap.size w wr) := HB1.out.trans (HB.out.mono hs1)
        go_wp2
        go_ret
        exact ⟨_, rfl, _, HR2.out.low hs1, HCN.out, HME.out, hll, HB2.out⟩

end Go.Proofs.YtfjlhfalnciamaaDoor.Chars
