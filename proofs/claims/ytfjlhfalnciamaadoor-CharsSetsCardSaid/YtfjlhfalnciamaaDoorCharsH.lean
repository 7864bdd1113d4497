/- The set of ranges (Of), walked. -/
import Derived.Test.YtfjlhfalnciamaaDoorCharsG
import Derived.Deep.LoopGhost
import Derived.Deep.DeepCutAuto
import Derived.Deep.CutBlock
import Derived.BigRegion
import Derived.Deep.QuietTactic
import Derived.BigQuiet
namespace Go.Proofs.YtfjlhfalnciamaaDoor.Chars
open Go Go.RowKit Go.Proofs.Chars

theorem cutR_snoc (L : List Rg) (x : Rg) : cutR (L ++ [x]) = cutR L ++ (if max x.1 0 ≤ min x.2 most then [(max x.1 0, min x.2 most)] else []) := by
  unfold cutR
  rw [List.map_append, List.filter_append]
  congr 1
  by_cases h : max x.1 0 ≤ min x.2 most
  · rw [if_pos h]; simp [h]
  · rw [if_neg h]; simp [h]
theorem cutR_len (L : List Rg) : (cutR L).length ≤ L.length := by
  unfold cutR
  exact Nat.le_trans (List.length_filter_le _ _) (by simp)
theorem ofStep_len (out : List Rg) (x : Rg) : (ofStep out x).length ≤ out.length + 1 := by
  rcases List.eq_nil_or_concat out with rfl | ⟨l, c, rfl⟩
  · simp [ofStep_nil]
  · rw [List.concat_eq_append, ofStep_snoc]
    split <;> simp
theorem foldl_ofStep_len (s : List Rg) : ∀ out : List Rg, (s.foldl ofStep out).length ≤ out.length + s.length := by
  induction s with
  | nil => intro out; simp
  | cons x s ih => intro out; have := ih (ofStep out x); have := ofStep_len out x; simp only [List.foldl_cons, List.length_cons]; omega

/-- Two slices share no block. -/
def apart (v u : Value) : Prop := ∀ g, v.ownBlock = some g → u.ownBlock ≠ some g
theorem Rowed.grown {w w' : World} {S : Nat} {v u : Value} {L : List Rg} (h : Rowed w S v L) (hg : w.grownBy w' u.ownBlock) (ha : apart v u) : Rowed w' S v L := by
  refine ⟨h.1, ?_⟩
  rcases h.2 with h0 | ⟨g, cap, cur, e1, e2, e3, e4⟩
  · exact .inl h0
  · exact .inr ⟨g, cap, cur, e1, e2, (hg.block g (Array.getElem?_eq_some_iff.1 e3).1 (fun e => ha g (by rw [e1]; rfl) e.symm)).trans e3, e4⟩
theorem apart.step {w : World} {S : Nat} {v u u' : Value} {L : List Rg} (ha : apart v u) (h : Rowed w S v L) {H : Nat} (hH : w.heap.size ≤ H) (hb : u'.ownBlock = u.ownBlock ∨ u'.ownBlock = some H) : apart v u' := fun g hg hug => by
  rcases hb with hb | hb
  · exact ha g hg (hb ▸ hug)
  · have := h.block_lt hg
    rw [hug] at hb
    cases hb
    omega
/-- The last range of a row of one's own, its end written anew. -/
theorem Rowed.setHi {w : World} {S g cap : Nat} {l : List Rg} {c : Rg} (h : Rowed w S (.slice (some ⟨g, 0, none⟩) (l.length + 1) cap) (l ++ [c])) (z : Int) :
    Rowed (w.setCell ⟨g, l.length * 2 + 1, none⟩ (.int .i32 z)) S (.slice (some ⟨g, 0, none⟩) (l.length + 1) cap) (l ++ [(c.1, z)]) := by
  refine ⟨by rw [rcells_len], ?_⟩
  rcases h.2 with ⟨hv, _⟩ | ⟨g', cap', cur, e1, e2, e3, e4, e5, e6, e7⟩
  · cases hv
  · injection e1 with e1 e1' e1''
    injection e1 with e1
    injection e1 with e1
    subst e1
    subst e1''
    refine .inr ⟨g, cap, cur.setIfInBounds (l.length * 2 + 1) (.int .i32 z), by simp, e2, by simp [World.setCell, Array.getElem?_modify, e3], by simpa using e4, e5, by simpa using e6, ?_⟩
    have hL : (l ++ [c]).length * 2 = l.length * 2 + 2 := by simp; omega
    have hL2 : (l ++ [(c.1, z)]).length * 2 = l.length * 2 + 2 := by simp; omega
    rw [hL] at e7
    rw [hL2, Array.toList_setIfInBounds, List.take_set, e7, rcells_append, rcells_append]
    rw [List.set_append_right _ _ (by rw [rcells_len]; omega), rcells_len]
    rw [show l.length * 2 + 1 - l.length * 2 = 1 by omega]
    simp [rcells]


theorem info44 : (Tryd.prog.info? 44).map (fun i => (i.zero, i.size, i.bytes)) = some (some (.agg #[.int .i32 0, .int .i32 0]), 2, 8) := by kernel_rfl

theorem rising_take : ∀ {l : List Rg} (k : Nat), Rising l → Rising (l.take k)
  | [], k, _ => by simp [Rising]
  | x :: l, 0, _ => by simp [Rising]
  | x :: l, k + 1, h => by
    rw [List.take_succ_cons]
    exact ⟨fun y hy => h.1 y (List.mem_of_mem_take hy), rising_take k h.2⟩
def put (Q : List Rg) (k : Nat) : List Rg := (Q.take k).foldl ofStep []
theorem put_succ {Q : List Rg} {k : Nat} {x : Rg} (h : Q[k]? = some x) : put Q (k + 1) = ofStep (put Q k) x := by
  have hk : k < Q.length := (List.getElem?_eq_some_iff.1 h).1
  have hx : Q[k] = x := (List.getElem?_eq_some_iff.1 h).2
  unfold put
  rw [List.take_succ_eq_append_getElem hk, List.foldl_append, hx]; rfl
theorem put_len (Q : List Rg) (k : Nat) : (put Q k).length ≤ Q.length := by
  have := foldl_ofStep_len (Q.take k) []
  have h2 : (Q.take k).length ≤ Q.length := by simp; omega
  unfold put
  simp at this ⊢
  omega
theorem put_canon {Q : List Rg} (hr : Rising Q) (hv : ∀ x ∈ Q, 0 ≤ x.1 ∧ x.1 ≤ x.2 ∧ x.2 ≤ most) (k : Nat) : Canon 0 (put Q k) :=
  (of_ok (Q.take k) [] trivial (rising_take k hr) (fun x hx => hv x (List.mem_of_mem_take hx)) (fun c hc => by simp at hc)).1
theorem Rowed.form {w : World} {S : Nat} {v : Value} {L : List Rg} (h : Rowed w S v L) : ∃ A cap, v = .slice A L.length cap := by
  rcases h.2 with ⟨rfl, h0⟩ | ⟨g, cap, cur, rfl, _⟩
  · exact ⟨none, 0, by rw [h0]⟩
  · exact ⟨_, cap, rfl⟩
theorem Rowed.at {w : World} {S : Nat} {v : Value} {L : List Rg} (h : Rowed w S v L) (hne : 0 < L.length) : ∃ g cap, v = .slice (some ⟨g, 0, none⟩) L.length cap ∧ L.length ≤ cap ∧ cap ≤ maxLen ∧ g < w.heap.size ∧ S ≤ g ∧ (∀ o, w.frozen? ⟨g, o, none⟩ = false) ∧
    ∀ i x, L[i]? = some x → w.cell? ⟨g, i * 2, none⟩ = some (.int .i32 x.1) ∧ w.cell? ⟨g, i * 2 + 1, none⟩ = some (.int .i32 x.2) := by
  rcases h.2 with ⟨_, h0⟩ | ⟨g, cap, cur, hv, h1, h3, h4, h5, h6, h7⟩
  · omega
  · refine ⟨g, cap, hv, h4, h5, (Array.getElem?_eq_some_iff.1 h3).1, h1, fun o => by simp [World.frozen?, h3], fun i x hx => ?_⟩
    have hc := World.ownsRow.cells h (g := g) (by rw [hv]; rfl)
    have h2 := rcells_get hx
    have e1 := hc _ _ h2.1
    have e2 := hc _ _ h2.2
    rw [addr_add] at e1 e2
    exact ⟨e1, e2⟩
theorem Rowed.of_heap {w w' : World} {S : Nat} {v : Value} {L : List Rg} (h : Rowed w S v L) (e : w'.heap = w.heap) : Rowed w' S v L := by
  refine ⟨h.1, ?_⟩
  rcases h.2 with h0 | ⟨g, cap, cur, e1, e2, e3, e4⟩
  · exact .inl h0
  · exact .inr ⟨g, cap, cur, e1, e2, by rw [e]; exact e3, e4⟩

theorem news2 (w : World) (o : Obj) (n : Nat) (cs : Array Value) (t : TypeId) : ∀ j u, cs.toList[j]? = some u → (((w.alloc o).drewN n).alloc (.cells cs t)).cell? ((⟨w.heap.size + 1, 0, none⟩ : Addr).add j) = some u :=
  World.news_of_block (t := t) (fr := (0, 0)) (by
    have h := heap_alloc_new ((w.alloc o).drewN n) (.cells cs t)
    rw [show ((w.alloc o).drewN n).heap.size = w.heap.size + 1 by simp] at h
    exact h)
theorem below_drewN {B : Nat} {a w : World} (h : Below B a w) (n : Nat) : Below B a (w.drewN n) := ⟨h.os, h.tape, h.output, h.size, h.block⟩
/-- A range more behind a row, another row stays. -/
theorem out_next {w wr w2 : World} {S n Hn : Nat} {u6 v' u3 : Value} {Q : List Rg} {o o' : Obj} (hI : Rowed wr S u3 Q) (hA : apart u3 u6) (hB : Below S w wr) (hszr : S ≤ wr.heap.size) (hlow : ∀ k, u6.ownBlock = some k → S ≤ k)
    (hg : (((wr.alloc o).drewN n).alloc o').grownBy w2 u6.ownBlock) (hH : (((wr.alloc o).drewN n).alloc o').heap.size = Hn) (hat : v'.ownBlock = u6.ownBlock ∨ v'.ownBlock = some Hn) :
    Rowed w2 S u3 Q ∧ apart u3 v' ∧ Below S w w2 := by
  have h1 : Below wr.heap.size wr (((wr.alloc o).drewN n).alloc o') := (below_drewN ((RowKit.Below.refl _ wr).alloc (Nat.le_refl _) o) n).alloc (by simp) o'
  have h2 := hI.stay h1
  refine ⟨h2.grown hg hA, hA.step h2 (Nat.le_of_eq hH) hat, (hB.trans (h1.mono hszr)).grown hg (by simp; omega) hlow⟩

theorem Rowed.setFar {w : World} {S : Nat} {v : Value} {L : List Rg} (h : Rowed w S v L) {p : Addr} (hne : v.ownBlock ≠ some p.block) (u : Value) : Rowed (w.setCell p u) S v L := by
  refine ⟨h.1, ?_⟩
  rcases h.2 with h0 | ⟨g, cap, cur, e1, e2, e3, e4⟩
  · exact .inl h0
  · exact .inr ⟨g, cap, cur, e1, e2, (Below.heap_setCell w p u g (fun e => hne (by rw [e1, ← e]; rfl))).trans e3, e4⟩

set_option maxRecDepth 100000 in
theorem of_any {w : World} {va : Value} {L : List Rg} (H : Rgs w va L) (hL : L.length ≤ 100000) :
    Calls Tryd.prog 15 #[va] w fun e w' => ∃ v O, e = .returned v ∧ Rowed w' w.heap.size v O ∧ IsOf L O ∧ O.length ≤ L.length ∧ Below w.heap.size w w' := by
  obtain ⟨i0, hi, hz0, hz1, hz2⟩ := info_parts info44
  obtain ⟨S, hS⟩ : ∃ S, S = w.heap.size := ⟨_, rfl⟩
  have HS := Lib.hid hS
  rw [← hS]
  have hsz : S ≤ w.heap.size := by omega
  have HR := Lib.hid H
  obtain ⟨h0, A, cap, rfl, hc1, hc2, hc3⟩ := H
  have HC := Lib.hid hc3
  have H0 := Lib.hid h0
  clear hS hc3 h0
  go_enter Tryd.func15, Tryd.ntmps15
  go_wp2_with fail
  go_loopw [3, 5, 12] (fun v x i wx => ∃ k : Nat, k ≤ L.length ∧ i = .int .i64 (k : Int) ∧ Rowed wx S v (cutR (L.take k)) ∧ Below S w wx) (fun _ _ i _ => L.length - (intOf i).toNat)
  case atStart => exact ⟨0, Nat.zero_le _, rfl, ⟨rfl, .inl ⟨rfl, rfl⟩⟩, Below.refl _ _⟩
  case round =>
    obtain ⟨k, hk, rfl, hrow, hB⟩ := hrel
    have HW := Lib.hid hrow
    have HB := Lib.hid hB
    have hszr : S ≤ wr.heap.size := Nat.le_trans hsz hB.size
    by_cases hlt : k < L.length
    · obtain ⟨b, off, rfl, hbl, hcell⟩ := HC.out (by omega)
      obtain ⟨x, hx⟩ : ∃ x, L[k]? = some x := ⟨L[k], List.getElem?_eq_getElem hlt⟩
      obtain ⟨hc0, hc1'⟩ := hcell k x hx
      have hbS : b < S := by rw [HS.out]; exact hbl
      have e0 := (hB.cell (p := ⟨b, off + k * 2, none⟩) hbS).trans hc0
      have e1 := (hB.cell (p := ⟨b, off + k * 2 + 1, none⟩) hbS).trans hc1'
      have HX := Lib.hid hx
      clear hx hcell hc0 hc1' hrow hB
      have HSU := Lib.hid (show L.take (k + 1) = L.take k ++ [x] by rw [List.take_succ_eq_append_getElem hlt]; congr 2; have := HX.out; rw [List.getElem?_eq_getElem hlt] at this; exact Option.some.inj this)
      have hLl := cutR_len (L.take k)
      have hLk : (cutR (L.take k)).length ≤ 100000 := Nat.le_trans hLl (by simp; omega)
      obtain ⟨M, hM⟩ : ∃ M, cutR (L.take k) = M := ⟨_, rfl⟩
      have HCS := Lib.hid (cutR_snoc (L.take k) x)
      rw [hM] at hLk HCS
      have HW : Hid (Rowed wr S u3 M) := by rw [← hM]; exact HW.out
      clear hLl hM
      have hown : wr.ownsRow S 44 2 u3 M.length (rcells M) := HW.out
      have hown' := Lib.hid hown
      clear hown
      by_cases hmm : max x.1 0 ≤ min x.2 1114111
      · go_wp2_with (at_builtin; refine wpList_append_own _ rfl _ _ 23 rfl S 44 i0 (.agg #[.int .i32 0, .int .i32 0]) 2 8 Tryd.underlying23 hi hz0 hz1 hz2 rfl (by decide) _ _ _ rfl ((hown'.out.alloc _).alloc _) ⟨wr.heap.size + 1, 0, none⟩ 1 1 [.int .i32 (max x.1 0), .int .i32 (min x.2 1114111)] rfl rfl ?c1 ?c2 ?c3 ?c4 ?c5 ?_)
        case c1 =>
          intro j u hj
          match j, hj with
          | 0, hj => simp at hj; subst hj; simp [Addr.add]
          | 1, hj => simp at hj; subst hj; simp [Addr.add]
        case c2 => intro u hu; simp at hu; rcases hu with rfl | rfl <;> rfl
        case c3 => unfold maxLen; omega
        case c4 => omega
        case c5 => simp; omega
        intro v' w2 hown2 hgrow _
        have HR2 : Hid (Rowed w2 S v' (cutR (L.take (k + 1)))) := by
          rw [HSU.out, HCS.out, if_pos (show max x.1 0 ≤ min x.2 most from hmm)]
          unfold Rowed
          rw [rcells_append, List.length_append]
          exact hown2
        have HB2 : Hid (Below S w w2) := (((HB.out.alloc hszr _).alloc (by simp; omega) _).grown hgrow (by simp; omega) fun k hk => (hown'.out.lt k hk).1)
        clear hown2 hgrow hown'
        go_wp2
        go_roundw
        case rel => exact ⟨k + 1, by omega, by go_num, HR2.out, HB2.out⟩
        case measure => simp [intOf]; omega
      · have HR2 : Hid (cutR (L.take (k + 1)) = M) := by
          rw [HSU.out, HCS.out, if_neg (show ¬ max x.1 0 ≤ min x.2 most from hmm), List.append_nil]
          exact Lib.hid rfl
        go_wp2
        go_roundw
        case rel => exact ⟨k + 1, by omega, by go_num, by rw [HR2.out]; exact HW.out.stay ((RowKit.Below.refl _ _).alloc (Nat.le_refl _) _), HB.out.alloc hszr _⟩
        case measure => simp [intOf]; omega
    · obtain rfl : k = L.length := by omega
      have hrow2 : Rowed wr S u3 (cutR L) := by rw [List.take_length] at hrow; exact hrow
      have hcl : (cutR L).length ≤ L.length := cutR_len L
      obtain ⟨M, hM⟩ : ∃ M, cutR L = M := ⟨_, rfl⟩
      have HM := Lib.hid hM
      rw [hM] at hrow2 hcl
      have HSO := Lib.hid (sort_row hrow2 (by omega))
      clear hrow hrow2 hB hM hlt HW
      go_wp2_with fail
      refine HSO.out.mono ?_
      rintro e w1 ⟨rfl, Q, hp, hris, hrow, hB1⟩
      have hql : Q.length = M.length := hp.length_eq
      have HV : Hid (∀ x ∈ Q, 0 ≤ x.1 ∧ x.1 ≤ x.2 ∧ x.2 ≤ most) := Lib.hid fun x hx => (cutR_ok L).1 x (by rw [HM.out]; exact hp.mem_iff.1 hx)
      have HP := Lib.hid hp
      have HRI := Lib.hid hris
      have HB1 := Lib.hid (HB.out.trans hB1)
      have HR1 := Lib.hid hrow
      have hs1 : S ≤ w1.heap.size := Nat.le_trans hszr hB1.size
      have hlq : Q.length ≤ 100000 := by omega
      have HLN := Lib.hid (fun wx (h : Rowed wx S u3 Q) => (h.rgs fun x hx => ⟨⟨by have := (HV.out x hx).1; omega, by have := (HV.out x hx).2; unfold most at this; omega⟩, by have := (HV.out x hx); omega, by have := (HV.out x hx).2.2; unfold most at this; omega⟩).len 3 wx)
      have hlen := fun wx h => HLN.out wx h
      have hlen1 := HLN.out w1 hrow
      have HQM := Lib.hid hql
      clear hp hris hB1 hrow hql hlen HLN HSO HB
      go_wp2_with fail
      go_loopw [6, 8, 9, 37] (fun v x n i wx => ∃ k : Nat, k ≤ Q.length ∧ i = .int .i64 (k : Int) ∧ Rowed wx S v (put Q k) ∧ Rowed wx S u3 Q ∧ apart u3 v ∧ Below S w wx) (fun _ _ _ i _ => Q.length - (intOf i).toNat)
      case atStart => exact ⟨0, Nat.zero_le _, rfl, ⟨rfl, .inl ⟨rfl, rfl⟩⟩, HR1.out, (fun g _ h => by cases h), HB1.out⟩
      case round =>
        obtain ⟨k, hk, rfl, hrow, hin, hap, hB⟩ := hrel
        have HW := Lib.hid hrow
        have HI := Lib.hid hin
        have HA := Lib.hid hap
        have HB := Lib.hid hB
        have hszr : S ≤ wr.heap.size := Nat.le_trans hsz hB.size
        clear hap hB HB1 HR1
        by_cases hlt : k < Q.length
        · obtain ⟨g3, cap3, rfl, h31, h32, h33, h34, h35, hcell⟩ := hin.at (by omega)
          obtain ⟨x, hx⟩ : ∃ x, Q[k]? = some x := ⟨Q[k], List.getElem?_eq_getElem hlt⟩
          obtain ⟨e0, e1⟩ := hcell k x hx
          have HPS := Lib.hid (put_succ hx)
          have hpl := put_len Q k
          have HCN := Lib.hid (put_canon HRI.out HV.out k)
          obtain ⟨O, hO⟩ : ∃ O, put Q k = O := ⟨_, rfl⟩
          rw [hO] at hrow HPS hpl HCN HW
          have hxv := HV.out x (List.mem_of_getElem? hx)
          have hx1 := hxv.1
          have hx2 := hxv.2.1
          have hx3 := hxv.2.2
          unfold most at hx3
          clear hx hcell hO hxv hin h35
          rcases List.eq_nil_or_concat O with rfl | ⟨l, c, rfl⟩
          · obtain ⟨A, cap', rfl⟩ := hrow.form
            have hown' := Lib.hid (show wr.ownsRow S 44 2 (.slice A ([] : List Rg).length cap') ([] : List Rg).length (rcells []) from HW.out)
            clear hrow
            go_wp2_with fail
            go_quiet (fail)
            go_wp2_with (at_builtin; refine wpList_append_own_at _ rfl _ _ 23 rfl S 44 i0 (.agg #[.int .i32 0, .int .i32 0]) 2 8 Tryd.underlying23 hi hz0 hz1 hz2 rfl (by decide) _ _ _ rfl (World.ownsRow.alloc (w := (wr.alloc _).drewN _) (hown'.out.alloc _) _) ⟨wr.heap.size + 1, 0, none⟩ 1 1 [.int .i32 x.1, .int .i32 x.2] rfl rfl ?c1 ?c2 ?c3 ?c4 ?c5 ?_)
            case c1 => exact news2 _ _ _ #[_, _] _
            case c2 => intro u hu; simp at hu; rcases hu with rfl | rfl <;> rfl
            case c3 => unfold maxLen; simp
            case c4 => simp
            case c5 => simp; omega
            intro v' w2 hown2 hgrow _ hat
            have HR2 : Hid (Rowed w2 S v' (put Q (k + 1))) := by
              rw [HPS.out]
              exact Lib.hid hown2
            have HN := Lib.hid (out_next HI.out HA.out HB.out hszr (fun k hk => (hown'.out.lt k hk).1) hgrow (by simp) hat)
            clear hown2 hgrow hat hown'
            go_wp2
            go_roundw
            case rel => exact ⟨k + 1, by omega, by go_num, HR2.out, HN.out⟩
            case measure => simp [intOf]; omega
          · rw [List.concat_eq_append] at hrow HPS hpl HCN HW
            obtain ⟨g, cap', rfl, h41, h42, h43, h44, hfr, hcell⟩ := hrow.at (by simp)
            obtain ⟨e2, e3⟩ := hcell l.length c (by simp)
            have hcan := (canon_snoc.1 HCN.out).2.2
            have hc1' := hcan.1
            have hc2' := hcan.2.1
            have hc3' := hcan.2.2
            unfold most at hc3'
            have hfz := hfr (l.length * 2 + 1)
            have hl1 : (l ++ [c]).length = l.length + 1 := by simp
            rw [hl1] at hrow hpl HW ⊢
            have HF := Lib.hid hfr
            clear hcell hcan hrow hfr
            have w1 : IntKind.i32.wrap (c.2 + 1) = c.2 + 1 := IntWalk.i32_in _ (by omega)
            have w2' : IntKind.i64.wrap ((l.length : Int) + 1 - 1) = (l.length : Int) := by rw [IntWalk.i64_in _ (by omega)]; omega
            by_cases ht : x.1 ≤ c.2 + 1
            · have ht' : decide (x.1 ≤ c.2 + 1) = true := decide_eq_true ht
              go_wp2_with fail
              go_quiet (fail)
              have hfin : ∀ n, Rowed (((wr.alloc (.cells #[.int .i32 x.1, .int .i32 x.2] 44)).drewN n).setCell ⟨g, l.length * 2 + 1, none⟩ (.int .i32 (max c.2 x.2))) S (.slice (some ⟨g, 0, none⟩) (l.length + 1) cap') (put Q (k + 1)) ∧
                  Rowed (((wr.alloc (.cells #[.int .i32 x.1, .int .i32 x.2] 44)).drewN n).setCell ⟨g, l.length * 2 + 1, none⟩ (.int .i32 (max c.2 x.2))) S (.slice (some ⟨g3, 0, none⟩) Q.length cap3) Q ∧
                  apart (.slice (some ⟨g3, 0, none⟩) Q.length cap3) (.slice (some ⟨g, 0, none⟩) (l.length + 1) cap') ∧
                  Below S w (((wr.alloc (.cells #[.int .i32 x.1, .int .i32 x.2] 44)).drewN n).setCell ⟨g, l.length * 2 + 1, none⟩ (.int .i32 (max c.2 x.2))) := fun n => by
                have hb : Below wr.heap.size wr ((wr.alloc (.cells #[.int .i32 x.1, .int .i32 x.2] 44)).drewN n) := below_drewN ((RowKit.Below.refl _ wr).alloc (Nat.le_refl _) _) n
                have hgg : (Value.slice (some ⟨g3, 0, none⟩) Q.length cap3).ownBlock ≠ some (⟨g, l.length * 2 + 1, none⟩ : Addr).block := fun e => HA.out g3 rfl (by
                  have e' : g3 = g := by simpa [Value.ownBlock] using e
                  rw [e']; rfl)
                refine ⟨?_, (HI.out.stay hb).setFar hgg _, HA.out, (HB.out.trans (hb.mono hszr)).setCell h44 _⟩
                rw [HPS.out, ofStep_snoc, if_pos ht]
                exact Rowed.setHi (HW.out.stay hb) _
              have HFIN := Lib.hid hfin
              clear hfin
              go_wp2_with fail
              go_region
              all_goals go_wp2_with fail
              all_goals go_roundw
              case rel => exact ⟨k + 1, by omega, by go_num, HFIN.out _⟩
              case measure => simp [intOf]; omega
            · have ht' : decide (x.1 ≤ c.2 + 1) = false := decide_eq_false ht
              have hown' := Lib.hid (show wr.ownsRow S 44 2 (.slice (some ⟨g, 0, none⟩) (l.length + 1) cap') (l.length + 1) (rcells (l ++ [c])) by
                have := HW.out
                unfold Rowed at this
                rw [hl1] at this
                exact this)
              go_wp2_with fail
              go_quiet (fail)
              go_wp2_with (at_builtin; refine wpList_append_own_at _ rfl _ _ 23 rfl S 44 i0 (.agg #[.int .i32 0, .int .i32 0]) 2 8 Tryd.underlying23 hi hz0 hz1 hz2 rfl (by decide) _ _ _ rfl (World.ownsRow.alloc (w := (wr.alloc _).drewN _) (hown'.out.alloc _) _) ⟨wr.heap.size + 1, 0, none⟩ 1 1 [.int .i32 x.1, .int .i32 x.2] rfl rfl ?d1 ?d2 ?d3 ?d4 ?d5 ?_)
              case d1 => exact news2 _ _ _ #[_, _] _
              case d2 => intro u hu; simp at hu; rcases hu with rfl | rfl <;> rfl
              case d3 => unfold maxLen; omega
              case d4 => omega
              case d5 => simp; omega
              intro v' w2 hown2 hgrow _ hat
              have HR2 : Hid (Rowed w2 S v' (put Q (k + 1))) := by
                rw [HPS.out, ofStep_snoc, if_neg (by omega)]
                unfold Rowed
                rw [rcells_append (l ++ [c]), List.length_append, hl1]
                exact Lib.hid hown2
              have HN := Lib.hid (out_next HI.out HA.out HB.out hszr (fun k hk => (hown'.out.lt k hk).1) hgrow (by simp) hat)
              clear hown2 hgrow hat hown'
              go_wp2
              go_roundw
              case rel => exact ⟨k + 1, by omega, by go_num, HR2.out, HN.out⟩
              case measure => simp [intOf]; omega
        · obtain rfl : k = Q.length := by omega
          have hres : ∃ O, put Q Q.length = O ∧ IsOf L O ∧ O.length ≤ L.length := ⟨_, rfl, by
            unfold put
            rw [List.take_length]
            exact of_is (by rw [HM.out]; exact HP.out) HRI.out, Nat.le_trans (put_len Q _) (by have := HQM.out; omega)⟩
          obtain ⟨O, hO, hO1, hO2⟩ := hres
          rw [hO] at hrow
          have HR2 := Lib.hid hrow
          have HO1 := Lib.hid hO1
          clear hrow hin hlt hO hO1 HW
          go_wp2
          go_ret
          exact ⟨_, O, rfl, HR2.out, HO1.out, hO2, HB.out⟩

end Go.Proofs.YtfjlhfalnciamaaDoor.Chars
