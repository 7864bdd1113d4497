/- The document's clean set of the numbers between edges (ref.Clean; law CharsSets), walked. -/
import Derived.Test.YtfjlhfalnciamaaDoorSetsB
namespace Go.Proofs.YtfjlhfalnciamaaDoor.Chars
open Go Go.RowKit Go.Proofs.Chars

/-- A row of ints, a row of bools. -/
def NRow (w : World) (S : Nat) (v : Value) (L : List Int) : Prop := w.ownsRow S 3 1 v L.length (L.map fun n => .int .i64 n)
def TRow (w : World) (S : Nat) (v : Value) (L : List Bool) : Prop := w.ownsRow S 4 1 v L.length (L.map fun n => .bool n)
theorem NRow.form {w : World} {S : Nat} {v : Value} {L : List Int} (h : NRow w S v L) : ∃ A cap, v = .slice A L.length cap := by
  rcases h.2 with ⟨rfl, h0⟩ | ⟨g, cap, cur, rfl, _⟩
  · exact ⟨none, 0, by rw [h0]⟩
  · exact ⟨_, cap, rfl⟩
theorem TRow.form {w : World} {S : Nat} {v : Value} {L : List Bool} (h : TRow w S v L) : ∃ A cap, v = .slice A L.length cap := by
  rcases h.2 with ⟨rfl, h0⟩ | ⟨g, cap, cur, rfl, _⟩
  · exact ⟨none, 0, by rw [h0]⟩
  · exact ⟨_, cap, rfl⟩
theorem NRow.at {w : World} {S : Nat} {v : Value} {L : List Int} (h : NRow w S v L) (hn : 0 < L.length) : ∃ g cap, v = .slice (some ⟨g, 0, none⟩) L.length cap ∧ L.length ≤ cap ∧ cap ≤ maxLen ∧ g < w.heap.size ∧ ∀ (i : Nat) (x : Int), L[i]? = some x → w.cell? ⟨g, i, none⟩ = some (.int .i64 x) := by
  have h' := h
  rcases h.2 with ⟨_, h0⟩ | ⟨g, cap, cur, hv, h1, h3, h4, h5, h6, h7⟩
  · omega
  · refine ⟨g, cap, hv, h4, h5, (Array.getElem?_eq_some_iff.1 h3).1, fun i x hx => ?_⟩
    have hc := World.ownsRow.cells h' (g := g) (by rw [hv]; rfl)
    have e1 := hc i (.int .i64 x) (by rw [List.getElem?_map, hx]; rfl)
    rw [addr_add] at e1
    exact e1
theorem TRow.at {w : World} {S : Nat} {v : Value} {L : List Bool} (h : TRow w S v L) (hn : 0 < L.length) : ∃ g cap, v = .slice (some ⟨g, 0, none⟩) L.length cap ∧ L.length ≤ cap ∧ cap ≤ maxLen ∧ g < w.heap.size ∧ ∀ (i : Nat) (x : Bool), L[i]? = some x → w.cell? ⟨g, i, none⟩ = some (.bool x) := by
  have h' := h
  rcases h.2 with ⟨_, h0⟩ | ⟨g, cap, cur, hv, h1, h3, h4, h5, h6, h7⟩
  · omega
  · refine ⟨g, cap, hv, h4, h5, (Array.getElem?_eq_some_iff.1 h3).1, fun i x hx => ?_⟩
    have hc := World.ownsRow.cells h' (g := g) (by rw [hv]; rfl)
    have e1 := hc i (.bool x) (by rw [List.getElem?_map, hx]; rfl)
    rw [addr_add] at e1
    exact e1
theorem ERow.at2 {w : World} {S : Nat} {v : Value} {L : List Rg} (h : ERow w S v L) (hn : 0 < L.length) : ∃ g cap, v = .slice (some ⟨g, 0, none⟩) L.length cap ∧ S ≤ g ∧ g < w.heap.size ∧ (∀ o, w.frozen? ⟨g, o, none⟩ = false) ∧ ∀ (i : Nat) (x : Rg), L[i]? = some x → w.cell? ⟨g, i * 2, none⟩ = some (.int .i64 x.1) ∧ w.cell? ⟨g, i * 2 + 1, none⟩ = some (.int .i64 x.2) := by
  have h' := h
  rcases h.2 with ⟨_, h0⟩ | ⟨g, cap, cur, hv, h1, h3, h4, h5, h6, h7⟩
  · omega
  · refine ⟨g, cap, hv, h1, (Array.getElem?_eq_some_iff.1 h3).1, fun o => by simp [World.frozen?, h3], fun i x hx => ?_⟩
    have hc := World.ownsRow.cells h' (g := g) (by rw [hv]; rfl)
    have h2 := ecells_get hx
    have e1 := hc _ _ h2.1
    have e2 := hc _ _ h2.2
    rw [addr_add] at e1 e2
    exact ⟨e1, e2⟩
/-- The last range of a row of one's own, its end written anew. -/
theorem ERow.setHi {w : World} {S g cap : Nat} {l : List Rg} {c : Rg} (h : ERow w S (.slice (some ⟨g, 0, none⟩) (l.length + 1) cap) (l ++ [c])) (z : Int) :
    ERow (w.setCell ⟨g, l.length * 2 + 1, none⟩ (.int .i64 z)) S (.slice (some ⟨g, 0, none⟩) (l.length + 1) cap) (l ++ [(c.1, z)]) := by
  refine ⟨by rw [ecells_len], ?_⟩
  rcases h.2 with ⟨hv, _⟩ | ⟨g', cap', cur, e1, e2, e3, e4, e5, e6, e7⟩
  · cases hv
  · injection e1 with e1 e1' e1''
    injection e1 with e1
    injection e1 with e1
    subst e1
    subst e1''
    refine .inr ⟨g, cap, cur.setIfInBounds (l.length * 2 + 1) (.int .i64 z), by simp, e2, by simp [World.setCell, Array.getElem?_modify, e3], by simpa using e4, e5, by simpa using e6, ?_⟩
    have hL : (l ++ [c]).length * 2 = l.length * 2 + 2 := by simp; omega
    have hL2 : (l ++ [(c.1, z)]).length * 2 = l.length * 2 + 2 := by simp; omega
    rw [hL] at e7
    rw [hL2, Array.toList_setIfInBounds, List.take_set, e7, ecells_append, ecells_append]
    rw [List.set_append_right _ _ (by rw [ecells_len]; omega), ecells_len]
    rw [show l.length * 2 + 1 - l.length * 2 = 1 by omega]
    simp [ecells]
theorem newsE (w : World) (n : Nat) (cs : Array Value) (t : TypeId) : ∀ j u, cs.toList[j]? = some u → ((w.drewN n).alloc (.cells cs t)).cell? ((⟨w.heap.size, 0, none⟩ : Addr).add j) = some u :=
  World.news_of_block (t := t) (fr := (0, 0)) (by
    have h := heap_alloc_new (w.drewN n) (.cells cs t)
    rw [show (w.drewN n).heap.size = w.heap.size by simp] at h
    exact h)

/-- Where the numbers behind an edge end. -/
def endE : List Int → Int
  | [] => most
  | f :: _ => f - 1
theorem pieces_cons (P : Int → Bool) (e : Int) (r : List Int) : pieces P (e :: r) = (if P e then [(e, endE r)] else []) ++ pieces P r := by
  cases r with
  | nil => simp [pieces, endE]
  | cons f r => rfl
theorem rise_drop : ∀ {L : List Int} {b : Int} (k : Nat), Rise b L → ∃ b', b ≤ b' ∧ Rise b' (L.drop k)
  | [], b, k, h => ⟨b, Int.le_refl _, by simpa using h⟩
  | x :: L, b, 0, h => ⟨b, Int.le_refl _, h⟩
  | x :: L, b, k + 1, h => by
    obtain ⟨b', h1, h2⟩ := rise_drop k h.2.2
    exact ⟨b', by have := h.1; omega, h2⟩
/-- What has been put together ends ahead of what is left. -/
def CInv (out : List Rg) (rest : List Int) : Prop := ∀ l c, out = l ++ [c] → 0 ≤ c.2 ∧ c.2 ≤ most ∧ ∀ e r, rest = e :: r → c.2 + 1 ≤ e
theorem endE_in {b e : Int} {r : List Int} (h : Rise b (e :: r)) : e ≤ endE r ∧ endE r ≤ most ∧ ∀ f q, r = f :: q → endE r + 1 = f := by
  cases r with
  | nil => exact ⟨h.2.1, Int.le_refl _, fun f q e => by cases e⟩
  | cons f r =>
    have h1 := h.2.2.1
    have h2 := h.2.2.2.1
    simp only [endE]
    exact ⟨by omega, by omega, fun f' q e => by cases e; omega⟩
theorem cinv_skip {b e : Int} {r : List Int} {out : List Rg} (h : Rise b (e :: r)) (hc : CInv out (e :: r)) : CInv out r := fun l c hl => by
  obtain ⟨h1, h2, h3⟩ := hc l c hl
  refine ⟨h1, h2, fun f q hq => ?_⟩
  have h4 := h3 e r rfl
  subst hq
  have := h.2.2.1
  omega
theorem snoc_inj {l m : List Rg} {c d : Rg} (h : l ++ [c] = m ++ [d]) : c = d := by
  have := congrArg List.getLast? h
  simpa using this
theorem cinv_put {b e : Int} {r : List Int} (hb : 0 ≤ b) (h : Rise b (e :: r)) (l : List Rg) (x : Int) : CInv (l ++ [(x, endE r)]) r := fun m c hl => by
  have := snoc_inj hl
  subst this
  obtain ⟨h1, h2, h3⟩ := endE_in h
  have := h.1
  exact ⟨by show 0 ≤ endE r; omega, h2, fun f q hq => by have := h3 f q hq; show endE r + 1 ≤ f; omega⟩
theorem clean_skip {P : Int → Bool} {e : Int} {r : List Int} {out R : List Rg} (hp : P e = false) (h : (pieces P (e :: r)).foldl ofStep out = R) : (pieces P r).foldl ofStep out = R := by
  rw [pieces_cons, hp] at h
  exact h
theorem clean_put {P : Int → Bool} {e : Int} {r : List Int} {out R : List Rg} (hp : P e = true) (h : (pieces P (e :: r)).foldl ofStep out = R) : (pieces P r).foldl ofStep (ofStep out (e, endE r)) = R := by
  rw [pieces_cons, hp] at h
  exact h

set_option maxHeartbeats 8000000 in
set_option maxRecDepth 100000 in
theorem refClean_any {w : World} {S1 S2 : Nat} {ve vs : Value} {E : List Int} (P : Int → Bool) (He : NRow w S1 ve E) (Hs : TRow w S2 vs (E.map P)) (hr : Rise 0 E) (hE : E.length ≤ 1000) :
    Calls Tryd.prog 17 #[ve, vs] w fun e w' => ∃ v, e = .returned v ∧ ERow w' w.heap.size v ((pieces P E).foldl ofStep []) ∧ ((pieces P E).foldl ofStep []).length ≤ E.length ∧ Below w.heap.size w w' := by
  obtain ⟨i0, hi, hz0, hz1, hz2⟩ := info_parts infoE
  obtain ⟨R, hR⟩ : ∃ R, (pieces P E).foldl ofStep [] = R := ⟨_, rfl⟩
  rw [hR]
  obtain ⟨S, hS⟩ : ∃ S, S = w.heap.size := ⟨_, rfl⟩
  have HS := Lib.hid hS
  have hsz : S ≤ w.heap.size := by omega
  obtain ⟨PA, capA, rfl⟩ := He.form
  obtain ⟨PB, capB, rfl⟩ := Hs.form
  have HE := Lib.hid He
  have HSO := Lib.hid Hs
  have HRI := Lib.hid hr
  have HRR := Lib.hid hR
  rw [List.length_map] at HSO ⊢
  rw [← hS]
  clear He Hs hr hR hS
  go_enter Tryd.func17, Tryd.ntmps17
  go_wp2_with fail
  go_loopw [5, 6, 7] (fun v i x wx => ∃ (k : Nat) (out : List Rg), k ≤ E.length ∧ i = .int .i64 (k : Int) ∧ ERow wx S v out ∧ out.length ≤ k ∧ (pieces P (E.drop k)).foldl ofStep out = R ∧ CInv out (E.drop k) ∧ Below S w wx) (fun _ i _ _ => E.length - (intOf i).toNat)
  case atStart => exact ⟨0, [], Nat.zero_le _, rfl, ⟨rfl, .inl ⟨rfl, rfl⟩⟩, Nat.le_refl _, HRR.out, (fun l c h => by simp at h), Below.refl _ _⟩
  case round =>
    obtain ⟨k, out, hk, rfl, hrow, hol, hfold, hci, hB⟩ := hrel
    have hszr : S ≤ wr.heap.size := Nat.le_trans hsz hB.size
    have HB := Lib.hid hB
    by_cases hlt : k < E.length
    · obtain ⟨g1, cp1, e9, k11, k12, k13, cellE⟩ := HE.out.at (by omega)
      cases e9
      obtain ⟨g2, cp2, e9, k21, k22, k23, cellS⟩ := HSO.out.at (by rw [List.length_map]; omega)
      rw [List.length_map] at e9 k21
      cases e9
      obtain ⟨b', hb0, hrd⟩ := rise_drop k HRI.out
      rw [List.drop_eq_getElem_cons hlt] at hfold hci hrd
      obtain ⟨e, he⟩ : ∃ e, E[k] = e := ⟨_, rfl⟩
      have he? : E[k]? = some e := by rw [List.getElem?_eq_getElem hlt, he]
      rw [he] at hfold hci hrd
      have c0 := (hB.cell (p := ⟨g1, k, none⟩) (by rw [HS.out]; exact k13)).trans (cellE k e he?)
      have c1 := (hB.cell (p := ⟨g2, k, none⟩) (by rw [HS.out]; exact k23)).trans (cellS k (P e) (by rw [List.getElem?_map, he?]; rfl))
      have hb1 := hrd.1
      have hb2 := hrd.2.1
      unfold most at hb2
      obtain ⟨q, hq⟩ : ∃ q, E.drop (k + 1) = q := ⟨_, rfl⟩
      rw [hq] at hfold hci hrd
      have HQ := Lib.hid hq
      have HFO := Lib.hid hfold
      have HCI := Lib.hid hci
      have HRD := Lib.hid hrd
      have HEN := Lib.hid (endE_in hrd)
      have HW := Lib.hid hrow
      have p1 : decide ((k : Int) < (E.length : Int)) = true := decide_eq_true (by omega)
      have p1' : decide (k < E.length) = true := decide_eq_true hlt
      have p2 : (0 : Int) ≤ (k : Int) := by omega
      have p3 : (k : Int) < (E.length : Int) := by omega
      have pw : IntKind.i64.wrap ((k : Int) + 1) = ((k + 1 : Nat) : Int) := by rw [IntWalk.i64_in _ (by omega)]; omega
      have hcell1 := Lib.hid (fun f (hf : E[k + 1]? = some f) => (hB.cell (p := ⟨g1, k + 1, none⟩) (by rw [HS.out]; exact k13)).trans (cellE (k + 1) f hf))
      clear hfold hci hrd cellE cellS hB he he? hq HRR
      obtain ⟨pe, hpe⟩ : ∃ pe, P e = pe := ⟨_, rfl⟩
      rw [hpe] at c1
      have HPE := Lib.hid hpe
      clear hpe
      rcases q with _ | ⟨f, q⟩
      · have hkl : k + 1 = E.length := by have := congrArg List.length HQ.out; simp at this; omega
        have p5 : decide (((k + 1 : Nat) : Int) < (E.length : Int)) = false := decide_eq_false (by omega)
        have p5' : decide (k + 1 < E.length) = false := decide_eq_false (by omega)
        have hen : endE [] = 1114111 := rfl
        have HENV := Lib.hid hen
        clear hen
        cases pe with
        | false =>
          go_wp2_with fail
          go_roundw
          case rel => exact ⟨k + 1, out, by omega, by go_num, HW.out, by omega, by rw [HQ.out]; exact clean_skip HPE.out HFO.out, by rw [HQ.out]; exact cinv_skip HRD.out HCI.out, HB.out⟩
          case measure => simp [intOf]; omega
        | true =>
          have HFO2 := Lib.hid (clean_put HPE.out HFO.out)
          rw [HENV.out] at HFO2
          rcases List.eq_nil_or_concat out with rfl | ⟨l, c, rfl⟩
          · obtain ⟨A, cap', rfl⟩ := hrow.form
            have hown' := Lib.hid (show wr.ownsRow S 80 2 (.slice A ([] : List Rg).length cap') ([] : List Rg).length (ecells []) from HW.out)
            clear hrow
            go_wp2_with fail
            go_quiet (fail)
            go_wp2_with (at_builtin; refine wpList_append_own _ rfl _ _ 24 rfl S 80 i0 _ 2 16 Tryd.underlying24 hi hz0 hz1 hz2 rfl (by decide) _ _ _ rfl (World.ownsRow.alloc (w := wr.drewN _) hown'.out _) ⟨wr.heap.size, 0, none⟩ 1 1 [.int .i64 e, .int .i64 1114111] rfl rfl ?c1 ?c2 ?c3 ?c4 ?c5 ?_)
            case c1 => exact newsE _ _ #[_, _] _
            case c2 => intro u hu; simp at hu; rcases hu with rfl | rfl <;> rfl
            case c3 => unfold maxLen; simp
            case c4 => simp
            case c5 => simp; omega
            intro v' w2 hown2 hgrow _
            have HR2 : Hid (ERow w2 S v' (([] : List Rg) ++ [(e, 1114111)])) := by
              unfold ERow
              rw [ecells_append, List.length_append]
              exact Lib.hid hown2
            have HB2 : Hid (Below S w w2) := Lib.hid (((below_drewN HB.out _).alloc (by simpa using hszr) _).grown hgrow (by simp; omega) fun k hk => (hown'.out.lt k hk).1)
            clear hown2 hgrow hown'
            go_wp2
            go_roundw
            case rel => exact ⟨k + 1, ([] : List Rg) ++ [(e, 1114111)], by omega, by go_num, HR2.out, by simp at hol ⊢ <;> omega, by rw [HQ.out]; exact HFO2.out, by rw [HQ.out, ← HENV.out]; exact cinv_put (by omega) HRD.out _ _, HB2.out⟩
            case measure => simp [intOf]; omega
          · rw [List.concat_eq_append] at hrow hol HFO2 HCI HW
            obtain ⟨g, cap', rfl, h41, h42, hfr, hcell⟩ := hrow.at2 (by simp)
            obtain ⟨e2, e3⟩ := hcell l.length c (by simp)
            obtain ⟨i1, i2, i3⟩ := HCI.out l c rfl
            have i3 := i3 e _ rfl
            unfold most at i2
            have hfz := hfr (l.length * 2 + 1)
            have hl1 : (l ++ [c]).length = l.length + 1 := by simp
            rw [hl1] at hrow hol HW ⊢
            have HF := Lib.hid hfr
            clear hcell hrow hfr
            have w1 : IntKind.i64.wrap (c.2 + 1) = c.2 + 1 := IntWalk.i64_in _ (by omega)
            have w2' : IntKind.i64.wrap ((l.length : Int) + 1 - 1) = (l.length : Int) := by rw [IntWalk.i64_in _ (by omega)]; omega
            by_cases ht : c.2 + 1 = e
            · have ht' : (c.2 + 1 == e) = true := by simp [ht]
              have hfin : ∀ n, ERow ((wr.drewN n).setCell ⟨g, l.length * 2 + 1, none⟩ (.int .i64 1114111)) S (.slice (some ⟨g, 0, none⟩) (l.length + 1) cap') (l ++ [(c.1, 1114111)]) ∧ (l ++ [(c.1, 1114111)]).length ≤ k + 1 ∧ (pieces P (E.drop (k + 1))).foldl ofStep (l ++ [(c.1, 1114111)]) = R ∧ CInv (l ++ [(c.1, 1114111)]) (E.drop (k + 1)) ∧ Below S w ((wr.drewN n).setCell ⟨g, l.length * 2 + 1, none⟩ (.int .i64 1114111)) := fun n => by
                refine ⟨ERow.setHi (w := wr.drewN n) HW.out _, by simp; omega, ?_, ?_, (below_drewN HB.out n).setCell h41 _⟩
                · have := HFO2.out
                  rw [ofStep_snoc, if_pos (show e ≤ c.2 + 1 by omega), show max c.2 (e, 1114111).2 = 1114111 by have := HEN.out.1; rw [HENV.out] at this; show max c.2 1114111 = 1114111; omega] at this
                  rw [HQ.out]; exact this
                · rw [HQ.out, ← HENV.out]; exact cinv_put (by omega) HRD.out _ _
              have HFIN := Lib.hid hfin
              clear hfin ht
              go_wp2_with fail
              go_quiet (fail)
              go_wp2
              go_roundw
              case rel => exact ⟨k + 1, l ++ [(c.1, 1114111)], by omega, by go_num, HFIN.out _⟩
              case measure => simp [intOf]; omega
            · have ht' : (c.2 + 1 == e) = false := by simp [ht]
              have HFO3 := Lib.hid (show _ = R from HFO2.out)
              rw [ofStep_snoc, if_neg (show ¬ e ≤ c.2 + 1 by omega)] at HFO3
              have hown' := Lib.hid (show wr.ownsRow S 80 2 (.slice (some ⟨g, 0, none⟩) (l.length + 1) cap') (l.length + 1) (ecells (l ++ [c])) by
                have := HW.out
                unfold ERow at this
                rw [hl1] at this
                exact this)
              clear ht
              go_wp2_with fail
              go_quiet (fail)
              go_wp2_with (at_builtin; refine wpList_append_own _ rfl _ _ 24 rfl S 80 i0 _ 2 16 Tryd.underlying24 hi hz0 hz1 hz2 rfl (by decide) _ _ _ rfl (World.ownsRow.alloc (w := wr.drewN _) hown'.out _) ⟨wr.heap.size, 0, none⟩ 1 1 [.int .i64 e, .int .i64 1114111] rfl rfl ?d1 ?d2 ?d3 ?d4 ?d5 ?_)
              case d1 => exact newsE _ _ #[_, _] _
              case d2 => intro u hu; simp at hu; rcases hu with rfl | rfl <;> rfl
              case d3 => unfold maxLen; omega
              case d4 => omega
              case d5 => simp; omega
              intro v' w2 hown2 hgrow _
              have HR2 : Hid (ERow w2 S v' ((l ++ [c]) ++ [(e, 1114111)])) := by
                unfold ERow
                rw [ecells_append, List.length_append]
                rw [hl1]
                exact Lib.hid hown2
              have HB2 : Hid (Below S w w2) := Lib.hid (((below_drewN HB.out _).alloc (by simpa using hszr) _).grown hgrow (by simp; omega) fun k hk => (hown'.out.lt k hk).1)
              clear hown2 hgrow hown'
              go_wp2
              go_roundw
              case rel => exact ⟨k + 1, (l ++ [c]) ++ [(e, 1114111)], by omega, by go_num, HR2.out, by simp at hol ⊢ <;> omega, by rw [HQ.out]; exact HFO3.out, by rw [HQ.out, ← HENV.out]; exact cinv_put (by omega) HRD.out _ _, HB2.out⟩
              case measure => simp [intOf]; omega
      · have hkl : k + 1 < E.length := by have := congrArg List.length HQ.out; simp at this; omega
        have p5 : decide (((k + 1 : Nat) : Int) < (E.length : Int)) = true := decide_eq_true (by omega)
        have p5' : decide (k + 1 < E.length) = true := decide_eq_true (by omega)
        have p6 : (0 : Int) ≤ ((k + 1 : Nat) : Int) := by omega
        have p7 : ((k + 1 : Nat) : Int) < (E.length : Int) := by omega
        have cf := hcell1.out f (by have := congrArg (fun l => l[0]?) HQ.out; simpa using this)
        have hf1 : e + 1 ≤ f ∧ f ≤ 1114111 := ⟨HRD.out.2.2.1, HRD.out.2.2.2.1⟩
        have wf : IntKind.i64.wrap (f - 1) = f - 1 := IntWalk.i64_in _ (by omega)
        have hen : endE (f :: q) = f - 1 := rfl
        have HENV := Lib.hid hen
        clear hen
        cases pe with
        | false =>
          go_wp2_with fail
          go_roundw
          case rel => exact ⟨k + 1, out, by omega, by go_num, HW.out, by omega, by rw [HQ.out]; exact clean_skip HPE.out HFO.out, by rw [HQ.out]; exact cinv_skip HRD.out HCI.out, HB.out⟩
          case measure => simp [intOf]; omega
        | true =>
          have HFO2 := Lib.hid (clean_put HPE.out HFO.out)
          rw [HENV.out] at HFO2
          rcases List.eq_nil_or_concat out with rfl | ⟨l, c, rfl⟩
          · obtain ⟨A, cap', rfl⟩ := hrow.form
            have hown' := Lib.hid (show wr.ownsRow S 80 2 (.slice A ([] : List Rg).length cap') ([] : List Rg).length (ecells []) from HW.out)
            clear hrow
            go_wp2_with fail
            go_quiet (fail)
            go_wp2_with (at_builtin; refine wpList_append_own _ rfl _ _ 24 rfl S 80 i0 _ 2 16 Tryd.underlying24 hi hz0 hz1 hz2 rfl (by decide) _ _ _ rfl (World.ownsRow.alloc (w := wr.drewN _) hown'.out _) ⟨wr.heap.size, 0, none⟩ 1 1 [.int .i64 e, .int .i64 (f - 1)] rfl rfl ?c1 ?c2 ?c3 ?c4 ?c5 ?_)
            case c1 => exact newsE _ _ #[_, _] _
            case c2 => intro u hu; simp at hu; rcases hu with rfl | rfl <;> rfl
            case c3 => unfold maxLen; simp
            case c4 => simp
            case c5 => simp; omega
            intro v' w2 hown2 hgrow _
            have HR2 : Hid (ERow w2 S v' (([] : List Rg) ++ [(e, (f - 1))])) := by
              unfold ERow
              rw [ecells_append, List.length_append]
              exact Lib.hid hown2
            have HB2 : Hid (Below S w w2) := Lib.hid (((below_drewN HB.out _).alloc (by simpa using hszr) _).grown hgrow (by simp; omega) fun k hk => (hown'.out.lt k hk).1)
            clear hown2 hgrow hown'
            go_wp2
            go_roundw
            case rel => exact ⟨k + 1, ([] : List Rg) ++ [(e, (f - 1))], by omega, by go_num, HR2.out, by simp at hol ⊢ <;> omega, by rw [HQ.out]; exact HFO2.out, by rw [HQ.out, ← HENV.out]; exact cinv_put (by omega) HRD.out _ _, HB2.out⟩
            case measure => simp [intOf]; omega
          · rw [List.concat_eq_append] at hrow hol HFO2 HCI HW
            obtain ⟨g, cap', rfl, h41, h42, hfr, hcell⟩ := hrow.at2 (by simp)
            obtain ⟨e2, e3⟩ := hcell l.length c (by simp)
            obtain ⟨i1, i2, i3⟩ := HCI.out l c rfl
            have i3 := i3 e _ rfl
            unfold most at i2
            have hfz := hfr (l.length * 2 + 1)
            have hl1 : (l ++ [c]).length = l.length + 1 := by simp
            rw [hl1] at hrow hol HW ⊢
            have HF := Lib.hid hfr
            clear hcell hrow hfr
            have w1 : IntKind.i64.wrap (c.2 + 1) = c.2 + 1 := IntWalk.i64_in _ (by omega)
            have w2' : IntKind.i64.wrap ((l.length : Int) + 1 - 1) = (l.length : Int) := by rw [IntWalk.i64_in _ (by omega)]; omega
            by_cases ht : c.2 + 1 = e
            · have ht' : (c.2 + 1 == e) = true := by simp [ht]
              have hfin : ∀ n, ERow ((wr.drewN n).setCell ⟨g, l.length * 2 + 1, none⟩ (.int .i64 (f - 1))) S (.slice (some ⟨g, 0, none⟩) (l.length + 1) cap') (l ++ [(c.1, (f - 1))]) ∧ (l ++ [(c.1, (f - 1))]).length ≤ k + 1 ∧ (pieces P (E.drop (k + 1))).foldl ofStep (l ++ [(c.1, (f - 1))]) = R ∧ CInv (l ++ [(c.1, (f - 1))]) (E.drop (k + 1)) ∧ Below S w ((wr.drewN n).setCell ⟨g, l.length * 2 + 1, none⟩ (.int .i64 (f - 1))) := fun n => by
                refine ⟨ERow.setHi (w := wr.drewN n) HW.out _, by simp; omega, ?_, ?_, (below_drewN HB.out n).setCell h41 _⟩
                · have := HFO2.out
                  rw [ofStep_snoc, if_pos (show e ≤ c.2 + 1 by omega), show max c.2 (e, (f - 1)).2 = (f - 1) by have := HEN.out.1; rw [HENV.out] at this; show max c.2 (f - 1) = (f - 1); omega] at this
                  rw [HQ.out]; exact this
                · rw [HQ.out, ← HENV.out]; exact cinv_put (by omega) HRD.out _ _
              have HFIN := Lib.hid hfin
              clear hfin ht
              go_wp2_with fail
              go_quiet (fail)
              go_wp2
              go_roundw
              case rel => exact ⟨k + 1, l ++ [(c.1, (f - 1))], by omega, by go_num, HFIN.out _⟩
              case measure => simp [intOf]; omega
            · have ht' : (c.2 + 1 == e) = false := by simp [ht]
              have HFO3 := Lib.hid (show _ = R from HFO2.out)
              rw [ofStep_snoc, if_neg (show ¬ e ≤ c.2 + 1 by omega)] at HFO3
              have hown' := Lib.hid (show wr.ownsRow S 80 2 (.slice (some ⟨g, 0, none⟩) (l.length + 1) cap') (l.length + 1) (ecells (l ++ [c])) by
                have := HW.out
                unfold ERow at this
                rw [hl1] at this
                exact this)
              clear ht
              go_wp2_with fail
              go_quiet (fail)
              go_wp2_with (at_builtin; refine wpList_append_own _ rfl _ _ 24 rfl S 80 i0 _ 2 16 Tryd.underlying24 hi hz0 hz1 hz2 rfl (by decide) _ _ _ rfl (World.ownsRow.alloc (w := wr.drewN _) hown'.out _) ⟨wr.heap.size, 0, none⟩ 1 1 [.int .i64 e, .int .i64 (f - 1)] rfl rfl ?d1 ?d2 ?d3 ?d4 ?d5 ?_)
              case d1 => exact newsE _ _ #[_, _] _
              case d2 => intro u hu; simp at hu; rcases hu with rfl | rfl <;> rfl
              case d3 => unfold maxLen; omega
              case d4 => omega
              case d5 => simp; omega
              intro v' w2 hown2 hgrow _
              have HR2 : Hid (ERow w2 S v' ((l ++ [c]) ++ [(e, (f - 1))])) := by
                unfold ERow
                rw [ecells_append, List.length_append]
                rw [hl1]
                exact Lib.hid hown2
              have HB2 : Hid (Below S w w2) := Lib.hid (((below_drewN HB.out _).alloc (by simpa using hszr) _).grown hgrow (by simp; omega) fun k hk => (hown'.out.lt k hk).1)
              clear hown2 hgrow hown'
              go_wp2
              go_roundw
              case rel => exact ⟨k + 1, (l ++ [c]) ++ [(e, (f - 1))], by omega, by go_num, HR2.out, by simp at hol ⊢ <;> omega, by rw [HQ.out]; exact HFO3.out, by rw [HQ.out, ← HENV.out]; exact cinv_put (by omega) HRD.out _ _, HB2.out⟩
              case measure => simp [intOf]; omega
    · have p1 : decide ((k : Int) < (E.length : Int)) = false := decide_eq_false (by omega)
      have p1' : decide (k < E.length) = false := decide_eq_false hlt
      rw [List.drop_eq_nil_of_le (by omega)] at hfold
      obtain rfl : out = R := hfold
      have HW := Lib.hid hrow
      clear hrow hB hci
      go_wp2_with fail
      go_ret
      exact ⟨_, rfl, HW.out, by omega, HB.out⟩

end Go.Proofs.YtfjlhfalnciamaaDoor.Chars
