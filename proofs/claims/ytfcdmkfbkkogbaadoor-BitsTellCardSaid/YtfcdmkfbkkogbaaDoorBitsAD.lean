/- The law of BitsTell, walked. -/
import Derived.Test.YtfcdmkfbkkogbaaDoorBitsAC
import Derived.Deep.RegionHeld3
import Derived.Deep.AppendLies
namespace Go.Proofs.YtfcdmkfbkkogbaaDoor.Bits
open Go Go.RowKit

/-- What is kept of a set beside: its words, the table. -/
def Kept (w : World) (S : Nat) (v : Value) (l : List Nat) (wk : World) : Prop := Words wk v l ∧ Tab wk ∧ Below S w wk ∧ S ≤ wk.heap.size
theorem Kept.next {w wk w' : World} {S : Nat} {v : Value} {l : List Nat} (h : Kept w S v l wk) (hb : Below wk.heap.size wk w') : Kept w S v l w' :=
  ⟨h.1.stay hb, h.2.1.stay hb, h.2.2.1.trans (hb.mono h.2.2.2), Nat.le_trans h.2.2.2 hb.size⟩
theorem Kept.like {w wk w' : World} {S : Nat} {v : Value} {l : List Nat} (h : Kept w S v l wk) (hb : Like w' wk) : Kept w S v l w' := h.next (hb.below _)

set_option maxRecDepth 100000 in
theorem tell_long {w : World} {v : Value} {l : List Nat} {n : Int} (H : Words w v l) (h : 30 < l.length) :
    Calls Tryd.prog 14 #[v, .int .i64 n] w fun e w' => e = .returned (.bool true) ∧ Below w.heap.size w w' := by
  have HL := H.len
  clear H
  have h1 : (30 : Int) < l.length := by omega
  have h2 : decide ((30 : Int) < l.length) = true := decide_eq_true h1
  go_enter Tryd.func14, Tryd.ntmps14
  go_wp2
  go_ret
  exact ⟨rfl, Below.refl _ _⟩

theorem Three.pushL {w w' : World} {S x n g cap H : Nat} {v1 v2 v3 : Value} {L1 L2 L3 : List Nat} (h : Three w S v1 v2 v3 L1 L2 L3) (hn : n = L1.length) (ho : w'.ownsRow S 3 1 (.slice (some ⟨g, 0, none⟩) (n + 1) cap) (n + 1) (ints L1 ++ [.int .i64 (x : Int)])) (hg : w.grownBy w' v1.ownBlock)
    (hb : v1.ownBlock = some g ∨ g = H) (hH : w.heap.size = H) : Three w' S (.slice (some ⟨g, 0, none⟩) (n + 1) cap) v2 v3 (L1 ++ [x]) L2 L3 := by
  subst hn
  refine h.push ho hg ?_
  rcases hb with e | e
  · left; rw [e]; rfl
  · right; rw [hH, ← e]; rfl
theorem Three.drew {w : World} {S : Nat} {v1 v2 v3 : Value} {L1 L2 L3 : List Nat} (h : Three w S v1 v2 v3 L1 L2 L3) : Three w.drew S v1 v2 v3 L1 L2 L3 := h

theorem own_lo {w : World} {S : Nat} {v1 v2 v3 : Value} {L1 L2 L3 : List Nat} (h : Three w S v1 v2 v3 L1 L2 L3) (k : Nat) (hk : v1.ownBlock = some k ∨ v2.ownBlock = some k) : S ≤ k :=
  hk.elim (fun e => (h.1.lt k e).1) fun e => (h.2.1.lt k e).1

set_option maxRecDepth 100000 in
set_option maxHeartbeats 16000000 in
theorem tell_walk {w : World} {v : Value} {l : List Nat} {n : Int} (H : Words w v l) (hl : ¬ 30 < l.length) (T : Tab w) (hn1 : -9223372036854775808 ≤ n) (hn2 : n ≤ 9223372036854775807) :
    Calls Tryd.prog 14 #[v, .int .i64 n] w fun e w' => e = .returned (.bool true) ∧ Below w.heap.size w w' := by
  obtain ⟨i0, hi, hz0, hz1, hz2⟩ := info_parts info3
  have HL := H.len
  have h1 : ¬ (30 : Int) < l.length := by omega
  have h2 : decide ((30 : Int) < l.length) = false := decide_eq_false h1
  have HLR := Lib.hid (list_ref H)
  have BL := Lib.hid H.bound
  have HH := Lib.hid H
  have HT := Lib.hid T
  obtain ⟨S, hS⟩ : ∃ S, S = w.heap.size := ⟨_, rfl⟩
  have hsz : S ≤ w.heap.size := by omega
  have HS := Lib.hid hS
  obtain ⟨L, hL⟩ : ∃ L, L = allOf l := ⟨_, rfl⟩
  have HLE := Lib.hid hL
  have hLb : L.length ≤ 65536 := by rw [hL]; exact filt_length_le _ _ _
  rw [← hL, ← hS] at HLR
  rw [← hS]
  clear H T hl hS hL
  go_enter Tryd.func14, Tryd.ntmps14
  go_wp2_with fail
  refine HLR.out.mono ?_
  rintro e w1 ⟨vL, rfl, hown, hB⟩
  have HO := Lib.hid hown
  have HB1 := Lib.hid hB
  have HLL := own_len hown
  clear hown hB HLR
  go_upto_region 6 with fail
  go_cut [9] (fun hb wx => hb = .bool (outOf n) ∧ wx = w1)
  case first =>
    by_cases ha : n < 0
    · have ha2 : decide (n < 0) = true := decide_eq_true ha
      have hb : outOf n = true := by unfold outOf; rw [ha2]; rfl
      have HBB := Lib.hid hb
      clear hb
      go_wp2_with fail
      go_meet
      exact ⟨by rw [HBB.out], rfl⟩
    · have ha2 : decide (n < 0) = false := decide_eq_false ha
      have hb : outOf n = decide (65536 ≤ n) := by unfold outOf; rw [ha2]; rfl
      have HBB := Lib.hid hb
      clear hb
      go_wp2_with fail
      go_meet
      exact ⟨by rw [HBB.out], rfl⟩
  case rest =>
    obtain ⟨rfl, rfl⟩ := hcut
    go_wp2_with fail
    go_loopg [6, 7, 8, 9, 10] L.length (fun g nx v1 v2 hb i wx => ∃ j : Nat, j ≤ L.length ∧ g = L.length - j ∧ nx = .int .i64 (nextTo n L j) ∧ hb = .bool (hadTo n L j) ∧ i = .int .i64 j ∧ (withTo n L j).length ≤ 2 * j ∧ (withoutTo n L j).length ≤ j ∧ Three wx S v1 v2 vL (withTo n L j) (withoutTo n L j) L ∧ Below S w wx)
    case atStart =>
      have k : ∀ u : Value, apart (.slice none 0 0) u := fun u g h => by simp [Value.ownBlock] at h
      exact ⟨0, Nat.zero_le _, rfl, rfl, rfl, rfl, Nat.le_refl _, Nat.le_refl _, ⟨⟨rfl, .inl ⟨rfl, rfl⟩⟩, ⟨rfl, .inl ⟨rfl, rfl⟩⟩, HO.out, k _, k _, k _⟩, HB1.out⟩
    case round =>
      obtain ⟨j, hj, hgk, rfl, rfl, rfl, hw1, hw2, hT3, hB⟩ := hrel
      by_cases hlt : j < L.length
      · obtain ⟨x, hx⟩ : ∃ x, L[j]? = some x := ⟨L[j], List.getElem?_eq_getElem _⟩
        have HX := Lib.hid hx
        have ex : L.getD j 0 = x := by rw [List.getD_eq_getElem?_getD, hx]; rfl
        obtain ⟨gL, capL, rfl⟩ : ∃ g cap, vL = .slice (some ⟨g, 0, none⟩) L.length cap := by
          rcases HO.out.2 with ⟨_, h⟩ | ⟨g, cap, _, rfl, _⟩
          · omega
          · exact ⟨g, cap, rfl⟩
        have hcell : wr.cell? ⟨gL, j, none⟩ = some (.int .i64 (x : Int)) := by
          rw [hT3.2.2.1.cellAt j (by omega)]
          unfold ints
          rw [List.getElem?_map, hx]; rfl
        have hgl : gL < wr.heap.size := own_block_lt hT3.2.2.1 rfl
        have hszr : S ≤ wr.heap.size := Nat.le_trans hsz hB.size
        obtain ⟨q, hq⟩ : ∃ q, q = nextTo n L j := ⟨_, rfl⟩
        obtain ⟨W1, hW1⟩ : ∃ W, W = withTo n L j := ⟨_, rfl⟩
        obtain ⟨W2, hW2⟩ : ∃ W, W = withoutTo n L j := ⟨_, rfl⟩
        obtain ⟨hb, hhb⟩ : ∃ b, b = hadTo n L j := ⟨_, rfl⟩
        obtain ⟨t1, ht1⟩ : ∃ t, t = decide (q < 0 ∧ n ≤ (x : Int)) := ⟨_, rfl⟩
        obtain ⟨t2, ht2⟩ : ∃ t, t = (!hb && decide (n ≤ (x : Int))) := ⟨_, rfl⟩
        obtain ⟨q2, hq2⟩ : ∃ t, t = nextTo n L (j + 1) := ⟨_, rfl⟩
        obtain ⟨hb2, hhb2⟩ : ∃ t, t = hadTo n L (j + 1) := ⟨_, rfl⟩
        obtain ⟨M1, hM1⟩ : ∃ W, W = withMid n L j := ⟨_, rfl⟩
        have EQ2 := Lib.hid (show q2 = if t1 = true then (x : Int) else q by rw [hq2, nextTo, ex, ← hq, ht1]; simp only [decide_eq_true_eq])
        have EH2 : Hid (hb2 = (hb || t2)) := by rw [hhb2, hadTo, ex, ← hhb, ht2]; cases hb <;> exact rfl
        have EM := Lib.hid (show M1 = if t2 = true then W1 ++ [n.toNat] else W1 by
          rw [hM1, withMid, ex, ← hhb, ← hW1, ht2]
          cases hb <;> simp)
        have EW : Hid (withTo n L (j + 1) = if (x : Int) = n then M1 else M1 ++ [x]) := by
          by_cases e : (x : Int) = n
          · rw [if_pos e, withTo_eq (by rw [ex]; exact e), hM1]; exact rfl
          · rw [if_neg e, withTo_ne (by rw [ex]; exact e), hM1, ex]; exact rfl
        have EWO : Hid (withoutTo n L (j + 1) = if (x : Int) = n then W2 else W2 ++ [x]) := by rw [withoutTo, ex, ← hW2]; exact rfl
        have OUT : Hid (t2 = true → n = ((n.toNat : Nat) : Int)) := by
          intro h
          rw [ht2, Bool.and_eq_true, Bool.not_eq_true'] at h
          have : ∀ j, hadTo n L j = false → outOf n = false := fun j => by
            induction j with
            | zero => intro h; exact h
            | succ j ih => intro h; rw [hadTo, Bool.or_eq_false_iff] at h; exact ih h.1
          have := (out_false (this j (by rw [← hhb]; exact h.1))).1
          omega
        rw [← hq, ← hhb]
        rw [← hW1] at hT3 hw1
        rw [← hW2] at hT3 hw2
        have T1 := Lib.hid hT3
        have B1 := Lib.hid hB
        have HT1 := Lib.hid ht1
        have HT2 := Lib.hid ht2
        have HQ2 := Lib.hid hq2
        have HHB2 := Lib.hid hhb2
        have HGK := Lib.hid hgk
        clear hT3 hB hq hW1 hW2 hhb hx ex HO HB1 HH HT BL HLE ht1 ht2 hq2 hhb2 hM1 hgk
        go_upto_region 10 with fail
        go_cut [39] (fun t wx => t = .bool t1 ∧ wr = wx)
        case first =>
          by_cases hq0 : q < 0
          · have dq : decide (q < 0) = true := decide_eq_true hq0
            by_cases hc2 : n ≤ (x : Int)
            · have dc2 : decide (n ≤ (x : Int)) = true := decide_eq_true hc2
              have HE : Hid (t1 = true) := by rw [HT1.out]; exact decide_eq_true ⟨hq0, hc2⟩
              go_wp2_with fail
              go_meet
              exact ⟨by rw [HE.out], rfl⟩
            · have dc2 : decide (n ≤ (x : Int)) = false := decide_eq_false hc2
              have HE : Hid (t1 = false) := by rw [HT1.out]; exact decide_eq_false fun h => hc2 h.2
              go_wp2_with fail
              go_meet
              exact ⟨by rw [HE.out], rfl⟩
          · have dq : decide (q < 0) = false := decide_eq_false hq0
            have HE : Hid (t1 = false) := by rw [HT1.out]; exact decide_eq_false fun h => hq0 h.1
            go_wp2_with fail
            go_meet
            exact ⟨by rw [HE.out], rfl⟩
        case rest =>
          obtain ⟨rfl, rfl⟩ := hcut
          go_upto_if 39 with fail
          go_cut [6] (fun nx wx => nx = .int .i64 q2 ∧ wr = wx)
          case first =>
            cases t1 with
            | true =>
              go_wp2_with fail
              go_meet
              exact ⟨by rw [EQ2.out]; rfl, rfl⟩
            | false =>
              go_wp2_with fail
              go_meet
              exact ⟨by rw [EQ2.out]; rfl, rfl⟩
          case rest =>
            obtain ⟨rfl, rfl⟩ := hcut
            go_upto_region 12 with fail
            go_cut [53] (fun t wx => t = .bool t2 ∧ wr = wx)
            case first =>
              by_cases hc2 : n ≤ (x : Int)
              · have dc2 : decide (n ≤ (x : Int)) = true := decide_eq_true hc2
                cases hb with
                | true =>
                  have HE : Hid (t2 = false) := by rw [HT2.out]; exact rfl
                  go_wp2_with fail
                  go_meet
                  exact ⟨by rw [HE.out], rfl⟩
                | false =>
                  have HE : Hid (t2 = true) := by rw [HT2.out, dc2]; exact rfl
                  go_wp2_with fail
                  go_meet
                  exact ⟨by rw [HE.out], rfl⟩
              · have dc2 : decide (n ≤ (x : Int)) = false := decide_eq_false hc2
                have HE : Hid (t2 = false) := by rw [HT2.out, dc2]; cases hb <;> exact rfl
                cases hb with
                | true =>
                  go_wp2_with fail
                  go_meet
                  exact ⟨by rw [HE.out], rfl⟩
                | false =>
                  go_wp2_with fail
                  go_meet
                  exact ⟨by rw [HE.out], rfl⟩
            case rest =>
              obtain ⟨rfl, rfl⟩ := hcut
              go_upto_if 53 with fail
              go_cut [7, 9] (fun v h wx => h = .bool hb2 ∧ M1.length ≤ 2 * j + 1 ∧ Three wx S v u8 (.slice (some ⟨gL, 0, none⟩) L.length capL) M1 W2 L ∧ Below S w wx)
              case first =>
                cases t2 with
                | true =>
                  have hnm : n = ((n.toNat : Nat) : Int) := OUT.out rfl
                  have HNM := Lib.hid hnm
                  have hown := T1.out.1
                  clear hnm
                  go_wp2_with (at_builtin; refine wpList_append_own_at _ rfl _ _ 51 rfl S 3 i0 (.int .i64 0) 1 8 Tryd.underlying51 hi hz0 hz1 hz2 rfl (by decide) _ _ _ rfl (hown.alloc _) ⟨wr.heap.size, 0, none⟩ 1 1 [.int .i64 n] rfl rfl (by intro jj u hj; cases jj <;> simp at hj; subst hj; simp [Addr.add]) (by intro u hu; simp at hu; subst hu; rfl) (by unfold maxLen; omega) (by omega) (by simp; omega) ?_)
                  intro v13 wn hown' hgrow _ hat
                  have T0 := Lib.hid ((T1.out.alloc _).push (x := n.toNat) (by rw [← HNM.out]; exact hown') hgrow (by simpa using hat))
                  have B0 : Hid (Below S w wn) := ((B1.out.alloc hszr _).grown hgrow (by simp; omega) fun k hk => (hown.lt k hk).1)
                  clear hown' hgrow hat hown
                  go_wp2_with fail
                  go_meet
                  exact ⟨by rw [EH2.out]; simp, by rw [EM.out]; simp; omega, by rw [EM.out]; exact T0.out, B0.out⟩
                | false =>
                  go_wp2_with fail
                  go_meet
                  exact ⟨by rw [EH2.out]; simp, by rw [EM.out]; simp; omega, by rw [EM.out]; exact T1.out, B1.out⟩
              case rest =>
                obtain ⟨rfl, hm1, hT2, hB2⟩ := hcut
                have hcell2 : wc.cell? ⟨gL, j, none⟩ = some (.int .i64 (x : Int)) := by
                  rw [hT2.2.2.1.cellAt j (by omega)]
                  unfold ints
                  rw [List.getElem?_map, HX.out]; rfl
                have hgl2 : gL < wc.heap.size := own_block_lt hT2.2.2.1 rfl
                have hszr2 : S ≤ wc.heap.size := Nat.le_trans hsz hB2.size
                have T4 := Lib.hid hT2
                have B4 := Lib.hid hB2
                clear hT2 hB2 T1 B1 hcell hgl hszr EQ2 EH2 EM OUT HT1 HT2
                have T1 := T4
                have B1 := B4
                have hcell := hcell2
                have hgl := hgl2
                have hszr := hszr2
                clear T4 B4 hcell2 hgl2 hszr2
                by_cases hxn : (x : Int) = n
                · have dxn : ((x : Int) != n) = false := by simp [hxn]
                  have EW2 : Hid (withTo n L (j + 1) = M1) := by rw [EW.out]; exact if_pos hxn
                  have EWO2 : Hid (withoutTo n L (j + 1) = W2) := by rw [EWO.out]; exact if_pos hxn
                  clear hxn EW EWO
                  go_wp2_with fail
                  go_roundg (L.length - (j + 1))
                  case rel => exact ⟨j + 1, by omega, rfl, by rw [HQ2.out], by rw [HHB2.out], by go_num, by rw [EW2.out]; omega, by rw [EWO2.out]; omega, by rw [EW2.out, EWO2.out]; exact T1.out, B1.out⟩
                  case measure => rw [HGK.out]; omega
                · have dxn : ((x : Int) != n) = true := by simpa using hxn
                  have EW2 : Hid (withTo n L (j + 1) = M1 ++ [x]) := by rw [EW.out]; exact if_neg hxn
                  have EWO2 : Hid (withoutTo n L (j + 1) = W2 ++ [x]) := by rw [EWO.out]; exact if_neg hxn
                  clear hxn EW EWO
                  have hgl1 : gL < wc.heap.size := by assumption
                  have N1 : some gL ≠ u7.ownBlock := fun e => T1.out.2.2.2.2.1 gL e.symm rfl
                  have N2 : some gL ≠ u8.ownBlock := fun e => T1.out.2.2.2.2.2 gL e.symm rfl
                  have NA : ∀ q, wc.heap.size ≤ q → some q ≠ u7.ownBlock := fun q hq e => by have := own_block_lt T1.out.1 e.symm; omega
                  have NB : ∀ q, wc.heap.size ≤ q → some q ≠ u8.ownBlock := fun q hq e => by have := own_block_lt T1.out.2.1 e.symm; omega
                  go_wp2_with fail
                  go_region_held3 (fun w' => w'.cell? ⟨gL, j, none⟩ = some (.int .i64 (x : Int)))
                    (first
                      | go_keep
                      | (rw [hgrow.cell_far _ (by simp; omega) N1]; assumption)
                      | (rw [hgrow.cell_far _ (by simp; omega) N2]; assumption))
                    (first
                      | (refine step_append_lies _ (by rfl) _ _ _ (by rfl) S 3 i0 _ 1 8 Tryd.underlying51 hi hz0 hz1 hz2 rfl (by omega) u7 _ _ (by rfl) (((T1.out).alloc _).drew).1 ⟨wc.heap.size, 0, none⟩ 1 1 [.int .i64 (x : Int)] (by rfl) (by rfl) (by intro jj u hj; cases jj <;> simp at hj; subst hj; simp [Addr.add]) (by simp [Value.oneCell']) (by omega) (by unfold maxLen; omega) (by omega) (by first | omega | (simp; omega)) (wc.heap.size + 1) (by first | rfl | simp) ?_; intro gg cap w5 hown1 hgrow hat hlt5; have T2 := Lib.hid (((((T1.out).alloc _).drew).pushL rfl hown1 hgrow hat (by first | rfl | simp))); have B2 : Hid (Below S w w5) := Lib.hid (((B1.out.alloc (by first | exact hszr | (simp; omega)) _).drew).grown hgrow (by simp; omega) fun k hk => by have := own_lo T1.out k (by first | exact .inl hk | exact .inr hk); exact this); have hz5 : wc.heap.size + 1 ≤ w5.heap.size := Nat.le_trans (by simp) hgrow.size; have tc0 : w5.cell? ⟨wc.heap.size, 0, none⟩ = some (.int .i64 (x : Int)) := (hgrow.cell_far _ (by first | (simp; done) | (simp; omega)) (NA _ (by first | (simp; done) | (simp; omega)))).trans (by simp); clear hown1 hat hlt5)
                      | (refine step_append_lies _ (by rfl) _ _ _ (by rfl) S 3 i0 _ 1 8 Tryd.underlying51 hi hz0 hz1 hz2 rfl (by omega) u7 _ _ (by rfl) ((((T1.out).alloc _).alloc _).drew).1 ⟨wc.heap.size, 0, none⟩ 1 1 [.int .i64 (x : Int)] (by rfl) (by rfl) (by intro jj u hj; cases jj <;> simp at hj; subst hj; simp [Addr.add]) (by simp [Value.oneCell']) (by omega) (by unfold maxLen; omega) (by omega) (by first | omega | (simp; omega)) (wc.heap.size + 2) (by first | rfl | simp) ?_; intro gg cap w5 hown1 hgrow hat hlt5; have T2 := Lib.hid ((((((T1.out).alloc _).alloc _).drew).pushL rfl hown1 hgrow hat (by first | rfl | simp))); have B2 : Hid (Below S w w5) := Lib.hid ((((B1.out.alloc (by first | exact hszr | (simp; omega)) _).alloc (by first | exact hszr | (simp; omega)) _).drew).grown hgrow (by simp; omega) fun k hk => by have := own_lo T1.out k (by first | exact .inl hk | exact .inr hk); exact this); have hz5 : wc.heap.size + 2 ≤ w5.heap.size := Nat.le_trans (by simp) hgrow.size; have tc0 : w5.cell? ⟨wc.heap.size, 0, none⟩ = some (.int .i64 (x : Int)) := (hgrow.cell_far _ (by first | (simp; done) | (simp; omega)) (NA _ (by first | (simp; done) | (simp; omega)))).trans (by simp); have tc1 : w5.cell? ⟨wc.heap.size + 1, 0, none⟩ = some (.int .i64 (x : Int)) := (hgrow.cell_far _ (by first | (simp; done) | (simp; omega)) (NA _ (by first | (simp; done) | (simp; omega)))).trans (by simp); clear hown1 hat hlt5)
                      | (refine step_append_lies _ (by rfl) _ _ _ (by rfl) S 3 i0 _ 1 8 Tryd.underlying51 hi hz0 hz1 hz2 rfl (by omega) u7 _ _ (by rfl) ((((T1.out).alloc _).alloc _).drew).1 ⟨wc.heap.size + 1, 0, none⟩ 1 1 [.int .i64 (x : Int)] (by rfl) (by rfl) (by intro jj u hj; cases jj <;> simp at hj; subst hj; simp [Addr.add]) (by simp [Value.oneCell']) (by omega) (by unfold maxLen; omega) (by omega) (by first | omega | (simp; omega)) (wc.heap.size + 2) (by first | rfl | simp) ?_; intro gg cap w5 hown1 hgrow hat hlt5; have T2 := Lib.hid ((((((T1.out).alloc _).alloc _).drew).pushL rfl hown1 hgrow hat (by first | rfl | simp))); have B2 : Hid (Below S w w5) := Lib.hid ((((B1.out.alloc (by first | exact hszr | (simp; omega)) _).alloc (by first | exact hszr | (simp; omega)) _).drew).grown hgrow (by simp; omega) fun k hk => by have := own_lo T1.out k (by first | exact .inl hk | exact .inr hk); exact this); have hz5 : wc.heap.size + 2 ≤ w5.heap.size := Nat.le_trans (by simp) hgrow.size; have tc0 : w5.cell? ⟨wc.heap.size, 0, none⟩ = some (.int .i64 (x : Int)) := (hgrow.cell_far _ (by first | (simp; done) | (simp; omega)) (NA _ (by first | (simp; done) | (simp; omega)))).trans (by simp); have tc1 : w5.cell? ⟨wc.heap.size + 1, 0, none⟩ = some (.int .i64 (x : Int)) := (hgrow.cell_far _ (by first | (simp; done) | (simp; omega)) (NA _ (by first | (simp; done) | (simp; omega)))).trans (by simp); clear hown1 hat hlt5)
                      | (refine step_append_lies _ (by rfl) _ _ _ (by rfl) S 3 i0 _ 1 8 Tryd.underlying51 hi hz0 hz1 hz2 rfl (by omega) u8 _ _ (by rfl) (((T1.out.swap12).alloc _).drew).1 ⟨wc.heap.size, 0, none⟩ 1 1 [.int .i64 (x : Int)] (by rfl) (by rfl) (by intro jj u hj; cases jj <;> simp at hj; subst hj; simp [Addr.add]) (by simp [Value.oneCell']) (by omega) (by unfold maxLen; omega) (by omega) (by first | omega | (simp; omega)) (wc.heap.size + 1) (by first | rfl | simp) ?_; intro gg cap w5 hown1 hgrow hat hlt5; have T2 := Lib.hid (((((T1.out.swap12).alloc _).drew).pushL rfl hown1 hgrow hat (by first | rfl | simp)).swap12); have B2 : Hid (Below S w w5) := Lib.hid (((B1.out.alloc (by first | exact hszr | (simp; omega)) _).drew).grown hgrow (by simp; omega) fun k hk => by have := own_lo T1.out k (by first | exact .inl hk | exact .inr hk); exact this); have hz5 : wc.heap.size + 1 ≤ w5.heap.size := Nat.le_trans (by simp) hgrow.size; have tc0 : w5.cell? ⟨wc.heap.size, 0, none⟩ = some (.int .i64 (x : Int)) := (hgrow.cell_far _ (by first | (simp; done) | (simp; omega)) (NB _ (by first | (simp; done) | (simp; omega)))).trans (by simp); clear hown1 hat hlt5)
                      | (refine step_append_lies _ (by rfl) _ _ _ (by rfl) S 3 i0 _ 1 8 Tryd.underlying51 hi hz0 hz1 hz2 rfl (by omega) u8 _ _ (by rfl) ((((T1.out.swap12).alloc _).alloc _).drew).1 ⟨wc.heap.size, 0, none⟩ 1 1 [.int .i64 (x : Int)] (by rfl) (by rfl) (by intro jj u hj; cases jj <;> simp at hj; subst hj; simp [Addr.add]) (by simp [Value.oneCell']) (by omega) (by unfold maxLen; omega) (by omega) (by first | omega | (simp; omega)) (wc.heap.size + 2) (by first | rfl | simp) ?_; intro gg cap w5 hown1 hgrow hat hlt5; have T2 := Lib.hid ((((((T1.out.swap12).alloc _).alloc _).drew).pushL rfl hown1 hgrow hat (by first | rfl | simp)).swap12); have B2 : Hid (Below S w w5) := Lib.hid ((((B1.out.alloc (by first | exact hszr | (simp; omega)) _).alloc (by first | exact hszr | (simp; omega)) _).drew).grown hgrow (by simp; omega) fun k hk => by have := own_lo T1.out k (by first | exact .inl hk | exact .inr hk); exact this); have hz5 : wc.heap.size + 2 ≤ w5.heap.size := Nat.le_trans (by simp) hgrow.size; have tc0 : w5.cell? ⟨wc.heap.size, 0, none⟩ = some (.int .i64 (x : Int)) := (hgrow.cell_far _ (by first | (simp; done) | (simp; omega)) (NB _ (by first | (simp; done) | (simp; omega)))).trans (by simp); have tc1 : w5.cell? ⟨wc.heap.size + 1, 0, none⟩ = some (.int .i64 (x : Int)) := (hgrow.cell_far _ (by first | (simp; done) | (simp; omega)) (NB _ (by first | (simp; done) | (simp; omega)))).trans (by simp); clear hown1 hat hlt5)
                      | (refine step_append_lies _ (by rfl) _ _ _ (by rfl) S 3 i0 _ 1 8 Tryd.underlying51 hi hz0 hz1 hz2 rfl (by omega) u8 _ _ (by rfl) ((((T1.out.swap12).alloc _).alloc _).drew).1 ⟨wc.heap.size + 1, 0, none⟩ 1 1 [.int .i64 (x : Int)] (by rfl) (by rfl) (by intro jj u hj; cases jj <;> simp at hj; subst hj; simp [Addr.add]) (by simp [Value.oneCell']) (by omega) (by unfold maxLen; omega) (by omega) (by first | omega | (simp; omega)) (wc.heap.size + 2) (by first | rfl | simp) ?_; intro gg cap w5 hown1 hgrow hat hlt5; have T2 := Lib.hid ((((((T1.out.swap12).alloc _).alloc _).drew).pushL rfl hown1 hgrow hat (by first | rfl | simp)).swap12); have B2 : Hid (Below S w w5) := Lib.hid ((((B1.out.alloc (by first | exact hszr | (simp; omega)) _).alloc (by first | exact hszr | (simp; omega)) _).drew).grown hgrow (by simp; omega) fun k hk => by have := own_lo T1.out k (by first | exact .inl hk | exact .inr hk); exact this); have hz5 : wc.heap.size + 2 ≤ w5.heap.size := Nat.le_trans (by simp) hgrow.size; have tc0 : w5.cell? ⟨wc.heap.size, 0, none⟩ = some (.int .i64 (x : Int)) := (hgrow.cell_far _ (by first | (simp; done) | (simp; omega)) (NB _ (by first | (simp; done) | (simp; omega)))).trans (by simp); have tc1 : w5.cell? ⟨wc.heap.size + 1, 0, none⟩ = some (.int .i64 (x : Int)) := (hgrow.cell_far _ (by first | (simp; done) | (simp; omega)) (NB _ (by first | (simp; done) | (simp; omega)))).trans (by simp); clear hown1 hat hlt5)
                      | (refine step_append_lies _ (by rfl) _ _ _ (by rfl) S 3 i0 _ 1 8 Tryd.underlying51 hi hz0 hz1 hz2 rfl (by omega) u7 _ _ (by rfl) ((T2.out).alloc _).1 ⟨w5.heap.size, 0, none⟩ 1 1 [.int .i64 (x : Int)] (by rfl) (by rfl) (by intro jj u hj; cases jj <;> simp at hj; subst hj; simp [Addr.add]) (by simp [Value.oneCell']) (by omega) (by unfold maxLen; omega) (by omega) (by first | omega | (simp; omega)) (w5.heap.size + 1) (by first | rfl | simp) ?_; intro gg cap w6 hown1 hgrow hat hlt5; have T3 := Lib.hid ((((T2.out).alloc _).pushL rfl hown1 hgrow hat (by first | rfl | simp))); have B3 : Hid (Below S w w6) := Lib.hid ((B2.out.alloc (by omega) _).grown hgrow (by simp; omega) fun k hk => by have := own_lo T2.out k (by first | exact .inl hk | exact .inr hk); exact this); clear hown1 hat hlt5)
                      | (refine step_append_lies _ (by rfl) _ _ _ (by rfl) S 3 i0 _ 1 8 Tryd.underlying51 hi hz0 hz1 hz2 rfl (by omega) u7 _ _ (by rfl) (T2.out).1 ⟨wc.heap.size, 0, none⟩ 1 1 [.int .i64 (x : Int)] (by rfl) (by rfl) (by intro jj u hj; cases jj <;> simp at hj; subst hj; simpa [Addr.add] using tc0) (by simp [Value.oneCell']) (by omega) (by unfold maxLen; omega) (by omega) (by first | omega | (simp; omega)) (w5.heap.size) (by first | rfl | simp) ?_; intro gg cap w6 hown1 hgrow hat hlt5; have T3 := Lib.hid (((T2.out).pushL rfl hown1 hgrow hat (by first | rfl | simp))); have B3 : Hid (Below S w w6) := Lib.hid (B2.out.grown hgrow (by omega) fun k hk => by have := own_lo T2.out k (by first | exact .inl hk | exact .inr hk); exact this); clear hown1 hat hlt5)
                      | (refine step_append_lies _ (by rfl) _ _ _ (by rfl) S 3 i0 _ 1 8 Tryd.underlying51 hi hz0 hz1 hz2 rfl (by omega) u7 _ _ (by rfl) (T2.out).1 ⟨wc.heap.size + 1, 0, none⟩ 1 1 [.int .i64 (x : Int)] (by rfl) (by rfl) (by intro jj u hj; cases jj <;> simp at hj; subst hj; simpa [Addr.add] using tc1) (by simp [Value.oneCell']) (by omega) (by unfold maxLen; omega) (by omega) (by first | omega | (simp; omega)) (w5.heap.size) (by first | rfl | simp) ?_; intro gg cap w6 hown1 hgrow hat hlt5; have T3 := Lib.hid (((T2.out).pushL rfl hown1 hgrow hat (by first | rfl | simp))); have B3 : Hid (Below S w w6) := Lib.hid (B2.out.grown hgrow (by omega) fun k hk => by have := own_lo T2.out k (by first | exact .inl hk | exact .inr hk); exact this); clear hown1 hat hlt5)
                      | (refine step_append_lies _ (by rfl) _ _ _ (by rfl) S 3 i0 _ 1 8 Tryd.underlying51 hi hz0 hz1 hz2 rfl (by omega) u8 _ _ (by rfl) ((T2.out.swap12).alloc _).1 ⟨w5.heap.size, 0, none⟩ 1 1 [.int .i64 (x : Int)] (by rfl) (by rfl) (by intro jj u hj; cases jj <;> simp at hj; subst hj; simp [Addr.add]) (by simp [Value.oneCell']) (by omega) (by unfold maxLen; omega) (by omega) (by first | omega | (simp; omega)) (w5.heap.size + 1) (by first | rfl | simp) ?_; intro gg cap w6 hown1 hgrow hat hlt5; have T3 := Lib.hid ((((T2.out.swap12).alloc _).pushL rfl hown1 hgrow hat (by first | rfl | simp)).swap12); have B3 : Hid (Below S w w6) := Lib.hid ((B2.out.alloc (by omega) _).grown hgrow (by simp; omega) fun k hk => by have := own_lo T2.out k (by first | exact .inl hk | exact .inr hk); exact this); clear hown1 hat hlt5)
                      | (refine step_append_lies _ (by rfl) _ _ _ (by rfl) S 3 i0 _ 1 8 Tryd.underlying51 hi hz0 hz1 hz2 rfl (by omega) u8 _ _ (by rfl) (T2.out.swap12).1 ⟨wc.heap.size, 0, none⟩ 1 1 [.int .i64 (x : Int)] (by rfl) (by rfl) (by intro jj u hj; cases jj <;> simp at hj; subst hj; simpa [Addr.add] using tc0) (by simp [Value.oneCell']) (by omega) (by unfold maxLen; omega) (by omega) (by first | omega | (simp; omega)) (w5.heap.size) (by first | rfl | simp) ?_; intro gg cap w6 hown1 hgrow hat hlt5; have T3 := Lib.hid (((T2.out.swap12).pushL rfl hown1 hgrow hat (by first | rfl | simp)).swap12); have B3 : Hid (Below S w w6) := Lib.hid (B2.out.grown hgrow (by omega) fun k hk => by have := own_lo T2.out k (by first | exact .inl hk | exact .inr hk); exact this); clear hown1 hat hlt5)
                      | (refine step_append_lies _ (by rfl) _ _ _ (by rfl) S 3 i0 _ 1 8 Tryd.underlying51 hi hz0 hz1 hz2 rfl (by omega) u8 _ _ (by rfl) (T2.out.swap12).1 ⟨wc.heap.size + 1, 0, none⟩ 1 1 [.int .i64 (x : Int)] (by rfl) (by rfl) (by intro jj u hj; cases jj <;> simp at hj; subst hj; simpa [Addr.add] using tc1) (by simp [Value.oneCell']) (by omega) (by unfold maxLen; omega) (by omega) (by first | omega | (simp; omega)) (w5.heap.size) (by first | rfl | simp) ?_; intro gg cap w6 hown1 hgrow hat hlt5; have T3 := Lib.hid (((T2.out.swap12).pushL rfl hown1 hgrow hat (by first | rfl | simp)).swap12); have B3 : Hid (Below S w w6) := Lib.hid (B2.out.grown hgrow (by omega) fun k hk => by have := own_lo T2.out k (by first | exact .inl hk | exact .inr hk); exact this); clear hown1 hat hlt5))
                  all_goals
                    go_wp2_with fail
                    go_roundg (L.length - (j + 1))
                    case rel => exact ⟨j + 1, by omega, rfl, by rw [HQ2.out], by rw [HHB2.out], by go_num, by rw [EW2.out]; simp; omega, by rw [EWO2.out]; simp; omega, by rw [EW2.out, EWO2.out]; exact T3.out, B3.out⟩
                    case measure => rw [HGK.out]; omega
      · obtain rfl : j = L.length := by omega
        have hszr : S ≤ wr.heap.size := Nat.le_trans hsz hB.size
        obtain ⟨hb, hhb⟩ : ∃ b, b = hadTo n L L.length := ⟨_, rfl⟩
        obtain ⟨W1, hW1⟩ : ∃ W, W = withTo n L L.length := ⟨_, rfl⟩
        obtain ⟨W2, hW2⟩ : ∃ W, W = withoutTo n L L.length := ⟨_, rfl⟩
        obtain ⟨M1, hM1⟩ : ∃ W, W = withEnd n L := ⟨_, rfl⟩
        have EM := Lib.hid (show M1 = if hb = true then W1 else W1 ++ [n.toNat] by rw [hM1, withEnd, hhb, hW1])
        have OUT : Hid (hb = false → n = ((n.toNat : Nat) : Int)) := by
          intro h
          have : ∀ j, hadTo n L j = false → outOf n = false := fun j => by
            induction j with
            | zero => intro h; exact h
            | succ j ih => intro h; rw [hadTo, Bool.or_eq_false_iff] at h; exact ih h.1
          have := (out_false (this L.length (by rw [← hhb]; exact h))).1
          omega
        have hq : nextTo n L L.length = nextI l n.toNat := by rw [HLE.out]; exact next_end
        obtain ⟨Q, hQ⟩ : ∃ Q, Q = nextI l n.toNat := ⟨_, rfl⟩
        rw [hq, ← hQ, ← hhb]
        rw [← hW1] at hT3 hw1
        rw [← hW2] at hT3 hw2
        have T1 := Lib.hid hT3
        have B1 := Lib.hid hB
        have HQ := Lib.hid hQ
        have HW2 := Lib.hid hW2
        have HM1 := Lib.hid hM1
        have hle1 : M1.length ≤ 2 * L.length + 1 := by rw [EM.out]; split <;> (try simp) <;> omega
        clear hT3 hB hhb hW1 hW2 hM1 hq hQ hgk HO HB1 hj hlt
        go_upto_if 79 with fail
        go_cut [7] (fun v wx => Three wx S v u8 vL M1 W2 L ∧ Below S w wx)
        case first =>
          cases hb with
          | true =>
            go_wp2_with fail
            go_meet
            exact ⟨by rw [EM.out]; exact T1.out, B1.out⟩
          | false =>
            have HNM := Lib.hid (OUT.out rfl)
            have hown := T1.out.1
            go_wp2_with (at_builtin; refine wpList_append_own_at _ rfl _ _ 51 rfl S 3 i0 (.int .i64 0) 1 8 Tryd.underlying51 hi hz0 hz1 hz2 rfl (by decide) _ _ _ rfl (hown.alloc _) ⟨wr.heap.size, 0, none⟩ 1 1 [.int .i64 n] rfl rfl (by intro jj u hj; cases jj <;> simp at hj; subst hj; simp [Addr.add]) (by intro u hu; simp at hu; subst hu; rfl) (by unfold maxLen; omega) (by omega) (by simp; omega) ?_)
            intro v13 wn hown' hgrow _ hat
            have T0 := Lib.hid ((T1.out.alloc _).push (x := n.toNat) (by rw [← HNM.out]; exact hown') hgrow (by simpa using hat))
            have B0 : Hid (Below S w wn) := ((B1.out.alloc hszr _).grown hgrow (by simp; omega) fun k hk => (hown.lt k hk).1)
            clear hown' hgrow hat hown
            go_wp2_with fail
            go_meet
            exact ⟨by rw [EM.out]; exact T0.out, B0.out⟩
        case rest =>
          obtain ⟨hT, hB⟩ := hcut
          have AT : Hid (Kept w S v l wc) := ⟨HH.out.stay (by rw [← HS.out]; exact hB), HT.out.stay (by rw [← HS.out]; exact hB), hB, Nat.le_trans hsz hB.size⟩
          have O1 := Lib.hid hT.1
          have O2 := Lib.hid hT.2.1
          have O3 := Lib.hid hT.2.2.1
          have hLL := own_len hT.2.2.1
          have PL : Hid (L.Pairwise (· < ·) ∧ ∀ x ∈ L, x < 65536) := by
            rw [HLE.out]; exact ⟨filt_rise (mem l) 65536 0, fun x hx => mem_lt (mem_all.1 hx)⟩
          have H1 := Lib.hid (list_any AT.out.1 AT.out.2.1)
          rw [← HLE.out] at H1
          clear hT hB T1 B1 EM OUT HH HT HL hszr
          -- List
          go_wp2_with fail
          refine H1.out.mono ?_
          rintro e w2 ⟨v11, rfl, ho, hB⟩
          have AT := Lib.hid (AT.out.next hB)
          have O1 := Lib.hid (own_stay O1.out hB)
          have O2 := Lib.hid (own_stay O2.out hB)
          have O3 := Lib.hid (own_stay O3.out hB)
          have O4 := Lib.hid ho
          have hL4 := own_len ho
          have hne : ((L.length : Int) != (L.length : Int)) = false := by simp
          have H1 := Lib.hid (of_any (own_ints O3.out (by omega)))
          clear ho hB
          -- Of
          go_wp2_with fail
          refine H1.out.mono ?_
          rintro e w3 ⟨vo, rfl, ho, hB⟩
          have AT := Lib.hid (AT.out.next hB)
          have O1 := Lib.hid (own_stay O1.out hB)
          have O2 := Lib.hid (own_stay O2.out hB)
          have O3 := Lib.hid (own_stay O3.out hB)
          have O4 := Lib.hid (own_stay O4.out hB)
          have OO := Lib.hid ho
          have H1 := Lib.hid (of_ref (own_ints O3.out (by omega)) PL.out.2 PL.out.1 hLL)
          clear ho hB
          go_wp2_with fail
          refine H1.out.mono ?_
          rintro e w4 ⟨vr, r, rfl, ho, ht, hw, hB⟩
          have AT := Lib.hid (AT.out.next hB)
          have O1 := Lib.hid (own_stay O1.out hB)
          have O2 := Lib.hid (own_stay O2.out hB)
          have O3 := Lib.hid (own_stay O3.out hB)
          have O4 := Lib.hid (own_stay O4.out hB)
          have heq : ofL (L.map Int.ofNat) = r := by
            rw [HLE.out] at hw ⊢
            exact of_all_tidy ho.2.1 ht hw (ofL_tidy _)
          have H1 := Lib.hid (is_same (OO.out.words.stay hB) (by rw [heq]; exact ho.words))
          clear ho ht hw hB heq OO
          go_wp2_with fail
          refine H1.out.mono ?_
          rintro e w5 ⟨rfl, hk⟩
          have AT := Lib.hid (AT.out.like hk)
          have O1 := Lib.hid (own_stay O1.out (hk.below _))
          have O2 := Lib.hid (own_stay O2.out (hk.below _))
          have O3 := Lib.hid (own_stay O3.out (hk.below _))
          have O4 := Lib.hid (own_stay O4.out (hk.below _))
          clear hk H1
          go_wp2_with fail
          go_loopw [12] (fun i wx => ∃ j : Nat, j ≤ L.length ∧ i = .int .i64 j ∧ Like wx w5) (fun i _ => L.length - (intOf i).toNat)
          case atStart => exact ⟨0, Nat.zero_le _, rfl, Like.refl _⟩
          case round =>
            obtain ⟨j, hj, rfl, hk⟩ := hrel
            by_cases hlt : j < L.length
            · obtain ⟨x, hx⟩ : ∃ x, L[j]? = some x := ⟨L[j], List.getElem?_eq_getElem _⟩
              obtain ⟨g3, c3, rfl⟩ : ∃ g cap, vL = .slice (some ⟨g, 0, none⟩) L.length cap := by
                rcases O3.out.2 with ⟨_, h⟩ | ⟨g, cap, _, rfl, _⟩
                · omega
                · exact ⟨g, cap, rfl⟩
              obtain ⟨g4, c4, rfl⟩ : ∃ g cap, v11 = .slice (some ⟨g, 0, none⟩) L.length cap := by
                rcases O4.out.2 with ⟨_, h⟩ | ⟨g, cap, _, rfl, _⟩
                · omega
                · exact ⟨g, cap, rfl⟩
              have hcell3 : wr.cell? ⟨g3, j, none⟩ = some (.int .i64 (x : Int)) := by
                rw [hk.cell, O3.out.cellAt j (by omega)]
                unfold ints
                rw [List.getElem?_map, hx]; rfl
              have hcell4 : wr.cell? ⟨g4, j, none⟩ = some (.int .i64 (x : Int)) := by
                rw [hk.cell, O4.out.cellAt j (by omega)]
                unfold ints
                rw [List.getElem?_map, hx]; rfl
              have HK := Lib.hid hk
              have hxx : ((x : Int) != (x : Int)) = false := by simp
              clear hk hx
              go_wp2_with fail
              go_quiet (fail)
              go_wp2_with fail
              go_roundw
              case rel => exact ⟨j + 1, by omega, by go_num, HK.out.1, HK.out.2.1, HK.out.2.2.1, HK.out.2.2.2⟩
              case measure => simp [intOf]; omega
            · obtain rfl : j = L.length := by omega
              have AT := Lib.hid (AT.out.like hk)
              have O1 := Lib.hid (own_stay O1.out (hk.below _))
              have O2 := Lib.hid (own_stay O2.out (hk.below _))
              obtain ⟨hm, hhm⟩ : ∃ b, b = memI l n := ⟨_, rfl⟩
              have HHM := Lib.hid hhm
              have HCNT := Lib.hid (show count l = L.length by rw [HLE.out, count_all])
              have dm : (hm == hm) = true := by simp
              have dq : (Q == Q) = true := by simp
              have dl : ((L.length : Int) == (L.length : Int)) = true := by simp
              have H1 := Lib.hid (has_any AT.out.1 n)
              rw [← HHM.out] at H1
              clear hk O3 O4 hhm hj hlt
              -- Has
              go_wp2_with fail
              refine H1.out.mono ?_
              rintro e w6 ⟨rfl, rfl⟩
              have H1 := Lib.hid (ref_any AT.out.1 n)
              rw [← HHM.out] at H1
              go_wp2_with fail
              refine H1.out.mono ?_
              rintro e w6 ⟨rfl, rfl⟩
              have H1 := Lib.hid (count_any AT.out.1)
              rw [HCNT.out] at H1
              go_wp2_with fail
              refine H1.out.mono ?_
              rintro e w6 ⟨rfl, rfl⟩
              have H1 := Lib.hid (next_any AT.out.1 AT.out.2.1 n (by omega))
              rw [← HQ.out] at H1
              go_wp2_with fail
              refine H1.out.mono ?_
              rintro e w6 ⟨rfl, rfl⟩
              have H1 := Lib.hid (with_any AT.out.1 n)
              -- With
              go_wp2_with fail
              refine H1.out.mono ?_
              rintro e w7 ⟨v7, l7, rfl, ho, ht, hw, hB⟩
              have AT := Lib.hid (AT.out.next hB)
              have O1 := Lib.hid (own_stay O1.out hB)
              have O2 := Lib.hid (own_stay O2.out hB)
              have HO := Lib.hid ho
              have HTI := Lib.hid ht
              have HW := Lib.hid hw
              have hlen := own_len O1.out
              have PM : Hid ((∀ x ∈ M1, x < 65536) ∧ M1.Pairwise (· < ·)) := by
                rw [HM1.out]; exact ⟨(with_end PL.out.1 PL.out.2).2.1, (with_end PL.out.1 PL.out.2).1⟩
              have H1 := Lib.hid (of_ref (own_ints O1.out (by omega)) PM.out.1 PM.out.2 hlen)
              clear ho ht hw hB hlen
              go_wp2_with fail
              refine H1.out.mono ?_
              rintro e w8 ⟨v8, l8, rfl, ho, ht, hw, hB⟩
              have AT := Lib.hid (AT.out.next hB)
              have O2 := Lib.hid (own_stay O2.out hB)
              have heq : l7 = l8 := with_set HO.out.2.1 ho.2.1 HTI.out ht HW.out (by rw [HM1.out, HLE.out] at hw; exact hw)
              have H1 := Lib.hid (is_same (HO.out.words.stay hB) (by rw [heq]; exact ho.words))
              clear ho ht hw hB heq HO HTI HW O1
              go_wp2_with fail
              refine H1.out.mono ?_
              rintro e w9 ⟨rfl, hk⟩
              have AT := Lib.hid (AT.out.like hk)
              have O2 := Lib.hid (own_stay O2.out (hk.below _))
              have H1 := Lib.hid (without_any AT.out.1 n)
              clear hk
              -- Without
              go_wp2_with fail
              refine H1.out.mono ?_
              rintro e w10 ⟨v10, l10, rfl, ho, ht, hw, hB⟩
              have AT := Lib.hid (AT.out.next hB)
              have O2 := Lib.hid (own_stay O2.out hB)
              have HO := Lib.hid ho
              have HTI := Lib.hid ht
              have HW := Lib.hid hw
              have hlen := own_len O2.out
              have PM2 : Hid ((∀ x ∈ W2, x < 65536) ∧ W2.Pairwise (· < ·)) := by
                rw [HW2.out]; exact ⟨fun x hx => PL.out.2 x (((without_end PL.out.1).2 x).1 hx).1, (without_end PL.out.1).1⟩
              have H1 := Lib.hid (of_ref (own_ints O2.out (by omega)) PM2.out.1 PM2.out.2 hlen)
              clear ho ht hw hB hlen
              go_wp2_with fail
              refine H1.out.mono ?_
              rintro e w11 ⟨v11', l11, rfl, ho, ht, hw, hB⟩
              have AT := Lib.hid (AT.out.next hB)
              have heq : l10 = l11 := without_set HO.out.2.1 ho.2.1 HTI.out ht HW.out (by rw [HW2.out, HLE.out] at hw; exact hw)
              have H1 := Lib.hid (is_same (HO.out.words.stay hB) (by rw [heq]; exact ho.words))
              clear ho ht hw hB heq HO HTI HW O2
              go_wp2_with fail
              refine H1.out.mono ?_
              rintro e w12 ⟨rfl, hk⟩
              have AT := Lib.hid (AT.out.like hk)
              have H1 := Lib.hid (works_any AT.out.2.1.first)
              clear hk
              go_wp2_with fail
              refine H1.out.mono ?_
              rintro e w13 ⟨rfl, hB⟩
              have AT := Lib.hid (AT.out.next hB)
              clear hB H1
              go_wp2
              go_ret
              exact ⟨rfl, AT.out.2.2.1⟩


end Go.Proofs.YtfcdmkfbkkogbaaDoor.Bits
