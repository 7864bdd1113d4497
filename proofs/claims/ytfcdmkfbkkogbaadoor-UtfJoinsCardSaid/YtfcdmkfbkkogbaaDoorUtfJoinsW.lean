/- The law UtfJoins, walked. -/
import Derived.Test.YtfcdmkfbkkogbaaDoorUtfN
namespace Go.Proofs.YtfcdmkfbkkogbaaDoor.Utf
open Go Go.RowKit

theorem Joined.item_ahead {a b ab : Txt} (h : Joined a b ab) (hs : ab.start a.n) {i : Nat} (hi : i < a.cnt) : ab.item (ab.pos i) = a.item (a.pos i) := by
  have hp := (h.cnt_yes hs).2
  have h1 : ab.pos (i + 1) ≤ a.n := by
    rw [← hp]
    by_cases e : i + 1 = a.cnt
    · rw [e]; exact Nat.le_refl _
    · exact Nat.le_of_lt (ab.pos_lt (by omega))
  have h0 := h.pos_ahead i (Nat.le_trans (Nat.le_of_lt (ab.pos_lt (by omega))) h1)
  have hd := h.ahead (i := ab.pos i) h1
  unfold Txt.item Txt.ok Txt.r Txt.w
  rw [h0, hd]
theorem Joined.item_behind {a b ab : Txt} (h : Joined a b ab) (hs : ab.start a.n) (j : Nat) : ab.item (ab.pos (a.cnt + j)) = ⟨b.pos j + a.n, b.w (b.pos j), b.r (b.pos j), b.ok (b.pos j)⟩ := by
  have hp := (h.cnt_yes hs).2
  have h1 := h.pos_behind (m := a.cnt) (j := 0) (by rw [hp]; rfl) j
  rw [Nat.zero_add] at h1
  have hd := h.behind (b.pos j)
  unfold Txt.item Txt.ok Txt.r Txt.w
  rw [h1, hd, Nat.add_comm]
theorem caret_at (s : ByteArray) (k : Nat) (hk : k ≤ s.size) : caretB (txt s) (k : Int) = true ↔ (txt s).start k := by
  rw [caret_iff]; exact ⟨fun h => h.2, fun h => ⟨hk, h⟩⟩

set_option maxRecDepth 100000 in
theorem joins_walk (a b : ByteArray) (W : World) (h : G W) : Calls Tryd.prog 6 #[.string a, .string b] W fun e w' => e = .returned (.bool true) ∧ Below W.heap.size W w' := by
  by_cases ha : 500 < a.size
  · have e1 : decide ((500 : Int) < (a.size : Int)) = true := decide_eq_true (by omega)
    clear h
    go_enter Tryd.func6, Tryd.ntmps6
    go_wp2
    go_ret
    exact ⟨rfl, Below.refl _ _⟩
  have e1 : decide ((500 : Int) < (a.size : Int)) = false := decide_eq_false (by omega)
  by_cases hb : 500 < b.size
  · have e2 : decide ((500 : Int) < (b.size : Int)) = true := decide_eq_true (by omega)
    clear h
    go_enter Tryd.func6, Tryd.ntmps6
    go_wp2
    go_ret
    exact ⟨rfl, Below.refl _ _⟩
  have e2 : decide ((500 : Int) < (b.size : Int)) = false := decide_eq_false (by omega)
  have ha6 : a.size ≤ 500 := by omega
  have hb6 : b.size ≤ 500 := by omega
  have hJ := txt_append a b
  have hab : (a ++ b).size = a.size + b.size := by simp
  have HG := Lib.hid h
  have H1 := Lib.hid (fun w hw => items_any a w hw (by omega))
  have H2 := Lib.hid (fun w hw => items_any b w hw (by omega))
  have H3 := Lib.hid (fun w hw => items_any (a ++ b) w hw (by omega))
  have H4 := Lib.hid (fun w hw => caret_any (a ++ b) (a.size : Int) w hw (by omega))
  have HW := Lib.hid works_any
  have i1 : (items (txt a)).length = (txt a).cnt := itemsTo_len _ _
  have i2 : (items (txt b)).length = (txt b).cnt := itemsTo_len _ _
  have i3 : (items (txt (a ++ b))).length = (txt (a ++ b)).cnt := itemsTo_len _ _
  have g1 : ∀ j, j < (txt a).cnt → (items (txt a))[j]? = some ((txt a).item ((txt a).pos j)) := fun j h => itemsTo_get h
  have g2 : ∀ j, j < (txt b).cnt → (items (txt b))[j]? = some ((txt b).item ((txt b).pos j)) := fun j h => itemsTo_get h
  have g3 : ∀ j, j < (txt (a ++ b)).cnt → (items (txt (a ++ b)))[j]? = some ((txt (a ++ b)).item ((txt (a ++ b)).pos j)) := fun j h => itemsTo_get h
  have l1 : (txt a).cnt ≤ 500 := Nat.le_trans (txt a).cnt_le ha6
  have l2 : (txt b).cnt ≤ 500 := Nat.le_trans (txt b).cnt_le hb6
  have l3 : (txt (a ++ b)).cnt ≤ 1000 := Nat.le_trans (txt (a ++ b)).cnt_le (by show (a ++ b).size ≤ 1000; omega)
  have hpb : ∀ j, j < (txt b).cnt → (txt b).pos j ≤ 500 := fun j hj => Nat.le_trans (Nat.le_of_lt ((txt b).pos_of_lt hj)) hb6
  have hst := caret_at (a ++ b) a.size (by omega)
  obtain ⟨c, hc⟩ : ∃ c, caretB (txt (a ++ b)) (a.size : Int) = c := ⟨_, rfl⟩
  rw [hc] at hst H4
  have hcnt : ((txt (a ++ b)).cnt = (txt a).cnt + (txt b).cnt) ↔ c = true := by
    constructor
    · intro he
      cases hcc : c with
      | true => rfl
      | false =>
        exfalso
        have := hJ.cnt_no (fun hs => by
          have h2 := hst.2 hs
          rw [hcc] at h2; cases h2)
        omega
    · intro he; exact (hJ.cnt_yes (hst.1 he)).1
  have f1 : c = true → ∀ i, i < (txt a).cnt → (txt (a ++ b)).item ((txt (a ++ b)).pos i) = (txt a).item ((txt a).pos i) := fun he i hi => hJ.item_ahead (hst.1 he) hi
  have f2 : c = true → ∀ j, (txt (a ++ b)).item ((txt (a ++ b)).pos ((txt a).cnt + j)) = ⟨(txt b).pos j + a.size, (txt b).w ((txt b).pos j), (txt b).r ((txt b).pos j), (txt b).ok ((txt b).pos j)⟩ := fun he j => hJ.item_behind (hst.1 he) j
  obtain ⟨LA, hLA⟩ : ∃ L, items (txt a) = L := ⟨_, rfl⟩
  obtain ⟨LB, hLB⟩ : ∃ L, items (txt b) = L := ⟨_, rfl⟩
  obtain ⟨LC, hLC⟩ : ∃ L, items (txt (a ++ b)) = L := ⟨_, rfl⟩
  obtain ⟨m, hm⟩ : ∃ n, (txt a).cnt = n := ⟨_, rfl⟩
  obtain ⟨n, hn⟩ : ∃ n, (txt b).cnt = n := ⟨_, rfl⟩
  obtain ⟨k, hk⟩ : ∃ n, (txt (a ++ b)).cnt = n := ⟨_, rfl⟩
  rw [hLA] at H1 i1 g1
  rw [hLB] at H2 i2 g2
  rw [hLC] at H3 i3 g3
  rw [hm] at i1 g1 l1 f1 f2 hcnt
  rw [hn] at i2 g2 l2 hcnt hpb
  rw [hk] at i3 g3 l3 hcnt
  have G1 := Lib.hid g1
  have G2 := Lib.hid g2
  have G3 := Lib.hid g3
  have F1 := Lib.hid f1
  have F2 := Lib.hid f2
  have HCN := Lib.hid hcnt
  have PB := Lib.hid hpb
  have hcb : ((k : Int) == (m : Int) + (n : Int)) = c := by
    rw [Bool.eq_iff_iff, beq_iff_eq, ← hcnt]; omega
  have hcc : (c != c) = false := by simp
  clear h ha hb hJ hab hpb g1 g2 g3 hst hc hcnt f1 f2 hLA hLB hLC hm hn hk
  go_enter Tryd.func6, Tryd.ntmps6
  go_wp2_with fail
  refine (H1.out _ HG.out.1).mono ?_
  rintro e w1 ⟨vA, rfl, ra, hb1⟩
  have HG1 := Lib.hid (HG.out.stay hb1)
  have HB1 := Lib.hid hb1
  obtain ⟨SA, hSA⟩ : ∃ S, W.heap.size = S := ⟨_, rfl⟩
  rw [hSA] at ra
  have nA := ra.len
  rw [i1] at nA
  have RA := Lib.hid ra
  clear hb1 ra hSA HG
  go_wp2_with fail
  refine (H2.out _ HG1.out.1).mono ?_
  rintro e w2 ⟨vB, rfl, rb, hb1⟩
  have RA2 := Lib.hid (RA.out.stay hb1)
  have HG2 := Lib.hid (HG1.out.stay hb1)
  have HB2 := Lib.hid (HB1.out.trans (hb1.mono HB1.out.size))
  obtain ⟨SB, hSB⟩ : ∃ S, w1.heap.size = S := ⟨_, rfl⟩
  rw [hSB] at rb
  have nB := rb.len
  rw [i2] at nB
  have RB := Lib.hid rb
  clear hb1 rb hSB HG1 HB1 RA
  go_wp2_with fail
  refine (H3.out _ HG2.out.1).mono ?_
  rintro e w3 ⟨vC, rfl, rc, hb1⟩
  have RA3 := Lib.hid (RA2.out.stay hb1)
  have RB3 := Lib.hid (RB.out.stay hb1)
  have HG3 := Lib.hid (HG2.out.stay hb1)
  have HB3 := Lib.hid (HB2.out.trans (hb1.mono HB2.out.size))
  obtain ⟨SC, hSC⟩ : ∃ S, w2.heap.size = S := ⟨_, rfl⟩
  rw [hSC] at rc
  have nC := rc.len
  rw [i3] at nC
  have RC3 := Lib.hid rc
  clear hb1 rc hSC HG2 HB2 RA2 RB
  go_wp2_with fail
  refine (H4.out _ HG3.out.1).mono ?_
  rintro e w4 ⟨rfl, hb1⟩
  have RA4 := Lib.hid (RA3.out.stay hb1)
  have RB4 := Lib.hid (RB3.out.stay hb1)
  have RC4 := Lib.hid (RC3.out.stay hb1)
  have HG4 := Lib.hid (HG3.out.stay hb1)
  have HB4 := Lib.hid (HB3.out.trans (hb1.mono HB3.out.size))
  clear hb1 HG3 HB3 RA3 RB3 RC3 H1 H2 H3 H4
  go_wp2_with fail
  go_loopw [9, 10] (fun i kk wx => ∃ j : Nat, j ≤ k ∧ i = .int .i64 (j : Int) ∧ Rowed wx SA vA LA ∧ Rowed wx SB vB LB ∧ Rowed wx SC vC LC ∧ G wx ∧ Below W.heap.size W wx) (fun i _ _ => k - (intOf i).toNat)
  case atStart => exact ⟨0, Nat.zero_le _, rfl, RA4.out, RB4.out, RC4.out, HG4.out, HB4.out⟩
  case round =>
    obtain ⟨j, hj, rfl, ra, rb, rc, hg, hB⟩ := hrel
    have RA := Lib.hid ra
    have RB := Lib.hid rb
    have RC := Lib.hid rc
    have HG5 := Lib.hid hg
    have HB5 := Lib.hid hB
    clear RA4 RB4 RC4 HG4 HB4
    by_cases hgo : c = true ∧ j < k
    · obtain ⟨rfl, hlt⟩ := hgo
      have hkmn := HCN.out.2 rfl
      have x3 := G3.out j hlt
      obtain ⟨gC, cC, rfl, hcC, -, hlC, hcells3⟩ := rc.at (by omega)
      have a0 := hcells3 j _ x3 0 _ rfl
      have a1 := hcells3 j _ x3 1 _ rfl
      have a2 := hcells3 j _ x3 2 _ rfl
      have a3 := hcells3 j _ x3 3 _ rfl
      rw [Nat.mul_comm, Nat.add_zero] at a0
      rw [Nat.mul_comm] at a1 a2 a3
      by_cases hjm : j < m
      · have x1 := G1.out j hjm
        obtain ⟨gA, cA, rfl, hcA, -, hlA, hcells1⟩ := ra.at (by omega)
        have b0 := hcells1 j _ x1 0 _ rfl
        have b1 := hcells1 j _ x1 1 _ rfl
        have b2 := hcells1 j _ x1 2 _ rfl
        have b3 := hcells1 j _ x1 3 _ rfl
        rw [Nat.mul_comm, Nat.add_zero] at b0
        rw [Nat.mul_comm] at b1 b2 b3
        rw [F1.out rfl j hjm] at a0 a1 a2 a3
        obtain ⟨x, hx⟩ : ∃ x, (txt a).item ((txt a).pos j) = x := ⟨_, rfl⟩
        rw [hx] at a0 a1 a2 a3 b0 b1 b2 b3
        obtain ⟨xa, xw, xr, xo⟩ := x
        have a0 : wr.cell? ⟨gC, j * 4, none⟩ = some (.int .i64 (xa : Int)) := a0
        have a1 : wr.cell? ⟨gC, j * 4 + 1, none⟩ = some (.int .i64 (xw : Int)) := a1
        have a2 : wr.cell? ⟨gC, j * 4 + 2, none⟩ = some (.int .i32 (xr : Int)) := a2
        have a3 : wr.cell? ⟨gC, j * 4 + 3, none⟩ = some (.bool xo) := a3
        have b0 : wr.cell? ⟨gA, j * 4, none⟩ = some (.int .i64 (xa : Int)) := b0
        have b1 : wr.cell? ⟨gA, j * 4 + 1, none⟩ = some (.int .i64 (xw : Int)) := b1
        have b2 : wr.cell? ⟨gA, j * 4 + 2, none⟩ = some (.int .i32 (xr : Int)) := b2
        have b3 : wr.cell? ⟨gA, j * 4 + 3, none⟩ = some (.bool xo) := b3
        rw [i1] at hcA ⊢
        rw [i3] at hcC ⊢
        have RA6 := RA.out
        rw [i1] at RA6
        have RC6 := RC.out
        rw [i3] at RC6
        have RA6 := Lib.hid RA6
        have RC6 := Lib.hid RC6
        have K0 := Lib.hid (fun q : Nat => below_drewNv (Below.refl wr.heap.size wr) q)
        have HSZ := Lib.hid HB5.out.size
        clear ra rb rc hg hB x1 x3 hx hcells1 hcells3 hkmn RA RC
        go_wp2_with fail
        go_quiet (fail)
        go_wp2_with fail
        go_roundw
        case rel => exact ⟨j + 1, by omega, by go_num, RA6.out.stay (K0.out _), RB.out.stay (K0.out _), RC6.out.stay (K0.out _), HG5.out.stay (K0.out _), HB5.out.trans ((K0.out _).mono HSZ.out)⟩
        case measure => simp [intOf]; omega
      · have hjn : j - m < n := by omega
        have x2 := G2.out (j - m) hjn
        obtain ⟨gB, cB, rfl, hcB, -, hlB, hcells2⟩ := rb.at (by omega)
        have b0 := hcells2 (j - m) _ x2 0 _ rfl
        have b1 := hcells2 (j - m) _ x2 1 _ rfl
        have b2 := hcells2 (j - m) _ x2 2 _ rfl
        have b3 := hcells2 (j - m) _ x2 3 _ rfl
        rw [Nat.mul_comm, Nat.add_zero] at b0
        rw [Nat.mul_comm] at b1 b2 b3
        have f2 := F2.out rfl (j - m)
        rw [show m + (j - m) = j by omega] at f2
        rw [f2] at a0 a1 a2 a3
        obtain ⟨pb, hpb⟩ : ∃ x, (txt b).pos (j - m) = x := ⟨_, rfl⟩
        have hp6 : pb ≤ 500 := by
          rw [← hpb]; exact PB.out _ hjn
        rw [hpb] at a0 a1 a2 a3 b0 b1 b2 b3
        have hit : (txt b).item pb = ⟨pb, (txt b).w pb, (txt b).r pb, (txt b).ok pb⟩ := rfl
        rw [hit] at b0 b1 b2 b3
        obtain ⟨xw, hxw⟩ : ∃ x, (txt b).w pb = x := ⟨_, rfl⟩
        obtain ⟨xr, hxr⟩ : ∃ x, (txt b).r pb = x := ⟨_, rfl⟩
        obtain ⟨xo, hxo⟩ : ∃ x, (txt b).ok pb = x := ⟨_, rfl⟩
        rw [hxw, hxr, hxo] at a0 a1 a2 a3 b0 b1 b2 b3
        have a0 : wr.cell? ⟨gC, j * 4, none⟩ = some (.int .i64 ((pb : Int) + (a.size : Int))) := a0
        have a1 : wr.cell? ⟨gC, j * 4 + 1, none⟩ = some (.int .i64 (xw : Int)) := a1
        have a2 : wr.cell? ⟨gC, j * 4 + 2, none⟩ = some (.int .i32 (xr : Int)) := a2
        have a3 : wr.cell? ⟨gC, j * 4 + 3, none⟩ = some (.bool xo) := a3
        have b0 : wr.cell? ⟨gB, (j - m) * 4, none⟩ = some (.int .i64 (pb : Int)) := b0
        have b1 : wr.cell? ⟨gB, (j - m) * 4 + 1, none⟩ = some (.int .i64 (xw : Int)) := b1
        have b2 : wr.cell? ⟨gB, (j - m) * 4 + 2, none⟩ = some (.int .i32 (xr : Int)) := b2
        have b3 : wr.cell? ⟨gB, (j - m) * 4 + 3, none⟩ = some (.bool xo) := b3
        rw [i2] at hcB ⊢
        rw [i3] at hcC ⊢
        have RB6 := RB.out
        rw [i2] at RB6
        have RC6 := RC.out
        rw [i3] at RC6
        have RB6 := Lib.hid RB6
        have RC6 := Lib.hid RC6
        have hjm1 : (m : Int) ≤ (j : Int) := by omega
        have hjm2 : (j : Int) - (m : Int) < (n : Int) := by omega
        have hjm3 : ¬ (j : Int) < (m : Int) := by omega
        have hjm4 : decide (j < m) = false := decide_eq_false hjm
        have HSZ := Lib.hid HB5.out.size
        clear ra rb rc hg hB x2 x3 f2 hpb hit hxw hxr hxo hcells2 hcells3 hkmn RB RC
        go_wp2_with fail
        go_quiet (fail)
        have K0 := Lib.hid (fun q : Nat => below_drewNv ((Below.refl wr.heap.size wr).alloc (Nat.le_refl _) (.cells #[.int .i64 ((pb : Int) + (a.size : Int)), .int .i64 (xw : Int), .int .i32 (xr : Int), .bool xo] 27)) q)
        go_wp2_with fail
        go_roundw
        case rel => exact ⟨j + 1, by omega, by go_num, RA.out.stay (K0.out _), RB6.out.stay (K0.out _), RC6.out.stay (K0.out _), HG5.out.stay (K0.out _), HB5.out.trans ((K0.out _).mono HSZ.out)⟩
        case measure => simp [intOf]; omega
    · have hend : c = false ∨ (c = true ∧ ¬ j < k) := by
        cases c with
        | false => exact .inl rfl
        | true => exact .inr ⟨rfl, fun h => hgo ⟨rfl, h⟩⟩
      clear ra rb rc hg hB hgo
      rcases hend with rfl | ⟨rfl, hge⟩
      all_goals
        go_wp2_with fail
        refine (HW.out _ HG5.out).mono ?_
        rintro e w6 ⟨rfl, hb3⟩
        have HB7 := Lib.hid (HB5.out.trans (hb3.mono HB5.out.size))
        clear hb3
        go_wp2
        go_ret
        exact ⟨rfl, HB7.out⟩

end Go.Proofs.YtfcdmkfbkkogbaaDoor.Utf
