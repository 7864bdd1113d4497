/- Package texts, merged: LexSpreadsW. -/
import Derived.Test.YtfjlhfalnciamaaDoorMLexR
import Derived.Deep.RegionHeld3

namespace Go.Proofs.YtfjlhfalnciamaaDoor.Lex
open Go Go.RowKit Go.Proofs.Chars
open Go.Proofs.YtfjlhfalnciamaaDoor.Utf Go.Proofs.YtfjlhfalnciamaaDoor.Chars

theorem bcell {W w1 : World} (hb : Below W.heap.size W w1) : (∀ b o, b < W.heap.size → w1.cell? ⟨b, o, none⟩ = W.cell? ⟨b, o, none⟩) ∧ (∀ b o, b < W.heap.size → w1.frozen? ⟨b, o, none⟩ = W.frozen? ⟨b, o, none⟩) :=
  ⟨fun b o h => hb.cell (p := ⟨b, o, none⟩) h, fun b o h => hb.frozen (p := ⟨b, o, none⟩) h⟩
/-- The second row of parts, and its error's place. -/
def SecondP (wc : World) (n : Nat) (G : List Pt) (x11 x12 : Value) (wx : World) : Prop :=
  ∃ g2 cap2 L2 H, x11 = .slice (some ⟨g2, 0, none⟩) n cap2 ∧ x12 = .pointer (some ⟨H, 0, none⟩) ∧ wx.cell? ⟨H, 0, none⟩ = some (.int .i64 0) ∧ CellsOf wx g2 L2 ∧ SetsOf wx 0 L2 G ∧ g2 < wx.heap.size ∧ Below wc.heap.size wc wx
def BlankV (x : Value) : Prop := ∃ b, x = .string b ∧ BlankT b
/-- What the second reading tells. -/
def SecondQ (w : World) (n : Nat) (G : List Pt) (e : Ending) (w' : World) : Prop :=
  ∃ g2 cap2 L2, e = .returned (.tuple #[.slice (some ⟨g2, 0, none⟩) n cap2, .agg #[.int .i64 0, .int .i64 0]]) ∧ CellsOf w' g2 L2 ∧ SetsOf w' w.heap.size L2 G ∧ w.heap.size ≤ g2 ∧ g2 < w'.heap.size ∧ Below w.heap.size w w'
theorem second_any {s b : ByteArray} (hs : s.size ≤ 2000) (hb : BlankT b) {G : List Pt} {k : Nat} {x : Pt} (h : partsE s = some G) (hk : G[k]? = some x) (w : World) (T : U8 w) :
    Calls Tryd.prog 35 #[.string ((s.extract 0 x.a ++ b) ++ s.extract x.a s.size)] w fun e w' => SecondQ w G.length (G.take k ++ (G.drop k).map (Pt.by b.size)) e w' := by
  obtain ⟨hp, hparts⟩ := putIn_parts hb h hk
  have hsz := putIn_size s b hp
  have h8 := hb.1
  refine (all_sets (putIn s b x.a) (by omega) w T).mono ?_
  intro e w' ha
  rw [hparts] at ha
  obtain ⟨v, L, rfl, htk, hso, hB⟩ := ha
  have h0 := partsE_some h
  have hl := hso.1
  rw [spread_len] at hl
  have hown : ∀ g, v.ownBlock = some g → w.heap.size ≤ g := fun g hg => htk.lt hg
  obtain ⟨g, cap, rfl, hmax, hg, hc⟩ := toks_all htk (by omega)
  exact ⟨g, cap, L, by rw [hl]; rfl, hc, hso, hown g rfl, hg, hB⟩
theorem CellsOf.setFar {w : World} {g : Nat} {L : List Tk} (h : CellsOf w g L) {p : Addr} (hp : p.block ≠ g) (u : Value) : CellsOf (w.setCell p u) g L := fun i x hx => by
  obtain ⟨h0, h1, h2, h3, h4⟩ := h i x hx
  have e : (w.setCell p u).heap[g]? = w.heap[g]? := Below.heap_setCell w p u g (Ne.symm hp)
  have key : ∀ o, (w.setCell p u).cell? ⟨g, o, none⟩ = w.cell? ⟨g, o, none⟩ := fun o => World.cell?_of_block (w := w) (a := ⟨g, o, none⟩) e
  exact ⟨(key _).trans h0, (key _).trans h1, (key _).trans h2, (key _).trans h3, (key _).trans h4⟩

set_option maxRecDepth 100000 in
theorem spreads_long {W : World} (s : ByteArray) (a kd : Int) (h : 2000 < s.size) : Calls Tryd.prog 9 #[.string s, .int .i64 a, .int .i64 kd] W fun e w' => e = .returned (.bool true) ∧ Below W.heap.size W w' := by
  have d1 : (2000 : Int) < (s.size : Int) := by omega
  have d2 : decide ((2000 : Int) < (s.size : Int)) = true := decide_eq_true d1
  go_enter Tryd.func9, Tryd.ntmps9
  go_wp2
  go_ret
  exact ⟨rfl, Below.refl _ _⟩

set_option maxHeartbeats 12000000 in
set_option maxRecDepth 100000 in
theorem spreads_walk {W : World} (s : ByteArray) (a kd : Int) (hs : ¬ 2000 < s.size) (T : GT W) : Calls Tryd.prog 9 #[.string s, .int .i64 a, .int .i64 kd] W fun e w' => e = .returned (.bool true) ∧ Below W.heap.size W w' := by
  have d1 : ¬ (2000 : Int) < (s.size : Int) := by omega
  have d2 : decide ((2000 : Int) < (s.size : Int)) = false := decide_eq_false d1
  have HT := Lib.hid T
  have HA := Lib.hid (all_sets s (by omega) W T.1)
  clear T
  go_enter Tryd.func9, Tryd.ntmps9
  go_wp2_with fail
  refine HA.out.mono ?_
  intro e w1 hal
  clear HA
  cases hP : partsE s with
  | none =>
    rw [hP] at hal
    obtain ⟨c, p, hc, rfl, hb⟩ := hal
    have hc1 : (c != 0) = true := by simpa using hc
    have HB2 : Hid (Below W.heap.size W (w1.alloc (.cells #[.int .i64 c, .int .i64 (p : Int)] 48))) := hb.alloc hb.size _
    have x0 : (w1.alloc (.cells #[.int .i64 c, .int .i64 (p : Int)] 48)).cell? ⟨w1.heap.size, 0, none⟩ = some (.int .i64 c) := by simp only [World.cell?, heap_alloc_new]; rfl
    have HC := Lib.hid (works_any _ (HT.out.stay HB2.out))
    clear hb hP hc
    unfold stopV
    go_upto_region 4 with fail
    generalize (w1.alloc (.cells #[.int .i64 c, .int .i64 (p : Int)] 48)) = w2 at *
    go_wp2_with fail
    refine HC.out.mono ?_
    rintro e w3 ⟨rfl, hb⟩
    have HB3 := Lib.hid (HB2.out.trans (hb.mono HB2.out.size))
    clear hb HC
    go_wp2
    go_ret
    exact ⟨rfl, HB3.out⟩
  | some G =>
    rw [hP] at hal
    obtain ⟨v, L, rfl, htk, hso, hb⟩ := hal
    have hG0 := partsE_some hP
    have hGl := partsE_len hP
    have hLG := hso.1
    obtain ⟨g, cap, rfl, hmax, hg, hcell⟩ := toks_all htk (by omega)
    have hba : Below w1.heap.size w1 (w1.alloc S0) := (Below.refl _ _).alloc (Nat.le_refl _) _
    have HB2 : Hid (Below W.heap.size W (w1.alloc S0)) := hb.alloc hb.size _
    have x0 : (w1.alloc S0).cell? ⟨w1.heap.size, 0, none⟩ = some (.int .i64 0) := by simp only [World.cell?, heap_alloc_new]; rfl
    have HCE := Lib.hid (hcell.stay hg hba)
    have HSO := Lib.hid (hso.stay hba)
    have hg2 : g < (w1.alloc S0).heap.size := Nat.lt_of_lt_of_le hg hba.size
    have HP := Lib.hid hP
    obtain ⟨n, hn⟩ : ∃ n, L.length = n := ⟨_, rfl⟩
    obtain ⟨r, hr, hand⟩ := mask_in a 65535 (by decide)
    obtain ⟨j, hj, hjand⟩ := mask_in kd 3 (by decide)
    have hand' : bits .and .i64 a 65535 = (r : Int) := hand
    have hjand' : bits .and .i64 kd 3 = (j : Int) := hjand
    have hklt : r % n < n := Nat.mod_lt _ (by omega)
    have hkk : (r : Int) % (n : Int) = ((r % n : Nat) : Int) := by simp
    obtain ⟨k, hk⟩ : ∃ k, r % n = k := ⟨_, rfl⟩
    rw [hk] at hklt hkk
    have hl0 : ((n : Int) == 0) = false := by simpa using (by omega : ¬ (n : Int) = 0)
    rw [hn] at hmax hLG ⊢
    have hn1 : n ≤ 2001 := by omega
    have hn0 : 0 < n := by omega
    have HN : Hid (L.length = n ∧ G.length = n) := Lib.hid ⟨hn, hLG.symm⟩
    have HJ : Hid (bits .and .i64 kd 3 = (j : Int)) := Lib.hid hjand'
    clear hb hP htk hso hcell hba hLG hn hmax hGl hG0 hand hjand hjand' hk hg
    unfold stopV
    go_upto_region 4 with fail
    generalize (w1.alloc S0) = w2 at *
    go_upto_region 7 with fail
    rw [hkk]
    clear hand' hkk x0 hl0
    go_cut [10] (fun x wx => BlankV x ∧ Below w2.heap.size w2 wx)
    case first =>
      have hjj : bits .and .i64 kd 3 = 0 ∨ bits .and .i64 kd 3 = 1 ∨ bits .and .i64 kd 3 = 2 ∨ bits .and .i64 kd 3 = 3 := by have := HJ.out; omega
      clear HJ HP HN HCE HSO HT hj
      rcases hjj with hq | hq | hq | hq
      · go_wp2_with fail
        go_meet
        exact ⟨⟨_, rfl, blankT0⟩, (Below.refl _ _).alloc (Nat.le_refl _) _⟩
      · go_wp2_with fail
        go_meet
        exact ⟨⟨_, rfl, blankT1⟩, (Below.refl _ _).alloc (Nat.le_refl _) _⟩
      · go_wp2_with fail
        go_meet
        exact ⟨⟨_, rfl, blankT2⟩, (Below.refl _ _).alloc (Nat.le_refl _) _⟩
      · go_wp2_with fail
        go_meet
        exact ⟨⟨_, rfl, blankT3⟩, (Below.refl _ _).alloc (Nat.le_refl _) _⟩
    case rest =>
      obtain ⟨⟨b, rfl, hbt⟩, hb3⟩ := hcut
      generalize wc = wd at *
      obtain ⟨hnL, hnG⟩ := HN.out
      obtain ⟨x, hx⟩ : ∃ x, L[k]? = some x := ⟨L[k], List.getElem?_eq_getElem (by omega)⟩
      obtain ⟨y, hy⟩ : ∃ y, G[k]? = some y := ⟨G[k], List.getElem?_eq_getElem (by omega)⟩
      have hxy := (HSO.out.2 k x y hx hy).1
      have hxa : x.a = y.a := by
        unfold keyT at hxy
        simp only [Prod.mk.injEq] at hxy
        exact hxy.2.1
      have hin := (partsE_in HP.out hy).1
      have HCE3 := Lib.hid (HCE.out.stay hg2 hb3)
      have HSO3 := Lib.hid (HSO.out.stay hb3)
      have hg3 : g < wd.heap.size := Nat.lt_of_lt_of_le hg2 hb3.size
      have HB3 := Lib.hid (HB2.out.trans (hb3.mono HB2.out.size))
      have c1 : wd.cell? ⟨g, k * 5 + 1, none⟩ = some (.int .i64 (y.a : Int)) := by rw [← hxa]; exact (HCE3.out k x hx).2.1
      have HS2 := Lib.hid (fun w hw => second_any (s := s) (by omega) hbt HP.out hy w (HT.out.stay hw).1)
      rw [hnG] at HS2
      have hb8 := hbt.1
      obtain ⟨ya, hya⟩ : ∃ q, y.a = q := ⟨_, rfl⟩
      rw [hya] at c1 hin HS2
      have HK : Hid (∀ w, Below wd.heap.size wd w → w.cell? ⟨g, k * 5 + 1, none⟩ = some (.int .i64 (ya : Int))) := Lib.hid fun w hb => (hb.cell (p := ⟨g, k * 5 + 1, none⟩) hg3).trans c1
      have m1 : ¬ (ya : Int) < 0 := by omega
      have m2 : decide ((ya : Int) < 0) = false := decide_eq_false m1
      have m3 : ¬ (s.size : Int) < (ya : Int) := by omega
      have m4 : decide ((s.size : Int) < (ya : Int)) = false := decide_eq_false m3
      have p1 : (0 : Int) ≤ (ya : Int) := by omega
      have p2 : (ya : Int) ≤ (s.size : Int) := by omega
      have p3 : (k : Int) < (n : Int) := by omega
      have p4 : (0 : Int) ≤ (k : Int) := by omega
      clear hxy hxa hya hx hy hnL hnG HCE HSO hb3
      go_upto_region 10 with fail
      go_cut [11, 12] (fun x11 x12 wx => SecondP wd n (G.take k ++ (G.drop k).map (Pt.by b.size)) x11 x12 wx)
      case first => as_aux_lemma =>
        clear HN HP HJ
        have HS3 : Hid (∀ w, Below wd.heap.size wd w → Calls Tryd.prog 35 #[.string ((s.extract 0 ya ++ b) ++ s.extract ya s.size)] w fun e w' => ∃ g2 cap2 L2, e = .returned (.tuple #[.slice (some ⟨g2, 0, none⟩) n cap2, .agg #[.int .i64 0, .int .i64 0]]) ∧ CellsOf w' g2 L2 ∧ SetsOf w' w.heap.size L2 (G.take k ++ (G.drop k).map (Pt.by b.size)) ∧ w.heap.size ≤ g2 ∧ g2 < w'.heap.size ∧ Below w.heap.size w w' ∧ Below wd.heap.size wd w') := Lib.hid fun w hw => by
          refine (HS2.out w (HB3.out.trans (hw.mono HB3.out.size))).mono ?_
          rintro e w' ⟨g2, cap2, L2, rfl, h1, h2, h3, h4, h5⟩
          exact ⟨g2, cap2, L2, rfl, h1, h2, h3, h4, h5, hw.trans (h5.mono hw.size)⟩
        clear HS2
        have e1 : (s.extract 0 ya).size = ya := ext_size s hin
        have e2 : (s.extract ya s.size).size = s.size - ya := ext_size s (Nat.le_refl _)
        have R1 : ∀ w, (Op.stringOp .add (s.extract 0 ya) b).run Tryd.prog w = .ok (.string (s.extract 0 ya ++ b)) w := fun w => run_string_add_sum w _ _ (by omega)
        have R2 : ∀ w, (Op.stringOp .add (s.extract 0 ya ++ b) (s.extract ya s.size)).run Tryd.prog w = .ok (.string ((s.extract 0 ya ++ b) ++ s.extract ya s.size)) w := fun w => run_string_add_sum w _ _ (by rw [ByteArray.size_append]; omega)
        clear e1 e2
        go_region_held3 (fun w' => w'.cell? ⟨g, k * 5 + 1, none⟩ = some (.int .i64 (ya : Int)) ∧ Below wd.heap.size wd w')
          (first
            | exact ⟨HK.out _ (Below.refl _ _).drew, (Below.refl _ _).drew⟩
            | exact ⟨HK.out _ hbk, hbk⟩
            | exact ⟨HK.out _ (hbk.alloc hbk.size _), hbk.alloc hbk.size _⟩
            | (go_split_ands; exact ⟨HK.out _ (Below.alloc (by assumption) (Below.size (by assumption)) _), Below.alloc (by assumption) (Below.size (by assumption)) _⟩)
            | (go_split_ands; exact ⟨HK.out _ (by assumption), by assumption⟩)
            | exact ⟨HK.out _ ((hbk.setCell (p := ⟨wd.heap.size, 0, none⟩) (Nat.le_refl _) _).setCell (p := ⟨wd.heap.size, 1, none⟩) (Nat.le_refl _) _), (hbk.setCell (p := ⟨wd.heap.size, 0, none⟩) (Nat.le_refl _) _).setCell (p := ⟨wd.heap.size, 1, none⟩) (Nat.le_refl _) _⟩)
          (first | (go_at_call 35; go_split_ands; refine (HS3.out _ (by assumption)).mono ?_; rintro e w5 ⟨g2, cap2, L2, rfl, hc2, hs2, hlo, hlt, hb5, hbk⟩; obtain ⟨hcb, hfb⟩ := bcell hb5))
        all_goals (go_wp2_with fail; go_meet)
        · have hba : Below w5.heap.size w5 (w5.alloc S0) := (Below.refl _ _).alloc (Nat.le_refl _) _
          exact ⟨g2, cap2, L2, _, rfl, rfl, by simp only [World.cell?, heap_alloc_new]; rfl, hc2.stay hlt hba, (hs2.stay hba).low (Nat.zero_le _), Nat.lt_of_lt_of_le hlt hba.size, hbk.alloc hbk.size _⟩
        · have hl : wd.heap.size < ((wd.alloc S0).drew).heap.size := by show wd.heap.size < (wd.alloc S0).heap.size; simp
          have x0 : w5.cell? ⟨wd.heap.size, 0, none⟩ = some (.int .i64 0) := (hcb _ 0 hl).trans (by show (wd.alloc S0).cell? _ = _; simp only [World.cell?, heap_alloc_new]; rfl)
          have hne : wd.heap.size ≠ g2 := by have : (wd.alloc S0).heap.size ≤ g2 := hlo; simp at this; omega
          refine ⟨g2, cap2, L2, _, rfl, rfl, ?_, ?_, ?_, by simpa using hlt, (hbk.setCell (p := ⟨wd.heap.size, 0, none⟩) (Nat.le_refl _) _).setCell (p := ⟨wd.heap.size, 1, none⟩) (Nat.le_refl _) _⟩
          · exact (World.cell?_setCell_other _ _ _ _ (by intro h; cases h)).trans (World.cell?_setCell_same _ _ _ x0)
          · exact (hc2.setFar (p := ⟨wd.heap.size, 0, none⟩) hne _).setFar (p := ⟨wd.heap.size, 1, none⟩) hne _
          · exact ((hs2.setLow (p := ⟨wd.heap.size, 0, none⟩) hl _).setLow (p := ⟨wd.heap.size, 1, none⟩) hl _).low (Nat.zero_le _)
      case rest =>
        obtain ⟨g2, cap2, L2, H, rfl, rfl, q0, hc2, hs2, hg2', hb4⟩ := hcut
        obtain ⟨hnL, hnG⟩ := HN.out
        have hl2 : L2.length = n := by have := hs2.1; rw [spread_len] at this; omega
        have HB4 := Lib.hid (HB3.out.trans (hb4.mono HB3.out.size))
        have HC1 := Lib.hid (HCE3.out.stay hg3 hb4)
        have HC2 := Lib.hid hc2
        have HS1 := Lib.hid ((HSO3.out.stay hb4).low (Nat.zero_le _))
        have HS2' := Lib.hid hs2
        have HL2 := Lib.hid hl2
        have HX := Lib.hid (partsE_sets HP.out)
        have hg4 : g < wc.heap.size := Nat.lt_of_lt_of_le hg3 hb4.size
        have HPI := Lib.hid (fun (i : Nat) (y : Pt) (hy : G[i]? = some y) => partsE_in HP.out hy)
        clear hb4 hc2 hs2 hl2 hnL hnG c1 HK HCE3 HSO3 HP HJ HB2 HS2 m2 m4 hin p1 p2 p4 hg3 hg2
        go_upto_region 13 with fail
        go_wp2_with fail
        go_loopw [13, 14] (fun x13 x14 wx => ∃ (i : Nat) (y : Value), i ≤ n ∧ x13 = .int .i64 (i : Int) ∧ x14 = y ∧ Below wc.heap.size wc wx) (fun x13 _ _ => n - (intOf x13).toNat)
        case atStart => exact ⟨0, _, Nat.zero_le _, rfl, rfl, Below.refl _ _⟩
        case round =>
          obtain ⟨i, xb, hi, rfl, rfl, hBr⟩ := hrel
          have HBR := Lib.hid hBr
          have HBW := Lib.hid (HB4.out.trans (hBr.mono HB4.out.size))
          by_cases hlt : i < n
          · have g1 : (i : Int) < (n : Int) := by omega
            have g3 : decide ((i : Int) < (n : Int)) = true := decide_eq_true g1
            have g0 : (0 : Int) ≤ (i : Int) := by omega
            obtain ⟨hnL, hnG⟩ := HN.out
            obtain ⟨x, hx⟩ : ∃ x, L[i]? = some x := ⟨L[i], List.getElem?_eq_getElem (by omega)⟩
            obtain ⟨y, hy⟩ : ∃ y, G[i]? = some y := ⟨G[i], List.getElem?_eq_getElem (by omega)⟩
            obtain ⟨z, hz⟩ : ∃ z, L2[i]? = some z := ⟨L2[i]'(by have := HL2.out; omega), List.getElem?_eq_getElem _⟩
            have hy2 := spread_get (k := k) (m := b.size) (by omega) hy
            have hxy := HS1.out.2 i x y hx hy
            have hzy := HS2'.out.2 i z _ hz hy2
            have hin := HPI.out i y hy
            have hbd := HX.out y (List.mem_of_getElem? hy)
            obtain ⟨a0, a1, a2, a3, a4⟩ := HC1.out.stay hg4 hBr i x hx
            obtain ⟨b0, b1, b2, b3, b4⟩ := HC2.out.stay hg2' hBr i z hz
            obtain ⟨xk, xa, xe, xt, xv⟩ := x
            obtain ⟨zk, za, ze, zt, zv⟩ := z
            obtain ⟨qk, qa, qe, qt, yg⟩ := y
            simp only [keyT, Prod.mk.injEq] at hxy
            obtain ⟨⟨h1, h2, h3, h4⟩, hsx⟩ := hxy
            obtain ⟨O1, r1, l1, i1⟩ := (hsx.stay hBr).rgs fun l hl => by have := hbd l hl; omega
            have hg5 : g < wr.heap.size := Nat.lt_of_lt_of_le hg4 hBr.size
            have hg6 : g2 < wr.heap.size := Nat.lt_of_lt_of_le hg2' hBr.size
            simp only [] at a0 a1 a2 a3 a4 b0 b1 b2 b3 b4
            rw [h1] at a0
            rw [h2] at a1
            rw [h3] at a2
            rw [h4] at a3
            have v1 : qa ≤ 2000 := by have := hin.1; simp only [] at this; omega
            have v2 : qe ≤ 2000 := by have := hin.2; simp only [] at this; omega
            by_cases hki : k ≤ i
            · as_aux_lemma =>
              rw [if_pos hki] at hzy
              simp only [Pt.by, keyT, Prod.mk.injEq] at hzy
              obtain ⟨⟨j1, j2, j3, j4⟩, hsz⟩ := hzy
              rw [j1] at b0
              rw [j2] at b1
              rw [j3] at b2
              rw [j4] at b3
              obtain ⟨O2, r2, l2, i2⟩ := (hsz.stay hBr).rgs fun l hl => by have := hbd l hl; omega
              have hO : O2 = O1 := i2.uniq i1 fun _ => Iff.rfl
              subst hO
              simp only [Int.natCast_add] at b1 b2
              have k1 : (k : Int) ≤ (i : Int) := by omega
              have k2 : decide ((k : Int) ≤ (i : Int)) = true := decide_eq_true k1
              have HKC : Hid (∀ w', Below wr.heap.size wr w' → w'.cell? ⟨g, i * 5, none⟩ = some (.int .i64 qk) ∧ w'.cell? ⟨g, i * 5 + 1, none⟩ = some (.int .i64 (qa : Int)) ∧ w'.cell? ⟨g, i * 5 + 2, none⟩ = some (.int .i64 (qe : Int)) ∧ w'.cell? ⟨g, i * 5 + 3, none⟩ = some (.string qt) ∧ w'.cell? ⟨g, i * 5 + 4, none⟩ = some xv ∧
                w'.cell? ⟨g2, i * 5, none⟩ = some (.int .i64 qk) ∧ w'.cell? ⟨g2, i * 5 + 1, none⟩ = some (.int .i64 ((qa : Int) + (b.size : Int))) ∧ w'.cell? ⟨g2, i * 5 + 2, none⟩ = some (.int .i64 ((qe : Int) + (b.size : Int))) ∧ w'.cell? ⟨g2, i * 5 + 3, none⟩ = some (.string qt) ∧ w'.cell? ⟨g2, i * 5 + 4, none⟩ = some zv ∧ Below wr.heap.size wr w') := Lib.hid fun w' hb =>
                ⟨(hb.cell (p := ⟨g, _, none⟩) hg5).trans a0, (hb.cell (p := ⟨g, _, none⟩) hg5).trans a1, (hb.cell (p := ⟨g, _, none⟩) hg5).trans a2, (hb.cell (p := ⟨g, _, none⟩) hg5).trans a3, (hb.cell (p := ⟨g, _, none⟩) hg5).trans a4,
                  (hb.cell (p := ⟨g2, _, none⟩) hg6).trans b0, (hb.cell (p := ⟨g2, _, none⟩) hg6).trans b1, (hb.cell (p := ⟨g2, _, none⟩) hg6).trans b2, (hb.cell (p := ⟨g2, _, none⟩) hg6).trans b3, (hb.cell (p := ⟨g2, _, none⟩) hg6).trans b4, hb⟩
              have HSM : Hid (∀ w', Below wr.heap.size wr w' → Calls Tryd.prog 25 #[zv, xv] w' fun e w7 => e = .returned (.bool true) ∧ Below wr.heap.size wr w7) := Lib.hid fun w' hb =>
                (same_any (r2.stay hb) (r1.stay hb) l1 l1 true ⟨fun _ _ => Iff.rfl, fun _ => rfl⟩).mono fun _ _ h => ⟨h.1, hb.trans (h.2.mono hb.size)⟩
              clear hsx hsz r1 r2 i1 i2 hbd hin hx hz hy hy2 hki hBr hnL hnG h1 h2 h3 h4 j1 j2 j3 j4
              have e1 : IntKind.i64.wrap ((qa : Int) + (b.size : Int) - (b.size : Int)) = (qa : Int) := by rw [Int.add_sub_cancel]; exact IntWalk.i64_in _ (by omega)
              have e2 : IntKind.i64.wrap ((qe : Int) + (b.size : Int) - (b.size : Int)) = (qe : Int) := by rw [Int.add_sub_cancel]; exact IntWalk.i64_in _ (by omega)
              have e3 : IntKind.i64.wrap (qa : Int) = (qa : Int) := IntWalk.i64_in _ (by omega)
              have e4 : IntKind.i64.wrap (qe : Int) = (qe : Int) := IntWalk.i64_in _ (by omega)
              go_upto_region 19 with fail
              first | (go_region_held3 (fun w' => w'.cell? ⟨g, i * 5, none⟩ = some (.int .i64 qk) ∧ w'.cell? ⟨g, i * 5 + 1, none⟩ = some (.int .i64 (qa : Int)) ∧ w'.cell? ⟨g, i * 5 + 2, none⟩ = some (.int .i64 (qe : Int)) ∧ w'.cell? ⟨g, i * 5 + 3, none⟩ = some (.string qt) ∧ w'.cell? ⟨g, i * 5 + 4, none⟩ = some xv ∧
                w'.cell? ⟨g2, i * 5, none⟩ = some (.int .i64 qk) ∧ w'.cell? ⟨g2, i * 5 + 1, none⟩ = some (.int .i64 ((qa : Int) + (b.size : Int))) ∧ w'.cell? ⟨g2, i * 5 + 2, none⟩ = some (.int .i64 ((qe : Int) + (b.size : Int))) ∧ w'.cell? ⟨g2, i * 5 + 3, none⟩ = some (.string qt) ∧ w'.cell? ⟨g2, i * 5 + 4, none⟩ = some zv ∧ Below wr.heap.size wr w')
                (first
                  | exact HKC.out _ (Below.refl _ _).drew
                  | exact HKC.out _ hb)
                (first | (go_at_call 25; go_split_ands; refine (HSM.out _ (by assumption)).mono ?_; rintro e w7 ⟨rfl, hb⟩))) | (fail)
              have HB7 := Lib.hid (HBR.out.trans (hb.mono HBR.out.size))
              clear hb HSM a0 a1 a2 a3 a4 b0 b1 b2 b3 b4 HKC e1 e2 e3 e4
              go_wp2_with fail
              go_roundw
              case rel => exact ⟨i + 1, _, by omega, by go_num, rfl, HB7.out⟩
              case measure => simp [intOf]; omega
            · as_aux_lemma =>
              rw [if_neg hki] at hzy
              simp only [keyT, Prod.mk.injEq] at hzy
              obtain ⟨⟨j1, j2, j3, j4⟩, hsz⟩ := hzy
              rw [j1] at b0
              rw [j2] at b1
              rw [j3] at b2
              rw [j4] at b3
              obtain ⟨O2, r2, l2, i2⟩ := (hsz.stay hBr).rgs fun l hl => by have := hbd l hl; omega
              have hO : O2 = O1 := i2.uniq i1 fun _ => Iff.rfl
              subst hO
              have k1 : ¬ (k : Int) ≤ (i : Int) := by omega
              have k2 : decide ((k : Int) ≤ (i : Int)) = false := decide_eq_false k1
              have HKC : Hid (∀ w', Below wr.heap.size wr w' → w'.cell? ⟨g, i * 5, none⟩ = some (.int .i64 qk) ∧ w'.cell? ⟨g, i * 5 + 1, none⟩ = some (.int .i64 (qa : Int)) ∧ w'.cell? ⟨g, i * 5 + 2, none⟩ = some (.int .i64 (qe : Int)) ∧ w'.cell? ⟨g, i * 5 + 3, none⟩ = some (.string qt) ∧ w'.cell? ⟨g, i * 5 + 4, none⟩ = some xv ∧
                w'.cell? ⟨g2, i * 5, none⟩ = some (.int .i64 qk) ∧ w'.cell? ⟨g2, i * 5 + 1, none⟩ = some (.int .i64 (qa : Int)) ∧ w'.cell? ⟨g2, i * 5 + 2, none⟩ = some (.int .i64 (qe : Int)) ∧ w'.cell? ⟨g2, i * 5 + 3, none⟩ = some (.string qt) ∧ w'.cell? ⟨g2, i * 5 + 4, none⟩ = some zv ∧ Below wr.heap.size wr w') := Lib.hid fun w' hb =>
                ⟨(hb.cell (p := ⟨g, _, none⟩) hg5).trans a0, (hb.cell (p := ⟨g, _, none⟩) hg5).trans a1, (hb.cell (p := ⟨g, _, none⟩) hg5).trans a2, (hb.cell (p := ⟨g, _, none⟩) hg5).trans a3, (hb.cell (p := ⟨g, _, none⟩) hg5).trans a4,
                  (hb.cell (p := ⟨g2, _, none⟩) hg6).trans b0, (hb.cell (p := ⟨g2, _, none⟩) hg6).trans b1, (hb.cell (p := ⟨g2, _, none⟩) hg6).trans b2, (hb.cell (p := ⟨g2, _, none⟩) hg6).trans b3, (hb.cell (p := ⟨g2, _, none⟩) hg6).trans b4, hb⟩
              have HSM : Hid (∀ w', Below wr.heap.size wr w' → Calls Tryd.prog 25 #[zv, xv] w' fun e w7 => e = .returned (.bool true) ∧ Below wr.heap.size wr w7) := Lib.hid fun w' hb =>
                (same_any (r2.stay hb) (r1.stay hb) l1 l1 true ⟨fun _ _ => Iff.rfl, fun _ => rfl⟩).mono fun _ _ h => ⟨h.1, hb.trans (h.2.mono hb.size)⟩
              clear hsx hsz r1 r2 i1 i2 hbd hin hx hz hy hy2 hki hBr hnL hnG h1 h2 h3 h4 j1 j2 j3 j4
              have e1 : IntKind.i64.wrap ((qa : Int) - 0) = (qa : Int) := by rw [Int.sub_zero]; exact IntWalk.i64_in _ (by omega)
              have e2 : IntKind.i64.wrap ((qe : Int) - 0) = (qe : Int) := by rw [Int.sub_zero]; exact IntWalk.i64_in _ (by omega)
              have e3 : IntKind.i64.wrap (qa : Int) = (qa : Int) := IntWalk.i64_in _ (by omega)
              have e4 : IntKind.i64.wrap (qe : Int) = (qe : Int) := IntWalk.i64_in _ (by omega)
              go_upto_region 19 with fail
              first | (go_region_held3 (fun w' => w'.cell? ⟨g, i * 5, none⟩ = some (.int .i64 qk) ∧ w'.cell? ⟨g, i * 5 + 1, none⟩ = some (.int .i64 (qa : Int)) ∧ w'.cell? ⟨g, i * 5 + 2, none⟩ = some (.int .i64 (qe : Int)) ∧ w'.cell? ⟨g, i * 5 + 3, none⟩ = some (.string qt) ∧ w'.cell? ⟨g, i * 5 + 4, none⟩ = some xv ∧
                w'.cell? ⟨g2, i * 5, none⟩ = some (.int .i64 qk) ∧ w'.cell? ⟨g2, i * 5 + 1, none⟩ = some (.int .i64 (qa : Int)) ∧ w'.cell? ⟨g2, i * 5 + 2, none⟩ = some (.int .i64 (qe : Int)) ∧ w'.cell? ⟨g2, i * 5 + 3, none⟩ = some (.string qt) ∧ w'.cell? ⟨g2, i * 5 + 4, none⟩ = some zv ∧ Below wr.heap.size wr w')
                (first
                  | exact HKC.out _ (Below.refl _ _).drew
                  | exact HKC.out _ hb)
                (first | (go_at_call 25; go_split_ands; refine (HSM.out _ (by assumption)).mono ?_; rintro e w7 ⟨rfl, hb⟩))) | (fail)
              have HB7 := Lib.hid (HBR.out.trans (hb.mono HBR.out.size))
              clear hb HSM a0 a1 a2 a3 a4 b0 b1 b2 b3 b4 HKC e1 e2 e3 e4
              go_wp2_with fail
              go_roundw
              case rel => exact ⟨i + 1, _, by omega, by go_num, rfl, HB7.out⟩
              case measure => simp [intOf]; omega
          · have g1 : ¬ (i : Int) < (n : Int) := by omega
            have g3 : decide ((i : Int) < (n : Int)) = false := decide_eq_false g1
            have HC := Lib.hid (works_any _ (HT.out.stay HBW.out))
            clear hBr
            go_wp2_with fail
            refine HC.out.mono ?_
            rintro e w7 ⟨rfl, hb⟩
            have HB7 := Lib.hid (HBW.out.trans (hb.mono HBW.out.size))
            clear hb HC
            go_wp2
            go_ret
            exact ⟨rfl, HB7.out⟩

theorem spreads_all {W : World} (s : ByteArray) (a kd : Int) (T : GT W) : Calls Tryd.prog 9 #[.string s, .int .i64 a, .int .i64 kd] W fun e w' => e = .returned (.bool true) ∧ Below W.heap.size W w' := by
  by_cases hs : 2000 < s.size
  · exact spreads_long s a kd hs
  · exact spreads_walk s a kd hs T

end Go.Proofs.YtfjlhfalnciamaaDoor.Lex
