/- The law EditLines, walked. -/
import Derived.Test.YtfcdmkfbkkogbaaDoorEditH
import Derived.Deep.DeepCutAuto
import Derived.Deep.RegionHeld3
namespace Go.Proofs.YtfcdmkfbkkogbaaDoor.Edit
open Go Go.RowKit Go.Proofs.YtfcdmkfbkkogbaaDoor.Utf

/-- What Line tells. -/
def LineP (s : ByteArray) (a : Int) (ln co is : Value) : Prop :=
  (∃ k : Nat, a = k ∧ k ≤ s.size ∧ caretB (txt s) (k : Int) = true ∧ ln = .int .i64 (nl (txt s) k : Int) ∧ co = .int .i64 (colN (s.extract 0 k) : Int) ∧ is = .bool true) ∨
  (caretB (txt s) a = false ∧ ln = .int .i64 0 ∧ co = .int .i64 0 ∧ is = .bool false)

set_option maxRecDepth 100000 in
set_option maxHeartbeats 16000000 in
theorem lines_walk (s : ByteArray) (a x y : Int) (W : World) (h : U8 W)
    (ha : -9223372036854775808 ≤ a ∧ a ≤ 9223372036854775807) (hx : -9223372036854775808 ≤ x ∧ x ≤ 9223372036854775807) (hy : -9223372036854775808 ≤ y ∧ y ≤ 9223372036854775807) :
    Calls Tryd.prog 10 #[.string s, .int .i64 a, .agg #[.int .i64 x, .int .i64 y]] W fun e w' => e = .returned (.bool true) ∧ Below W.heap.size W w' := by
  have hB0 := (Below.refl W.heap.size W).alloc (Nat.le_refl _) (.cells #[.int .i64 x, .int .i64 y] 50)
  have HB0 := Lib.hid hB0
  have HT0 := Lib.hid (h.stay hB0)
  clear hB0 h
  by_cases hl : 1000 < s.size
  · have e1 : decide ((1000 : Int) < (s.size : Int)) = true := decide_eq_true (by omega)
    clear ha hx hy
    go_enter Tryd.func10, Tryd.ntmps10
    go_wp2
    go_ret
    exact ⟨rfl, HB0.out⟩
  have e1 : decide ((1000 : Int) < (s.size : Int)) = false := decide_eq_false (by omega)
  have hs6 : s.size ≤ 1000 := by omega
  have HR := Lib.hid (reflines_any s (W.alloc (.cells #[.int .i64 x, .int .i64 y] 50)) (by omega))
  have HL := Lib.hid (fun w => lines_any s w (by omega))
  have hl6 : nl (txt s) s.size ≤ 1000 := Nat.le_trans (nl_small _ _) hs6
  have hbl := begs_len (txt s) s.size
  rw [lines_all] at HL
  obtain ⟨B, hB⟩ : ∃ B, begs (txt s) s.size = B := ⟨_, rfl⟩
  obtain ⟨l, hll⟩ : ∃ l, nl (txt s) s.size = l := ⟨_, rfl⟩
  rw [hB] at HR hbl
  rw [hll] at HL hl6 hbl
  have HBB := Lib.hid hB
  have HLL := Lib.hid hll
  have HX := Lib.hid hx
  have HY := Lib.hid hy
  have HA := Lib.hid ha
  clear hl hB hll ha hx hy
  go_enter Tryd.func10, Tryd.ntmps10
  go_wp2_with fail
  refine HR.out.mono ?_
  rintro e w1 ⟨v, rfl, hrow, hb⟩
  have HT1 := Lib.hid (HT0.out.stay hb)
  have HB1 := Lib.hid (HB0.out.trans (hb.mono (by simp)))
  have hrow1 : Lrow w1 0 v B := ⟨hrow.1, by
    rcases hrow.2 with h0 | ⟨g, cap, cur, h1, h2, h3⟩
    · exact .inl h0
    · exact .inr ⟨g, cap, cur, h1, Nat.zero_le _, h3⟩⟩
  have hbox : w1.heap[W.heap.size]? = some (.cells #[.int .i64 x, .int .i64 y] 50 (0, 0)) := (hb.block _ (by simp)).trans (heap_alloc_new W _)
  have HBOX := Lib.hid hbox
  obtain ⟨gv, cap, rfl, hc1, hc2, -, hgv, hcells⟩ := hrow1.at (by omega)
  have HCE := Lib.hid hcells
  have hbox2 : W.heap.size < w1.heap.size := (Array.getElem?_eq_some_iff.1 hbox).1
  rw [hbl]
  clear hb hrow hrow1 hbox HR hcells
  have hc3 : l + 1 ≤ cap := by omega
  clear hc1
  go_wp2_with fail
  refine (HL.out _).mono ?_
  rintro e w2 ⟨rfl, rfl⟩
  have ebl : (((1 : Int) + (l : Int)) == ((l : Int) + 1)) = true := by rw [beq_iff_eq]; omega
  have ebl2 : (((1 : Int) + (l : Int)) != ((l : Int) + 1)) = false := by rw [bne_eq_false_iff_eq]; omega
  go_upto_region 6 with fail
  go_cut [8, 9, 10] (fun ln co is wx => LineP s a ln co is ∧ Below w1.heap.size w1 wx)
  case first => as_aux_lemma =>
    by_cases hc : caretB (txt s) a = true
    · have hk : 0 ≤ a := by
        apply Int.not_lt.1
        intro hn
        rw [caret_no (txt s) (.inl hn)] at hc
        cases hc
      obtain ⟨k, rfl⟩ := Int.eq_ofNat_of_zero_le hk
      have hks : k ≤ s.size := ((caret_iff (txt s) k).1 hc).1
      have HY := Lib.hid (line_yes s k w1 HT1.out (by omega) hc)
      rw [lines_ext s hks] at HY
      have HP : Hid (LineP s k (.int .i64 (nl (txt s) k : Int)) (.int .i64 (colN (s.extract 0 k) : Int)) (.bool true)) := .inl ⟨k, rfl, hks, hc, rfl, rfl, rfl⟩
      clear hc hk
      go_wp2_with fail
      refine HY.out.mono ?_
      rintro e w2 ⟨rfl, hb⟩
      have HB2 := Lib.hid hb
      clear hb
      go_wp2_with fail
      go_meet
      exact ⟨HP.out, HB2.out⟩
    · have hc2 : caretB (txt s) a = false := by
        cases h : caretB (txt s) a with
        | true => exact absurd h hc
        | false => rfl
      have HY := Lib.hid (line_no s a w1 HT1.out (by omega) hc2)
      have HP : Hid (LineP s a (.int .i64 0) (.int .i64 0) (.bool false)) := .inr ⟨hc2, rfl, rfl, rfl⟩
      clear hc hc2
      go_wp2_with fail
      refine HY.out.mono ?_
      rintro e w2 ⟨rfl, hb⟩
      have HB2 := Lib.hid hb
      clear hb
      go_wp2_with fail
      go_meet
      exact ⟨HP.out, HB2.out⟩
  case rest =>
    obtain ⟨hp, hb⟩ := hcut
    have HP := Lib.hid hp
    have HB2 := Lib.hid hb
    clear hp hb
    go_upto_region 7 with fail
    go_cut [41] (fun b wx => b = .bool false ∧ Below w1.heap.size w1 wx)
    case first => as_aux_lemma =>
      rcases HP.out with ⟨k, rfl, hks, hc, rfl, rfl, rfl⟩ | ⟨hc, rfl, rfl, rfl⟩
      · have HC := Lib.hid (fun w => refcaret_any s k w (by omega) (by omega))
        rw [hc] at HC
        have e2 : decide ((0 : Int) ≤ (k : Int)) = true := decide_eq_true (by omega)
        clear hc HP
        go_wp2_with fail
        refine (HC.out _).mono ?_
        rintro e w3 ⟨rfl, hb⟩
        have HB3 := Lib.hid (HB2.out.trans (hb.mono HB2.out.size))
        clear hb
        go_wp2_with fail
        go_meet
        exact ⟨rfl, HB3.out⟩
      · by_cases hn : a < 0
        · have e2 : decide (0 ≤ a) = false := decide_eq_false (by omega)
          clear hc HP hn
          go_wp2_with fail
          go_meet
          exact ⟨rfl, HB2.out⟩
        · obtain ⟨k, rfl⟩ := Int.eq_ofNat_of_zero_le (show 0 ≤ a by omega)
          have HC := Lib.hid (fun w => refcaret_any s k w (by omega) HA.out.2)
          rw [hc] at HC
          have e2 : decide ((0 : Int) ≤ (k : Int)) = true := decide_eq_true (by omega)
          clear hc HP hn
          go_wp2_with fail
          refine (HC.out _).mono ?_
          rintro e w3 ⟨rfl, hb⟩
          have HB3 := Lib.hid (HB2.out.trans (hb.mono HB2.out.size))
          clear hb
          go_wp2_with fail
          go_meet
          exact ⟨rfl, HB3.out⟩
    case rest =>
      obtain ⟨rfl, hb⟩ := hcut
      have HB3 := Lib.hid hb
      clear hb HB2
      go_upto_if 42 with fail
      go_cut [8, 9, 10] (fun _ _ _ wx => Below w1.heap.size w1 wx)
      case first => as_aux_lemma =>
        rcases HP.out with ⟨k, rfl, hks, hc, rfl, rfl, rfl⟩ | ⟨hc, rfl, rfl, rfl⟩
        · have hkl : nl (txt s) k ≤ l := by rw [← HLL.out]; exact nl_le (txt s) hks
          obtain ⟨g, hg, hgl, hgs⟩ := begs_get s (show nl (txt s) k ≤ nl (txt s) s.size by rw [HLL.out]; exact hkl)
          have hgk : g ≤ k := (ln_le hgl).2 (Nat.le_refl _)
          have hcol : (txt (s.extract g k)).cnt = colN (s.extract 0 k) := by
            unfold colN
            rw [(bg_ln s hks).1.uniq hgl, ByteArray.extract_extract, ext_size s hks, Nat.sub_zero, Nat.zero_add, Nat.zero_add, Nat.min_self]
          rw [HBB.out] at hg
          have cg : wc.cell? ⟨gv, nl (txt s) k, none⟩ = some (.int .i64 (g : Int)) := by rw [HB3.out.cell (p := ⟨gv, _, none⟩) hgv]; exact HCE.out _ _ hg
          have HC := Lib.hid (fun w => refcount_any (s.extract g k) w (by rw [ext_size s hks]; omega))
          rw [hcol] at HC
          have HCELL : Hid (∀ j, j ≤ l → ∃ g' : Nat, wc.cell? ⟨gv, j, none⟩ = some (.int .i64 (g' : Int)) ∧ (g' ≤ k ↔ j ≤ nl (txt s) k) ∧ g' ≤ s.size) := fun j hj => by
            obtain ⟨g', h1, h2, h3⟩ := begs_get s (show j ≤ nl (txt s) s.size by rw [HLL.out]; exact hj)
            rw [HBB.out] at h1
            exact ⟨g', by rw [HB3.out.cell (p := ⟨gv, _, none⟩) hgv]; exact HCE.out _ _ h1, ln_le h2, h3⟩
          obtain ⟨c, hcc⟩ : ∃ c, colN (s.extract 0 k) = c := ⟨_, rfl⟩
          obtain ⟨K, hK⟩ : ∃ c, nl (txt s) k = c := ⟨_, rfl⟩
          rw [hcc] at HC ⊢
          rw [hK] at hkl cg HCELL ⊢
          have hgki : (g : Int) ≤ (k : Int) := by omega
          have hksi : (k : Int) ≤ (s.size : Int) := by omega
          clear hc hgl hg hcol hcc hK HP hgk
          go_wp2_with fail
          go_loopw [11] (fun i wx => wx = wc ∧ ∃ n : Nat, n ≤ K ∧ i = .int .i64 (n : Int)) (fun i _ => K - (intOf i).toNat)
          case atStart => exact ⟨rfl, 0, Nat.zero_le _, rfl⟩
          case round =>
            obtain ⟨rfl, n, hn, rfl⟩ := hrel
            by_cases hnK : n < K
            · obtain ⟨g', c1, c2, c3⟩ := HCELL.out (n + 1) (by omega)
              have hle : g' ≤ k := c2.2 hnK
              have e2 : decide (n < l) = true := decide_eq_true (by omega)
              have e3 : decide (g' ≤ k) = true := decide_eq_true hle
              have hnl : n < l := by omega
              clear c2 hle
              go_wp2
              go_roundw
              case rel => exact ⟨trivial, n + 1, hnK, by go_num⟩
              case measure => simp [intOf]; omega
            · obtain rfl : K = n := by omega
              by_cases hKl : K < l
              · obtain ⟨g', c1, c2, c3⟩ := HCELL.out (K + 1) (by omega)
                have hle : ¬ g' ≤ k := fun h => by have := c2.1 h; omega
                have e2 : decide (K < l) = true := decide_eq_true hKl
                have e3 : decide (g' ≤ k) = false := decide_eq_false hle
                clear c2 hle hnK
                go_wp2_with fail
                refine (HC.out _).mono ?_
                rintro e w4 ⟨rfl, hb⟩
                have HB4 := Lib.hid (HB3.out.trans (hb.mono HB3.out.size))
                clear hb
                go_wp2_with fail
                go_meet
                exact HB4.out
              · have e2 : decide (K < l) = false := decide_eq_false hKl
                clear hnK hKl
                go_wp2_with fail
                refine (HC.out _).mono ?_
                rintro e w4 ⟨rfl, hb⟩
                have HB4 := Lib.hid (HB3.out.trans (hb.mono HB3.out.size))
                clear hb
                go_wp2_with fail
                go_meet
                exact HB4.out
        · go_wp2_with fail
          go_meet
          exact HB3.out
      case rest =>
        have HP := Lib.hid (place_any s x y wc (HT1.out.stay hcut) (by omega) HX.out HY.out)
        have HB4 := Lib.hid hcut
        have b0 : wc.cell? ⟨W.heap.size, 0, none⟩ = some (.int .i64 x) := by rw [Lib.cell_of_heap ((hcut.block _ hbox2).trans HBOX.out)]; rfl
        have b1 : wc.cell? ⟨W.heap.size, 1, none⟩ = some (.int .i64 y) := by rw [Lib.cell_of_heap ((hcut.block _ hbox2).trans HBOX.out)]; rfl
        clear hcut HB3
        go_wp2_with fail
        refine HP.out.mono ?_
        rintro e w2 ⟨hp, hb⟩
        clear b0 b1 HP
        have HB5 := Lib.hid (HB4.out.trans (hb.mono HB4.out.size))
        clear hb
        have b0 : w2.cell? ⟨W.heap.size, 0, none⟩ = some (.int .i64 x) := by rw [Lib.cell_of_heap ((HB5.out.block _ hbox2).trans HBOX.out)]; rfl
        have b1 : w2.cell? ⟨W.heap.size, 1, none⟩ = some (.int .i64 y) := by rw [Lib.cell_of_heap ((HB5.out.block _ hbox2).trans HBOX.out)]; rfl
        have HW := Lib.hid (works_any w2 (HT1.out.stay HB5.out))
        have HEND : Hid (∀ w', Below w2.heap.size w2 w' → Below W.heap.size W w') := fun w' h => HB1.out.trans ((HB5.out.trans (h.mono HB5.out.size)).mono HB1.out.size)
        rcases hp with ⟨hbad, rfl⟩ | ⟨j, k, p, rfl, rfl, hjl, hin, rfl⟩ | ⟨j, k, i, p, rfl, rfl, hjl, hik, hin, hstop, rfl⟩
        · as_aux_lemma =>
          rw [lines_all, HLL.out] at hbad
          have hx0 := HX.out
          have hcs : decide (x < 0) = true ∨ (decide (x < 0) = false ∧ decide ((l : Int) + 1 ≤ x) = true) ∨ (decide (x < 0) = false ∧ decide ((l : Int) + 1 ≤ x) = false ∧ decide (y < 0) = true) := by
            by_cases h1 : x < 0
            · exact .inl (decide_eq_true h1)
            · by_cases h2 : (l : Int) + 1 ≤ x
              · exact .inr (.inl ⟨decide_eq_false h1, decide_eq_true h2⟩)
              · exact .inr (.inr ⟨decide_eq_false h1, decide_eq_false h2, decide_eq_true (by omega)⟩)
          clear hbad hx0
          rcases hcs with d1 | ⟨d1, d2⟩ | ⟨d1, d2, d3⟩
          all_goals
            go_wp2_with fail
            refine HW.out.mono ?_
            rintro e w3 ⟨rfl, hb⟩
            have HB6 := Lib.hid (HEND.out _ hb)
            clear hb
            go_wp2
            go_ret
            exact ⟨rfl, HB6.out⟩
        · as_aux_lemma =>
          rw [lines_all, HLL.out] at hjl
          obtain ⟨g, e, q, m, hg, hln, hen, hq, hqm, hge, hes, hcm, k1, k2⟩ := line_facts s (show j ≤ nl (txt s) s.size by rw [HLL.out]; exact hjl)
          rw [HBB.out] at hg k1
          rw [HLL.out] at k1 k2
          have hF := within_facts s hln hen hq hqm hin
          have hm6 : m ≤ 1000 := by
            have := (txt (s.extract g e)).cnt_le
            rw [hcm] at this
            have h2 : (txt (s.extract g e)).n = e - g := ext_size s hes
            omega
          have HC := Lib.hid (fun w => refcount_any (s.extract g e) w (by rw [ext_size s hes]; omega))
          rw [hcm] at HC
          have cj : w2.cell? ⟨gv, j, none⟩ = some (.int .i64 (g : Int)) := by rw [HB5.out.cell (p := ⟨gv, _, none⟩) hgv]; exact HCE.out _ _ hg
          have d1 : decide ((j : Int) < 0) = false := decide_eq_false (by omega)
          have d2 : decide ((l : Int) + 1 ≤ (j : Int)) = false := decide_eq_false (by omega)
          have d3 : decide (l + 1 ≤ j) = false := decide_eq_false (by omega)
          have d4 : decide (l < j) = false := decide_eq_false (by omega)
          have d5 : decide ((k : Int) < 0) = false := decide_eq_false (by omega)
          have d6 : j ≤ l := hjl
          have d7 : j ≤ 1000 := by omega
          have hgi : (g : Int) ≤ (e : Int) := by omega
          have hei : (e : Int) ≤ (s.size : Int) := by omega
          have HK1 := Lib.hid k1
          have HG := Lib.hid hg
          have HK2 := Lib.hid k2
          have HF := Lib.hid hF
          clear hin hg hln hen hq hqm hcm k1 k2 hF HP
          go_upto_if 120 with fail
          go_cut [14] (fun v wx => v = .int .i64 (e : Int) ∧ wx = w2)
          case first => as_aux_lemma =>
            by_cases hjl2 : j < l
            · have c2 : w2.cell? ⟨gv, j + 1, none⟩ = some (.int .i64 ((e : Int) + 1)) := by rw [HB5.out.cell (p := ⟨gv, _, none⟩) hgv]; exact HCE.out _ _ (HK1.out hjl2)
              have d8 : decide (j < l) = true := decide_eq_true hjl2
              go_wp2_with fail
              go_meet
              exact ⟨rfl, rfl⟩
            · have he := HK2.out hjl2
              have d8 : decide (j < l) = false := decide_eq_false hjl2
              go_wp2_with fail
              go_meet
              exact ⟨by rw [he], rfl⟩
          case rest =>
            obtain ⟨rfl, rfl⟩ := hcut
            go_wp2_with fail
            refine (HC.out _).mono ?_
            rintro e2 w3 ⟨rfl, hb⟩
            have HB6 := Lib.hid (HB5.out.trans (hb.mono HB5.out.size))
            have b0' : w3.cell? ⟨W.heap.size, 0, none⟩ = some (.int .i64 (j : Int)) := by rw [Lib.cell_of_heap ((HB6.out.block _ hbox2).trans HBOX.out)]; rfl
            have b1' : w3.cell? ⟨W.heap.size, 1, none⟩ = some (.int .i64 (k : Int)) := by rw [Lib.cell_of_heap ((HB6.out.block _ hbox2).trans HBOX.out)]; rfl
            have cj' : w3.cell? ⟨gv, j, none⟩ = some (.int .i64 (g : Int)) := by rw [hb.cell (p := ⟨gv, _, none⟩) (Nat.lt_of_lt_of_le hgv HB5.out.size)]; exact cj
            have HW3 := Lib.hid (works_any w3 (HT1.out.stay HB6.out))
            have HEND3 : Hid (∀ w', Below w3.heap.size w3 w' → Below W.heap.size W w') := fun w' h => HB1.out.trans ((HB6.out.trans (h.mono HB6.out.size)).mono HB1.out.size)
            clear hb cj b0 b1
            have d8 : decide (m < k) = false := decide_eq_false (by have := HF.out.2.2.1; omega)
            have d9 : ¬ m < k := by have := HF.out.2.2.1; omega
            have hF := HF.out
            have H34 := Lib.hid (fun w => refcaret_any s p w (by omega) (by omega))
            rw [hF.2.2.2.2.1] at H34
            have H35 := Lib.hid (fun w => refcount_any (s.extract g p) w (by rw [ext_size s (by omega)]; omega))
            rw [hF.2.2.2.1] at H35
            have H28 := Lib.hid (fun w hw => works_any w hw)
            have HKEEP : Hid (∀ w', Below w1.heap.size w1 w' → w'.cell? ⟨W.heap.size, 0, none⟩ = some (.int .i64 (j : Int)) ∧ w'.cell? ⟨W.heap.size, 1, none⟩ = some (.int .i64 (k : Int)) ∧ w'.cell? ⟨gv, j, none⟩ = some (.int .i64 (g : Int))) := fun w' h =>
              ⟨by rw [Lib.cell_of_heap ((h.block _ hbox2).trans HBOX.out)]; rfl, by rw [Lib.cell_of_heap ((h.block _ hbox2).trans HBOX.out)]; rfl, by rw [h.cell (p := ⟨gv, _, none⟩) hgv]; exact HCE.out _ _ HG.out⟩
            have f1 : decide (g ≤ p) = true := decide_eq_true hF.1
            have f2 : decide (p ≤ e) = true := decide_eq_true hF.2.1
            have f3 : g ≤ p := hF.1
            have f4 : p ≤ e := hF.2.1
            have f5 : (g : Int) ≤ (p : Int) := by omega
            have f6 : (p : Int) ≤ (s.size : Int) := by omega
            have f7 : (j : Int) < (l : Int) + 1 := by omega
            have f8 : (0 : Int) ≤ (j : Int) := by omega
            have f9 : (0 : Int) ≤ (g : Int) := by omega
            clear hF HF
            go_upto_region 26 with fail
            go_region_held3 (fun w' => w'.cell? ⟨W.heap.size, 0, none⟩ = some (.int .i64 (j : Int)) ∧ w'.cell? ⟨W.heap.size, 1, none⟩ = some (.int .i64 (k : Int)) ∧ w'.cell? ⟨gv, j, none⟩ = some (.int .i64 (g : Int)))
              (first | go_keep | exact HKEEP.out _ HB9.out | exact HKEEP.out _ HB8.out | exact HKEEP.out _ HB7.out)
              (first
                | (go_at_call 34; refine (H34.out _).mono ?_; rintro e w4 ⟨rfl, hb⟩; have HB7 := Lib.hid (HB6.out.drew.trans (hb.mono HB6.out.size)); clear hb)
                | (go_at_call 35; refine (H35.out _).mono ?_; rintro e w5 ⟨rfl, hb⟩; have HB8 := Lib.hid (HB7.out.trans (hb.mono HB7.out.size)); clear hb)
                | (go_at_call 28; refine (H28.out _ (HT1.out.stay HB8.out)).mono ?_; rintro e w6 ⟨rfl, hb⟩; have HB9 := Lib.hid (HB8.out.trans (hb.mono HB8.out.size)); clear hb))
            go_wp2
            go_ret
            exact ⟨rfl, HB1.out.trans (HB9.out.mono HB1.out.size)⟩
        · as_aux_lemma =>
          rw [lines_all, HLL.out] at hjl
          obtain ⟨g, e, q, m, hg, hln, hen, hq, hqm, hge, hes, hcm, k1, k2⟩ := line_facts s (show j ≤ nl (txt s) s.size by rw [HLL.out]; exact hjl)
          rw [HBB.out] at hg k1
          rw [HLL.out] at k1 k2
          have hF := within_facts s hln hen hq hqm hin
          have hm6 : m ≤ 1000 := by
            have := (txt (s.extract g e)).cnt_le
            rw [hcm] at this
            have h2 : (txt (s.extract g e)).n = e - g := ext_size s hes
            omega
          have HC := Lib.hid (fun w => refcount_any (s.extract g e) w (by rw [ext_size s hes]; omega))
          rw [hcm] at HC
          have cj : w2.cell? ⟨gv, j, none⟩ = some (.int .i64 (g : Int)) := by rw [HB5.out.cell (p := ⟨gv, _, none⟩) hgv]; exact HCE.out _ _ hg
          have d1 : decide ((j : Int) < 0) = false := decide_eq_false (by omega)
          have d2 : decide ((l : Int) + 1 ≤ (j : Int)) = false := decide_eq_false (by omega)
          have d3 : decide (l + 1 ≤ j) = false := decide_eq_false (by omega)
          have d4 : decide (l < j) = false := decide_eq_false (by omega)
          have d5 : decide ((k : Int) < 0) = false := decide_eq_false (by omega)
          have d6 : j ≤ l := hjl
          have d7 : j ≤ 1000 := by omega
          have hgi : (g : Int) ≤ (e : Int) := by omega
          have hei : (e : Int) ≤ (s.size : Int) := by omega
          have HK1 := Lib.hid k1
          have HG := Lib.hid hg
          have HK2 := Lib.hid k2
          have HF := Lib.hid hF
          clear hin hg hln hen hq hqm hcm k1 k2 hF HP
          go_upto_if 120 with fail
          go_cut [14] (fun v wx => v = .int .i64 (e : Int) ∧ wx = w2)
          case first => as_aux_lemma =>
            by_cases hjl2 : j < l
            · have c2 : w2.cell? ⟨gv, j + 1, none⟩ = some (.int .i64 ((e : Int) + 1)) := by rw [HB5.out.cell (p := ⟨gv, _, none⟩) hgv]; exact HCE.out _ _ (HK1.out hjl2)
              have d8 : decide (j < l) = true := decide_eq_true hjl2
              go_wp2_with fail
              go_meet
              exact ⟨rfl, rfl⟩
            · have he := HK2.out hjl2
              have d8 : decide (j < l) = false := decide_eq_false hjl2
              go_wp2_with fail
              go_meet
              exact ⟨by rw [he], rfl⟩
          case rest =>
            obtain ⟨rfl, rfl⟩ := hcut
            go_wp2_with fail
            refine (HC.out _).mono ?_
            rintro e2 w3 ⟨rfl, hb⟩
            have HB6 := Lib.hid (HB5.out.trans (hb.mono HB5.out.size))
            have b0' : w3.cell? ⟨W.heap.size, 0, none⟩ = some (.int .i64 (j : Int)) := by rw [Lib.cell_of_heap ((HB6.out.block _ hbox2).trans HBOX.out)]; rfl
            have b1' : w3.cell? ⟨W.heap.size, 1, none⟩ = some (.int .i64 (k : Int)) := by rw [Lib.cell_of_heap ((HB6.out.block _ hbox2).trans HBOX.out)]; rfl
            have cj' : w3.cell? ⟨gv, j, none⟩ = some (.int .i64 (g : Int)) := by rw [hb.cell (p := ⟨gv, _, none⟩) (Nat.lt_of_lt_of_le hgv HB5.out.size)]; exact cj
            have HW3 := Lib.hid (works_any w3 (HT1.out.stay HB6.out))
            have HEND3 : Hid (∀ w', Below w3.heap.size w3 w' → Below W.heap.size W w') := fun w' h => HB1.out.trans ((HB6.out.trans (h.mono HB6.out.size)).mono HB1.out.size)
            clear hb cj b0 b1
            have hkm : i = m := HF.out.2.2.2.2.2 hstop
            have d8 : decide (m < k) = true := decide_eq_true (by omega)
            have d9 : m < k := by omega
            clear hkm hik hstop
            go_wp2_with fail
            refine HW3.out.mono ?_
            rintro e w4 ⟨rfl, hb⟩
            have HB7 := Lib.hid (HEND3.out _ hb)
            clear hb
            go_wp2
            go_ret
            exact ⟨rfl, HB7.out⟩

end Go.Proofs.YtfcdmkfbkkogbaaDoor.Edit
