/- The law EditBack, walked. -/
import Derived.Test.YtfcdmkfbkkogbaaDoorEditP
import Derived.IntWalk
import Derived.Deep.DeepCutAuto
import Derived.BigQuiet
namespace Go.Proofs.YtfcdmkfbkkogbaaDoor.Edit
open Go Go.RowKit Go.Proofs.YtfcdmkfbkkogbaaDoor.Utf

theorem edit_put (x0 x1 x2 : Value) (w : World) : (Instr.field 41 (.agg #[x0, x1, x2]) 2).run Tryd.prog w = .ok x2 w := by kernel_rfl
theorem appX_back {s : ByteArray} {k m : Nat} {p : ByteArray} (h : codeE s k m p = 0) : appX s k m p = applS s k m p := by
  unfold appX
  rw [if_pos h, Int.toNat_natCast, Int.toNat_natCast]
theorem place_in (q : Int) (n : Nat) : ∃ (u : Int) (A : Nat), min q (n : Int) = u ∧ max 0 u = (A : Int) ∧ A ≤ n :=
  ⟨min q n, (max 0 (min q n)).toNat, rfl, by omega, by omega⟩

set_option maxRecDepth 100000 in
set_option maxHeartbeats 16000000 in
theorem back_walk2 (s : ByteArray) (a c : Int) (p : ByteArray) (q : Int) (W : World) (h : U8 W)
    (ha : -9223372036854775808 ≤ a ∧ a ≤ 9223372036854775807) (hc : -9223372036854775808 ≤ c ∧ c ≤ 9223372036854775807) (_hq : -9223372036854775808 ≤ q ∧ q ≤ 9223372036854775807) :
    Calls Tryd.prog 11 #[.string s, editV a c p, .int .i64 q] W fun e w' => e = .returned (.bool true) ∧ Below W.heap.size W w' := by
  have hB0 := (Below.refl W.heap.size W).alloc (Nat.le_refl _) (.cells #[.int .i64 a, .int .i64 c, .string p] 41)
  have HB0 := Lib.hid hB0
  have HT0 := Lib.hid (h.stay hB0)
  clear hB0 h
  unfold editV
  by_cases hl : 1000 < s.size
  · have e1 : decide ((1000 : Int) < (s.size : Int)) = true := decide_eq_true (by omega)
    clear ha hc _hq
    go_enter Tryd.func11, Tryd.ntmps11
    go_wp2
    go_ret
    exact ⟨rfl, HB0.out⟩
  have e1 : decide ((1000 : Int) < (s.size : Int)) = false := decide_eq_false (by omega)
  by_cases hl2 : 1000 < p.size
  · have e2 : decide ((1000 : Int) < (p.size : Int)) = true := decide_eq_true (by omega)
    clear ha hc _hq
    go_enter Tryd.func11, Tryd.ntmps11
    go_wp2
    go_ret
    exact ⟨rfl, HB0.out⟩
  have e2 : decide ((1000 : Int) < (p.size : Int)) = false := decide_eq_false (by omega)
  have hs6 : s.size ≤ 1000 := by omega
  have hp6 : p.size ≤ 1000 := by omega
  have HW := Lib.hid (fun w (hw : U8 w) => works_any w hw)
  by_cases hcode : codeE s a c p = 0
  · obtain ⟨k, m, rfl, rfl, hkm, -, -, -⟩ := code_yes hcode
    have H1 := Lib.hid (apply_yes s k m p _ HT0.out (by omega) (by omega) hcode)
    unfold editV at H1
    have H2 := Lib.hid (fun w hw => back_yes s k m p w hw (by omega) (by omega) hcode)
    have hX := appl_size s p hkm
    have hB := ext_size s hkm (i := k)
    have hu := undo_code (p := p) hkm hs6
    have hy : codeE (applS s k m p) k p.size (s.extract k (k + m)) = 0 → appX (applS s k m p) k p.size (s.extract k (k + m)) = s := fun h => by rw [appX_back h, undo_eq s p hkm]
    have H3 := Lib.hid (fun w hw => apply_any (applS s k m p) k p.size (s.extract k (k + m)) w hw (by omega) (by omega) (by omega) (by omega))
    have H4 := Lib.hid (fun w hw => diff_any s (applS s k m p) w hw (by omega) (by omega))
    have hd := diff_code (a := s) (b := applS s k m p) (by omega) (by omega)
    have hle := end_le s (applS s k m p)
    have H5 := Lib.hid (fun w hw => apply_yes s (atN s (applS s k m p)) (s.size - endN s (applS s k m p) - atN s (applS s k m p)) ((applS s k m p).extract (atN s (applS s k m p)) ((applS s k m p).size - endN s (applS s k m p))) w hw (by omega) (by rw [ext_size _ (by omega)]; omega) hd)
    rw [diff_eq] at H5
    have H6 := Lib.hid (fun w hw => diff_any s s w hw (by omega) (by omega))
    rw [diff_self] at H6
    have hex : (s.size : Int) - (endN s (applS s k m p) : Int) - (atN s (applS s k m p) : Int) = ((s.size - endN s (applS s k m p) - atN s (applS s k m p) : Nat) : Int) := by omega
    rw [hex] at H4
    have hts := fun Q (h1 : k + m ≤ Q) (h2 : Q ≤ s.size) => tail_eq s p h1 h2
    unfold editV at H2 H3 H4 H5 H6
    obtain ⟨X, hXX⟩ : ∃ X, applS s k m p = X := ⟨_, rfl⟩
    rw [hXX] at H1 H3 H4 H5 hX hu hy hts
    obtain ⟨D, hD⟩ : ∃ D, X.extract (atN s X) (X.size - endN s X) = D := ⟨_, rfl⟩
    obtain ⟨t1, ht1⟩ : ∃ D, atN s X = D := ⟨_, rfl⟩
    obtain ⟨t2, ht2⟩ : ∃ D, s.size - endN s X - atN s X = D := ⟨_, rfl⟩
    obtain ⟨t3, ht3⟩ : ∃ D : Int, (atN s s : Int) = D := ⟨_, rfl⟩
    obtain ⟨t4, ht4⟩ : ∃ D : Int, (s.size : Int) - (endN s s : Int) - (atN s s : Int) = D := ⟨_, rfl⟩
    rw [hD, ht2, ht1] at H4 H5
    rw [ht4, ht3] at H6
    obtain ⟨B, hBB⟩ : ∃ B, s.extract k (k + m) = B := ⟨_, rfl⟩
    rw [hBB] at H2 H3 hu hy
    obtain ⟨f, hf⟩ : ∃ f, codeE X k p.size B = f := ⟨_, rfl⟩
    obtain ⟨Y, hY⟩ : ∃ f, appX X k p.size B = f := ⟨_, rfl⟩
    rw [hf, hY] at H3
    rw [hf] at hu hy
    rw [hY] at hy
    have HU := Lib.hid (And.intro hu hy)
    have HTS := Lib.hid hts
    have HX := Lib.hid hX
    have HKM := Lib.hid hkm
    clear hXX hD ht1 ht2 ht3 ht4 hBB hf hY hu hy hd hle hex hcode hB hX hts ha hc hl hl2
    go_enter Tryd.func11, Tryd.ntmps11
    go_wp2_with fail
    refine H1.out.mono ?_
    rintro e w1 ⟨rfl, hb⟩
    have hbox : w1.heap[W.heap.size]? = some (.cells #[.int .i64 (k : Int), .int .i64 (m : Int), .string p] 41 (0, 0)) := (hb.block _ (by simp)).trans (heap_alloc_new W _)
    have HBX := Lib.hid hbox
    have hl1 : W.heap.size < w1.heap.size := (Array.getElem?_eq_some_iff.1 hbox).1
    have HT1 := Lib.hid (HT0.out.stay hb)
    have HB1 := Lib.hid (HB0.out.trans (hb.mono (by simp)))
    have HK : Hid (∀ w', Below w1.heap.size w1 w' → w'.cell? ⟨W.heap.size, 0, none⟩ = some (.int .i64 (k : Int)) ∧ w'.cell? ⟨W.heap.size, 1, none⟩ = some (.int .i64 (m : Int)) ∧ w'.cell? ⟨W.heap.size, 2, none⟩ = some (.string p)) := fun w' hw =>
      ⟨by rw [Lib.cell_of_heap ((hw.block _ hl1).trans HBX.out)]; rfl, by rw [Lib.cell_of_heap ((hw.block _ hl1).trans HBX.out)]; rfl, by rw [Lib.cell_of_heap ((hw.block _ hl1).trans HBX.out)]; rfl⟩
    have HEND : Hid (∀ w', Below w1.heap.size w1 w' → Below W.heap.size W w') := fun w' h => HB1.out.trans (h.mono HB1.out.size)
    clear hb hbox
    obtain ⟨b0, b1, b2⟩ := HK.out w1 (Below.refl _ _)
    go_wp2_with fail
    refine (H2.out _ HT1.out).mono ?_
    rintro e w2 ⟨rfl, hb⟩
    have HB2 := Lib.hid hb
    clear hb
    go_wp2_with fail
    refine (H3.out _ (HT1.out.stay HB2.out)).mono ?_
    rintro e w3 ⟨rfl, hb⟩
    have HB3 := Lib.hid (HB2.out.trans (hb.mono HB2.out.size))
    clear hb
    go_wp2_with fail
    refine (H4.out _ (HT1.out.stay HB3.out)).mono ?_
    rintro e w4 ⟨rfl, hb⟩
    have HB4 := Lib.hid (HB3.out.trans (hb.mono HB3.out.size))
    clear hb
    go_wp2_with fail
    refine (H5.out _ (HT1.out.stay HB4.out)).mono ?_
    rintro e w5 ⟨rfl, hb⟩
    have HB5 := Lib.hid (HB4.out.trans (hb.mono HB4.out.size))
    clear hb b0 b1 b2 HB2 HB3 HB4
    have hfld := fun w => edit_put (.int .i64 t3) (.int .i64 t4) (.string ⟨#[]⟩) w
    go_upto_region 8 with fail
    go_cut [85] (fun v wx => v = .bool false ∧ Below w1.heap.size w1 wx)
    case first => as_aux_lemma =>
      obtain ⟨hu, hy⟩ := HU.out
      rcases hu with hf | hf
      · obtain rfl := hy hf
        subst hf
        go_wp2_with fail
        refine (H6.out _ (HT1.out.stay HB5.out)).mono ?_
        rintro e w6 ⟨rfl, hb⟩
        have HB6 := Lib.hid (HB5.out.trans (hb.mono HB5.out.size))
        clear hb
        go_wp2_with fail
        go_meet
        exact ⟨rfl, HB6.out⟩
      · subst hf
        go_wp2_with fail
        refine (H6.out _ (HT1.out.stay HB5.out)).mono ?_
        rintro e w6 ⟨rfl, hb⟩
        have HB6 := Lib.hid (HB5.out.trans (hb.mono HB5.out.size))
        clear hb
        go_wp2_with fail
        go_meet
        exact ⟨rfl, HB6.out⟩
    case rest => as_aux_lemma =>
      obtain ⟨rfl, hb⟩ := hcut
      have HB6 := Lib.hid hb
      clear hb HU H1 H2 H3 H4 H5 H6 HB5 hfld
      obtain ⟨u, A, eA1, eA2, hA⟩ := place_in q s.size
      obtain ⟨b0, b1, b2⟩ := HK.out _ HB6.out
      have hkm := HKM.out
      have HM := Lib.hid (fun w => moved_any k m p A w (by omega) (by omega) (by omega) (by omega))
      unfold editV at HM
      obtain ⟨M, hM⟩ : ∃ M, movedI k m p.size A = M := ⟨_, rfl⟩
      rw [hM] at HM
      have HMM := Lib.hid hM
      have hA0 : (A : Int) ≤ 1000 := by omega
      clear hM hkm
      go_wp2_with fail
      refine (HM.out _).mono ?_
      rintro e w7 ⟨rfl, hb⟩
      have HB7 := Lib.hid (HB6.out.trans (hb.mono HB6.out.size))
      clear hb b0 b1 b2
      obtain ⟨b0, b1, b2⟩ := HK.out _ HB7.out
      have hkm := HKM.out
      have hX := HX.out
      obtain ⟨g, hg⟩ : ∃ g, k + m = g := ⟨_, rfl⟩
      have eg : (k : Int) + (m : Int) = (g : Int) := by omega
      have wg : IntKind.i64.wrap ((k : Int) + (m : Int)) = (g : Int) := by rw [eg]; exact IntWalk.i64_in _ (by omega)
      have wg2 : IntKind.i64.wrap (g : Int) = (g : Int) := IntWalk.i64_in _ (by omega)
      obtain ⟨r, hr⟩ : ∃ g, k + p.size = g := ⟨_, rfl⟩
      have er : (k : Int) + (p.size : Int) = (r : Int) := by omega
      have wr' : IntKind.i64.wrap ((k : Int) + (p.size : Int)) = (r : Int) := by rw [er]; exact IntWalk.i64_in _ (by omega)
      have wr2 : IntKind.i64.wrap (r : Int) = (r : Int) := IntWalk.i64_in _ (by omega)
      have hAs : (A : Int) ≤ (s.size : Int) := by omega
      have hcs : (decide (A ≤ k) = true ∧ decide (g < A) = false ∧ decide (k < A) = false ∧ M = (A : Int)) ∨
          (decide (A ≤ k) = false ∧ decide (g < A) = false ∧ decide (k < A) = true ∧ decide (A ≤ g) = true ∧ M = (r : Int)) ∨
          (∃ v : Nat, decide (A ≤ k) = false ∧ decide (g < A) = true ∧ decide (k < A) = true ∧ decide (A ≤ g) = false ∧ M = (v : Int) ∧ decide (X.size < v) = false ∧ (v : Int) ≤ (X.size : Int) ∧ X.extract v X.size = s.extract A s.size) := by
        by_cases h1 : A ≤ k
        · exact .inl ⟨decide_eq_true h1, decide_eq_false (by omega), decide_eq_false (by omega), by rw [← HMM.out]; exact moved_near h1 (by omega)⟩
        · by_cases h2 : A ≤ g
          · exact .inr (.inl ⟨decide_eq_false h1, decide_eq_false (by omega), decide_eq_true (by omega), decide_eq_true h2, by rw [← HMM.out, moved_in (by omega) (by omega) (by omega)]; omega⟩)
          · exact .inr (.inr ⟨A - m + p.size, decide_eq_false h1, decide_eq_true (by omega), decide_eq_true (by omega), decide_eq_false h2, by rw [← HMM.out]; exact moved_far (by omega) (by omega), decide_eq_false (by omega), by omega, HTS.out A (by omega) hA⟩)
      clear hg hr hkm hX eA1 eA2
      go_upto_region 12 with fail
      go_cut [151] (fun v wx => v = .bool false ∧ Below w1.heap.size w1 wx)
      case first =>
        rcases hcs with ⟨d1, d2, d3, rfl⟩ | ⟨d1, d2, d3, d4, rfl⟩ | ⟨v, d1, d2, d3, d4, rfl, d5, d6, d7⟩
        · go_quiet (fail)
          go_wp2
          go_meet
          exact ⟨rfl, below_drewNv HB7.out _⟩
        · go_quiet (fail)
          go_wp2
          go_meet
          exact ⟨rfl, below_drewNv HB7.out _⟩
        · go_quiet (fail)
          go_wp2
          go_meet
          exact ⟨rfl, below_drewNv HB7.out _⟩
      case rest =>
        obtain ⟨rfl, hb⟩ := hcut
        have HB8 := Lib.hid hb
        clear hb b0 b1 b2 hcs
        go_wp2_with fail
        refine (HW.out _ (HT1.out.stay HB8.out)).mono ?_
        rintro e w8 ⟨rfl, hb⟩
        have HB9 := Lib.hid (HB8.out.trans (hb.mono HB8.out.size))
        clear hb
        go_wp2
        go_ret
        exact ⟨rfl, HEND.out _ HB9.out⟩
  · have H1 := Lib.hid (apply_no s a c p _ HT0.out (by omega) (by omega) ha hc hcode)
    unfold editV at H1
    have H2 := Lib.hid (fun w hw => back_no s a c p w hw (by omega) (by omega) ha hc hcode)
    unfold editV at H2
    obtain ⟨x, hx⟩ : ∃ x, codeE s a c p = x := ⟨_, rfl⟩
    rw [hx] at H1 hcode
    have d1 : (x != 0) = true := by rw [bne_iff_ne]; exact hcode
    clear ha hc hl hl2 hcode hx
    go_enter Tryd.func11, Tryd.ntmps11
    go_wp2_with fail
    refine H1.out.mono ?_
    rintro e w1 ⟨rfl, hb⟩
    have hbl := (hb.block _ (by simp)).trans (heap_alloc_new W _)
    have b0 : w1.cell? ⟨W.heap.size, 0, none⟩ = some (.int .i64 a) := by rw [Lib.cell_of_heap hbl]; rfl
    have b1 : w1.cell? ⟨W.heap.size, 1, none⟩ = some (.int .i64 c) := by rw [Lib.cell_of_heap hbl]; rfl
    have b2 : w1.cell? ⟨W.heap.size, 2, none⟩ = some (.string p) := by rw [Lib.cell_of_heap hbl]; rfl
    have HT1 := Lib.hid (HT0.out.stay hb)
    have HB1 := Lib.hid (HB0.out.trans (hb.mono (by simp)))
    clear hb hbl
    go_wp2_with fail
    refine (H2.out _ HT1.out).mono ?_
    rintro e w2 ⟨rfl, hb⟩
    have HT2 := Lib.hid (HT1.out.stay hb)
    have HB2 := Lib.hid (HB1.out.trans (hb.mono HB1.out.size))
    clear hb
    go_wp2_with fail
    refine (HW.out _ HT2.out).mono ?_
    rintro e w3 ⟨rfl, hb⟩
    have HB3 := Lib.hid (HB2.out.trans (hb.mono HB2.out.size))
    clear hb
    go_wp2
    go_ret
    exact ⟨rfl, HB3.out⟩

end Go.Proofs.YtfcdmkfbkkogbaaDoor.Edit
