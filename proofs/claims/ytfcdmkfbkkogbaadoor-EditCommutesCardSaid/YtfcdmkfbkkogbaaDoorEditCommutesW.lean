/- The law EditCommutes, walked. -/
import Derived.Test.YtfcdmkfbkkogbaaDoorEditJ
import Derived.Deep.DeepCutAuto
import Derived.Deep.RegionHeld3
namespace Go.Proofs.YtfcdmkfbkkogbaaDoor.Edit
open Go Go.RowKit Go.Proofs.YtfcdmkfbkkogbaaDoor.Utf

theorem appX_size (s : ByteArray) (a c : Int) (p : ByteArray) (hs : s.size ≤ 1000) (hp : p.size ≤ 1000) : (appX s a c p).size ≤ 2000 := by
  unfold appX
  by_cases h : codeE s a c p = 0
  · rw [if_pos h]
    obtain ⟨k, m, rfl, rfl, h1, -, -, -⟩ := code_yes h
    rw [Int.toNat_natCast, Int.toNat_natCast, appl_size s p h1]; omega
  · rw [if_neg h]; exact Nat.zero_le _
theorem appX_yes {s p : ByteArray} {k m : Nat} (h : codeE s k m p = 0) : appX s k m p = applS s k m p := by
  unfold appX
  rw [if_pos h, Int.toNat_natCast, Int.toNat_natCast]
/-- What the two ways round give. -/
def Twice (s A B : ByteArray) (P Q : ByteArray) (g h : Int) : Prop :=
  (g = 0 ∧ h = 0 → P = Q) ∧ (rightB s = true → rightB A = true → rightB B = true → g = 0 ∧ h = 0)
theorem twice {s A B : ByteArray} {k m k2 m2 : Nat} (h1 : codeE s k m A = 0) (h2 : codeE s k2 m2 B = 0) (h : k + m ≤ k2) (hz : s.size ≤ 1000) (hzA : A.size ≤ 1000) (hzB : B.size ≤ 1000) :
    Twice s A B (appX (applS s k m A) ((k2 - m + A.size : Nat) : Int) m2 B) (appX (applS s k2 m2 B) k m A) (codeE (applS s k m A) ((k2 - m + A.size : Nat) : Int) m2 B) (codeE (applS s k2 m2 B) k m A) := by
  refine ⟨fun ⟨e1, e2⟩ => ?_, fun r1 r2 _ => ⟨second_code ((valid_txt s).1 r1) ((valid_txt A).1 r2) h1 h2 h hz hzA hzB, first_code ((valid_txt s).1 r1) h1 h2 h hz hzA hzB⟩⟩
  rw [appX_yes e1, appX_yes e2]
  obtain ⟨_, _, e3, e4, b1, -, -, -⟩ := code_yes h2
  obtain rfl := Int.ofNat.inj e3; obtain rfl := Int.ofNat.inj e4
  exact comm_eq s A B h b1

set_option maxRecDepth 100000 in
set_option maxHeartbeats 16000000 in
theorem commutes_walk (s : ByteArray) (a c : Int) (A : ByteArray) (a2 c2 : Int) (B : ByteArray) (W : World) (h : U8 W)
    (ha : -9223372036854775808 ≤ a ∧ a ≤ 9223372036854775807) (hc : -9223372036854775808 ≤ c ∧ c ≤ 9223372036854775807) (ha2 : -9223372036854775808 ≤ a2 ∧ a2 ≤ 9223372036854775807) (hc2 : -9223372036854775808 ≤ c2 ∧ c2 ≤ 9223372036854775807) :
    Calls Tryd.prog 13 #[.string s, editV a c A, editV a2 c2 B] W fun e w' => e = .returned (.bool true) ∧ Below W.heap.size W w' := by
  have hB0 := ((Below.refl W.heap.size W).alloc (Nat.le_refl _) (.cells #[.int .i64 a, .int .i64 c, .string A] 41)).alloc (by simp) (.cells #[.int .i64 a2, .int .i64 c2, .string B] 41)
  have HB0 := Lib.hid hB0
  have HT0 := Lib.hid (h.stay hB0)
  clear hB0 h
  unfold editV
  by_cases hl : 1000 < s.size
  · have e1 : decide ((1000 : Int) < (s.size : Int)) = true := decide_eq_true (by omega)
    clear ha hc ha2 hc2
    go_enter Tryd.func13, Tryd.ntmps13
    go_wp2
    go_ret
    exact ⟨rfl, HB0.out⟩
  have e1 : decide ((1000 : Int) < (s.size : Int)) = false := decide_eq_false (by omega)
  by_cases hl2 : 1000 < A.size
  · have e2 : decide ((1000 : Int) < (A.size : Int)) = true := decide_eq_true (by omega)
    clear ha hc ha2 hc2
    go_enter Tryd.func13, Tryd.ntmps13
    go_wp2
    go_ret
    exact ⟨rfl, HB0.out⟩
  have e2 : decide ((1000 : Int) < (A.size : Int)) = false := decide_eq_false (by omega)
  by_cases hl3 : 1000 < B.size
  · have e3 : decide ((1000 : Int) < (B.size : Int)) = true := decide_eq_true (by omega)
    clear ha hc ha2 hc2
    go_enter Tryd.func13, Tryd.ntmps13
    go_wp2
    go_ret
    exact ⟨rfl, HB0.out⟩
  have e3 : decide ((1000 : Int) < (B.size : Int)) = false := decide_eq_false (by omega)
  have H1 := Lib.hid (fun w hw => apply_any s a c A w hw (by omega) (by omega) ha hc)
  have H2 := Lib.hid (fun w hw => apply_any s a2 c2 B w hw (by omega) (by omega) ha2 hc2)
  unfold editV at H1 H2
  have HW := Lib.hid (fun w (hw : U8 w) => works_any w hw)
  have hs6 : s.size ≤ 1000 := by omega
  have hA6 : A.size ≤ 1000 := by omega
  have hB6 : B.size ≤ 1000 := by omega
  obtain ⟨x, hx⟩ : ∃ x, codeE s a c A = x := ⟨_, rfl⟩
  obtain ⟨y, hy⟩ : ∃ x, codeE s a2 c2 B = x := ⟨_, rfl⟩
  obtain ⟨X, hX⟩ : ∃ x, appX s a c A = x := ⟨_, rfl⟩
  obtain ⟨Y, hY⟩ : ∃ x, appX s a2 c2 B = x := ⟨_, rfl⟩
  have hX6 := appX_size s a c A hs6 hA6
  have hY6 := appX_size s a2 c2 B hs6 hB6
  rw [hx, hX] at H1
  rw [hy, hY] at H2
  rw [hX] at hX6
  rw [hY] at hY6
  have HC := Lib.hid (And.intro hx (And.intro hy (And.intro hX hY)))
  have HR := Lib.hid (And.intro ha (And.intro hc (And.intro ha2 hc2)))
  have HN := Lib.hid (Nat.lt_succ_self W.heap.size)
  clear hl hl2 hl3 hx hy hX hY ha hc ha2 hc2
  go_enter Tryd.func13, Tryd.ntmps13
  go_wp2_with fail
  refine (H1.out _ HT0.out).mono ?_
  rintro e w1 ⟨rfl, hb⟩
  have hbox1 : w1.heap[W.heap.size]? = some (.cells #[.int .i64 a, .int .i64 c, .string A] 41 (0, 0)) := (hb.block _ (by simp; omega)).trans (heap_alloc2_old W _ _)
  have hbox2 : w1.heap[W.heap.size + 1]? = some (.cells #[.int .i64 a2, .int .i64 c2, .string B] 41 (0, 0)) := (hb.block _ (by simp)).trans (heap_alloc2_new W _ _)
  have HX1 := Lib.hid hbox1
  have HX2 := Lib.hid hbox2
  have hl1 : W.heap.size < w1.heap.size := (Array.getElem?_eq_some_iff.1 hbox1).1
  have hl2 : W.heap.size + 1 < w1.heap.size := (Array.getElem?_eq_some_iff.1 hbox2).1
  have HT1 := Lib.hid (HT0.out.stay hb)
  have HB1 := Lib.hid (HB0.out.trans (hb.mono (by simp; omega)))
  have HK : Hid (∀ w', Below w1.heap.size w1 w' → w'.cell? ⟨W.heap.size, 0, none⟩ = some (.int .i64 a) ∧ w'.cell? ⟨W.heap.size, 1, none⟩ = some (.int .i64 c) ∧ w'.cell? ⟨W.heap.size, 2, none⟩ = some (.string A) ∧
      w'.cell? ⟨W.heap.size + 1, 0, none⟩ = some (.int .i64 a2) ∧ w'.cell? ⟨W.heap.size + 1, 1, none⟩ = some (.int .i64 c2) ∧ w'.cell? ⟨W.heap.size + 1, 2, none⟩ = some (.string B)) := fun w' hw =>
    ⟨by rw [Lib.cell_of_heap ((hw.block _ hl1).trans HX1.out)]; rfl, by rw [Lib.cell_of_heap ((hw.block _ hl1).trans HX1.out)]; rfl, by rw [Lib.cell_of_heap ((hw.block _ hl1).trans HX1.out)]; rfl,
      by rw [Lib.cell_of_heap ((hw.block _ hl2).trans HX2.out)]; rfl, by rw [Lib.cell_of_heap ((hw.block _ hl2).trans HX2.out)]; rfl, by rw [Lib.cell_of_heap ((hw.block _ hl2).trans HX2.out)]; rfl⟩
  have HEND : Hid (∀ w', Below w1.heap.size w1 w' → Below W.heap.size W w') := fun w' h => HB1.out.trans (h.mono HB1.out.size)
  obtain ⟨x0, x1, x2, y0, y1, y2⟩ := HK.out w1 (Below.refl _ _)
  clear hb hbox1 hbox2
  go_wp2_with fail
  refine (H2.out _ HT1.out).mono ?_
  rintro e w2 ⟨rfl, hb⟩
  have HB2 := Lib.hid hb
  clear hb x0 x1 x2 y0 y1 y2
  obtain ⟨x0, x1, x2, y0, y1, y2⟩ := HK.out w2 HB2.out
  by_cases hx0 : x = 0
  · subst hx0
    by_cases hy0 : y = 0
    · subst hy0
      obtain ⟨q1, q2, q3, q4⟩ := HC.out
      obtain ⟨k, m, rfl, rfl, hkm, -, -, -⟩ := code_yes q1
      obtain ⟨k2, m2, rfl, rfl, hkm2, -, -, -⟩ := code_yes q2
      by_cases hfar : k + m < k2
      · as_aux_lemma =>
        rw [appX_yes q1] at q3
        rw [appX_yes q2] at q4
        have d1 : decide (k2 ≤ k + m) = false := decide_eq_false (by omega)
        have d2 : decide ((k2 : Int) ≤ (k : Int) + (m : Int)) = false := decide_eq_false (by omega)
        have TW := Lib.hid (twice q1 q2 (Nat.le_of_lt hfar) hs6 hA6 hB6)
        have HM := Lib.hid (fun w => moved_any k m A k2 w (by omega) (by omega) (by omega) (by omega))
        rw [moved_far hfar (by omega)] at HM
        obtain ⟨M, hM⟩ : ∃ M, k2 - m + A.size = M := ⟨_, rfl⟩
        have hM6 : M ≤ 3000 := by omega
        have H3 := Lib.hid (fun w hw => apply_any X M m2 B w hw (by omega) (by omega) (by omega) (by omega))
        have H4 := Lib.hid (fun w hw => apply_any Y k m A w hw (by omega) (by omega) (by omega) (by omega))
        rw [hM] at HM TW
        rw [q3, q4] at TW
        unfold editV at HM H3 H4
        obtain ⟨P, hP⟩ : ∃ M', appX X M m2 B = M' := ⟨_, rfl⟩
        obtain ⟨g, hg⟩ : ∃ M', codeE X M m2 B = M' := ⟨_, rfl⟩
        obtain ⟨Q, hQ⟩ : ∃ M', appX Y k m A = M' := ⟨_, rfl⟩
        obtain ⟨f, hf⟩ : ∃ M', codeE Y k m A = M' := ⟨_, rfl⟩
        rw [hP, hg] at H3 TW
        rw [hQ, hf] at H4 TW
        have hk6 : k ≤ 1000 := by omega
        have hm6 : m ≤ 1000 := by omega
        clear hM hP hg hQ hf q1 q2 q3 q4 HC H1 H2 hfar hkm hkm2
        go_upto_region 7 with fail
        clear x0 x1 x2 y0 y1 y2
        obtain ⟨x0, x1, x2, y0, y1, y2⟩ := HK.out _ HB2.out
        go_region_held3 (fun w' => w'.cell? ⟨W.heap.size, 0, none⟩ = some (.int .i64 (k : Int)) ∧ w'.cell? ⟨W.heap.size, 1, none⟩ = some (.int .i64 (m : Int)) ∧ w'.cell? ⟨W.heap.size, 2, none⟩ = some (.string A) ∧
            w'.cell? ⟨W.heap.size + 1, 0, none⟩ = some (.int .i64 (k2 : Int)) ∧ w'.cell? ⟨W.heap.size + 1, 1, none⟩ = some (.int .i64 (m2 : Int)) ∧ w'.cell? ⟨W.heap.size + 1, 2, none⟩ = some (.string B))
          (first | go_keep | exact HK.out _ HB4.out | exact HK.out _ HB3.out)
          (first
            | (go_at_call 38; refine (HM.out _).mono ?_; rintro e w3 ⟨rfl, hb⟩; have HB3 := Lib.hid (HB2.out.drew.trans (hb.mono HB2.out.size)); clear hb)
            | (go_at_call 26; refine (H3.out _ (HT1.out.stay HB3.out)).mono ?_; rintro e w4 ⟨rfl, hb⟩; have HB4 := Lib.hid (HB3.out.trans (hb.mono HB3.out.size)); clear hb))
        clear x0 x1 x2 y0 y1 y2
        obtain ⟨x0, x1, x2, y0, y1, y2⟩ := HK.out _ HB4.out
        go_wp2_with fail
        refine (H4.out _ (HT1.out.stay HB4.out)).mono ?_
        rintro e w5 ⟨rfl, hb⟩
        have HB5 := Lib.hid (HB4.out.trans (hb.mono HB4.out.size))
        clear hb x0 x1 x2 y0 y1 y2 HM H3 H4 HB3 HB4
        obtain ⟨tw1, tw2⟩ := TW.out
        have R1 := Lib.hid (fun w hw => right_any s w hw (by omega))
        have R2 := Lib.hid (fun w hw => right_any A w hw (by omega))
        have R3 := Lib.hid (fun w hw => right_any B w hw (by omega))
        obtain ⟨rs, hrs⟩ : ∃ r, rightB s = r := ⟨_, rfl⟩
        obtain ⟨rA, hrA⟩ : ∃ r, rightB A = r := ⟨_, rfl⟩
        obtain ⟨rB, hrB⟩ : ∃ r, rightB B = r := ⟨_, rfl⟩
        rw [hrs] at R1 tw2
        rw [hrA] at R2 tw2
        rw [hrB] at R3 tw2
        have T1 := Lib.hid tw1
        have T2 := Lib.hid tw2
        clear TW tw1 tw2 hrs hrA hrB
        obtain ⟨x0, x1, x2, y0, y1, y2⟩ := HK.out _ HB5.out
        go_upto_region 9 with fail
        go_cut [98] (fun b wx => b = .bool false ∧ Below w1.heap.size w1 wx)
        case first => as_aux_lemma =>
          cases rs with
          | false =>
            go_wp2_with fail
            refine (R1.out _ (HT1.out.stay HB5.out)).mono ?_
            rintro e w6 ⟨rfl, hb⟩
            have HB6 := Lib.hid (HB5.out.trans (hb.mono HB5.out.size))
            clear hb
            go_wp2_with fail
            go_meet
            exact ⟨rfl, HB6.out⟩
          | true =>
            clear x0 x1 x2 y0 y1 y2
            go_wp2_with fail
            refine (R1.out _ (HT1.out.stay HB5.out)).mono ?_
            rintro e w6 ⟨rfl, hb⟩
            have HB6 := Lib.hid (HB5.out.trans (hb.mono HB5.out.size))
            clear hb
            obtain ⟨x0, x1, x2, y0, y1, y2⟩ := HK.out _ HB6.out
            cases rA with
            | false =>
              go_wp2_with fail
              refine (R2.out _ (HT1.out.stay HB6.out)).mono ?_
              rintro e w7 ⟨rfl, hb⟩
              have HB7 := Lib.hid (HB6.out.trans (hb.mono HB6.out.size))
              clear hb
              go_wp2_with fail
              go_meet
              exact ⟨rfl, HB7.out⟩
            | true =>
              go_wp2_with fail
              refine (R2.out _ (HT1.out.stay HB6.out)).mono ?_
              rintro e w7 ⟨rfl, hb⟩
              have HB7 := Lib.hid (HB6.out.trans (hb.mono HB6.out.size))
              clear hb x0 x1 x2 y0 y1 y2
              obtain ⟨x0, x1, x2, y0, y1, y2⟩ := HK.out _ HB7.out
              cases rB with
              | false =>
                go_wp2_with fail
                refine (R3.out _ (HT1.out.stay HB7.out)).mono ?_
                rintro e w8 ⟨rfl, hb⟩
                have HB8 := Lib.hid (HB7.out.trans (hb.mono HB7.out.size))
                clear hb
                go_wp2_with fail
                go_meet
                exact ⟨rfl, HB8.out⟩
              | true =>
                have hgf := T2.out (by simp) (by simp) (by simp)
                have z1 : (g != 0) = false := by rw [bne_eq_false_iff_eq]; exact hgf.1
                have z2 : (f != 0) = false := by rw [bne_eq_false_iff_eq]; exact hgf.2
                clear hgf
                go_wp2_with fail
                refine (R3.out _ (HT1.out.stay HB7.out)).mono ?_
                rintro e w8 ⟨rfl, hb⟩
                have HB8 := Lib.hid (HB7.out.trans (hb.mono HB7.out.size))
                clear hb
                go_wp2_with fail
                go_meet
                exact ⟨rfl, HB8.out⟩
        case rest => as_aux_lemma =>
          obtain ⟨rfl, hb⟩ := hcut
          have HB6 := Lib.hid hb
          clear hb x0 x1 x2 y0 y1 y2
          have hcs : (g != 0) = true ∨ ((g != 0) = false ∧ (f != 0) = true) ∨ ((g != 0) = false ∧ (f != 0) = false ∧ P = Q) := by
            by_cases hg : g = 0
            · by_cases hf : f = 0
              · exact .inr (.inr ⟨by rw [bne_eq_false_iff_eq]; exact hg, by rw [bne_eq_false_iff_eq]; exact hf, T1.out ⟨hg, hf⟩⟩)
              · exact .inr (.inl ⟨by rw [bne_eq_false_iff_eq]; exact hg, by rw [bne_iff_ne]; exact hf⟩)
            · exact .inl (by rw [bne_iff_ne]; exact hg)
          rcases hcs with z1 | ⟨z1, z2⟩ | ⟨z1, z2, rfl⟩
          all_goals
            go_wp2_with fail
            refine (HW.out _ (HT1.out.stay HB6.out)).mono ?_
            rintro e w7 ⟨rfl, hb⟩
            have HB7 := Lib.hid (HB6.out.trans (hb.mono HB6.out.size))
            clear hb
            go_wp2
            go_ret
            exact ⟨rfl, HEND.out _ HB7.out⟩
      · as_aux_lemma =>
        have d1 : decide (k2 ≤ k + m) = true := decide_eq_true (by omega)
        have d2 : decide ((k2 : Int) ≤ (k : Int) + (m : Int)) = true := decide_eq_true (by omega)
        have hk6 : k ≤ 1000 := by omega
        have hm6 : m ≤ 1000 := by omega
        clear q1 q2 q3 q4 HC H1 H2 hfar
        go_wp2_with fail
        refine (HW.out _ (HT1.out.stay HB2.out)).mono ?_
        rintro e w3 ⟨rfl, hb⟩
        have HB3 := Lib.hid (HB2.out.trans (hb.mono HB2.out.size))
        clear hb
        go_wp2
        go_ret
        exact ⟨rfl, HEND.out _ HB3.out⟩
    · as_aux_lemma =>
      have d1 : (y != 0) = true := by rw [bne_iff_ne]; exact hy0
      clear HC H1 H2 hy0
      go_wp2_with fail
      refine (HW.out _ (HT1.out.stay HB2.out)).mono ?_
      rintro e w3 ⟨rfl, hb⟩
      have HB3 := Lib.hid (HB2.out.trans (hb.mono HB2.out.size))
      clear hb
      go_wp2
      go_ret
      exact ⟨rfl, HEND.out _ HB3.out⟩
  · as_aux_lemma =>
    have d1 : (x != 0) = true := by rw [bne_iff_ne]; exact hx0
    clear HC H1 H2 hx0
    go_wp2_with fail
    refine (HW.out _ (HT1.out.stay HB2.out)).mono ?_
    rintro e w3 ⟨rfl, hb⟩
    have HB3 := Lib.hid (HB2.out.trans (hb.mono HB2.out.size))
    clear hb
    go_wp2
    go_ret
    exact ⟨rfl, HEND.out _ HB3.out⟩

end Go.Proofs.YtfcdmkfbkkogbaaDoor.Edit
