/- strings.Clone, the document's Count, Back, what the laws ask of known texts. -/
import Derived.Test.YtfcdmkfbkkogbaaDoorEditC
import Derived.IntWalk
namespace Go.Proofs.YtfcdmkfbkkogbaaDoor.Edit
open Go Go.RowKit Go.Proofs.YtfcdmkfbkkogbaaDoor.Utf

set_option maxRecDepth 100000 in
theorem clone_any (s : ByteArray) (W : World) (hs : s.size ≤ 1000000) : Calls Tryd.prog 62 #[.string s] W fun e w' => e = .returned (.string s) ∧ Below W.heap.size W w' := by
  have H := Lib.hid (Tryd.stringslite_Clone s W (by omega))
  go_enter Tryd.func62, Tryd.ntmps62
  go_wp2_with fail
  refine H.out.mono ?_
  rintro e w1 ⟨rfl, hb⟩
  have HB := Lib.hid hb
  clear hb
  go_wp2
  go_ret
  exact ⟨rfl, HB.out⟩

set_option maxRecDepth 100000 in
theorem refcount_any (s : ByteArray) (W : World) (hs : s.size ≤ 1000000) :
    Calls Tryd.prog 35 #[.string s] W fun e w' => e = .returned (.int .i64 ((txt s).cnt : Int)) ∧ Below W.heap.size W w' := by
  obtain ⟨S, hS⟩ : ∃ S, S = W.heap.size := ⟨_, rfl⟩
  rw [← hS]
  have hsz : S ≤ W.heap.size := by omega
  clear hS
  go_enter Tryd.func35, Tryd.ntmps35
  go_wp2_with fail
  go_loopw [3, 4, 5, 6] (fun n i a b wx => ∃ j : Nat, j ≤ (txt s).cnt ∧ n = .int .i64 (j : Int) ∧ i = .int .i64 ((txt s).pos j : Int) ∧ Below S W wx) (fun _ i _ _ _ => s.size - (intOf i).toNat)
  case atStart => exact ⟨0, Nat.zero_le _, rfl, rfl, Below.refl _ _⟩
  case round =>
    obtain ⟨j, hj, rfl, rfl, hB⟩ := hrel
    have HB := Lib.hid hB
    have hn : (txt s).n = s.size := rfl
    have hszr : S ≤ wr.heap.size := Nat.le_trans hsz hB.size
    have hjs : j ≤ 1000000 := Nat.le_trans hj (Nat.le_trans (txt s).cnt_le hs)
    clear hB
    by_cases h1 : (txt s).pos j < s.size
    · have hjc := (txt s).lt_cnt (show (txt s).pos j < (txt s).n from h1)
      have HA := Lib.hid (refat_any s ((txt s).pos j) wr h1 hs)
      have hps : (txt s).pos (j + 1) = (txt s).pos j + (txt s).w ((txt s).pos j) := rfl
      have hwn := (txt s).w_in _ (show (txt s).pos j < (txt s).n from h1)
      have hw1 := (txt s).w_pos ((txt s).pos j)
      rw [hn] at hwn
      obtain ⟨p, hp⟩ : ∃ x, (txt s).pos j = x := ⟨_, rfl⟩
      rw [hp] at h1 HA hps hwn hw1 ⊢
      obtain ⟨w0, hw0⟩ : ∃ x, (txt s).w p = x := ⟨_, rfl⟩
      obtain ⟨r0, hr0⟩ : ∃ x, refR (txt s) p = x := ⟨_, rfl⟩
      rw [hw0, hr0] at HA
      rw [hw0] at hps hwn hw1
      have HPS := Lib.hid hps
      have HJC := Lib.hid hjc
      clear hp hw0 hr0 hps hn hjc hj
      go_wp2_with fail
      refine HA.out.mono ?_
      rintro e w1 ⟨rfl, hb⟩
      have HB1 := Lib.hid (HB.out.trans (hb.mono hszr))
      clear hb
      go_wp2
      go_roundw
      case rel => exact ⟨j + 1, HJC.out, by go_num, by rw [HPS.out]; go_num, HB1.out⟩
      case measure => simp [intOf]; omega
    · have he : j = (txt s).cnt := by
        rcases Nat.lt_or_eq_of_le hj with h | h
        · exact absurd ((txt s).pos_of_lt h) (by rw [hn]; exact h1)
        · exact h
      have HE := Lib.hid he
      clear he hj hn
      go_wp2
      go_ret
      exact ⟨by rw [HE.out]; rfl, HB.out⟩

set_option maxRecDepth 100000 in
theorem back_no (s : ByteArray) (a c : Int) (p : ByteArray) (W : World) (T : U8 W) (hs : s.size ≤ 1000000) (hp : p.size ≤ 1000000)
    (ha : -9223372036854775808 ≤ a ∧ a ≤ 9223372036854775807) (hc : -9223372036854775808 ≤ c ∧ c ≤ 9223372036854775807) (h : codeE s a c p ≠ 0) :
    Calls Tryd.prog 37 #[.string s, editV a c p] W fun e w' => e = .returned (editV 0 0 ⟨#[]⟩) ∧ Below W.heap.size W w' := by
  have hB0 := ((Below.refl W.heap.size W).alloc (Nat.le_refl _) (.cells #[.int .i64 a, .int .i64 c, .string p] 41)).alloc (by simp) (.cells #[.int .i64 0, .int .i64 0, .string ⟨#[]⟩] 41)
  have HB0 := Lib.hid hB0
  have H1 := Lib.hid (refused_any s a c p _ (T.stay hB0) hs hp ha hc)
  unfold editV at H1
  unfold editV
  have hne : (codeE s a c p != 0) = true := by rw [bne_iff_ne]; exact h
  obtain ⟨X, hX⟩ : ∃ X, codeE s a c p = X := ⟨_, rfl⟩
  rw [hX] at H1 hne
  clear hB0 T hX h ha hc
  go_enter Tryd.func37, Tryd.ntmps37
  go_wp2_with fail
  refine H1.out.mono ?_
  rintro e w1 ⟨rfl, hb⟩
  have hbl : w1.heap[W.heap.size + 1]? = some (.cells #[.int .i64 0, .int .i64 0, .string ⟨#[]⟩] 41 (0, 0)) := (hb.block _ (by simp)).trans (by have := heap_alloc_new (W.alloc (.cells #[.int .i64 a, .int .i64 c, .string p] 41)) (.cells #[.int .i64 0, .int .i64 0, .string ⟨#[]⟩] 41); simpa using this)
  have hl1 : W.heap.size + 1 < w1.heap.size := Nat.lt_of_lt_of_le (by simp) hb.size
  have c0 : w1.cell? ⟨W.heap.size + 1, 0, none⟩ = some (.int .i64 0) := by rw [Lib.cell_of_heap hbl]; rfl
  have c1 : w1.cell? ⟨W.heap.size + 1, 1, none⟩ = some (.int .i64 0) := by rw [Lib.cell_of_heap hbl]; rfl
  have c2 : w1.cell? ⟨W.heap.size + 1, 2, none⟩ = some (.string ⟨#[]⟩) := by rw [Lib.cell_of_heap hbl]; rfl
  have f0 := Lib.frozen_of_heap hbl 0
  have f1 := Lib.frozen_of_heap hbl 1
  have f2 := Lib.frozen_of_heap hbl 2
  have HB := Lib.hid (HB0.out.trans (hb.mono (by simp; omega)))
  have KEY := Lib.hid (fun v0 v1 v2 => ((HB.out.setCell (p := ⟨W.heap.size + 1, 0, none⟩) (by simp) v0).setCell (p := ⟨W.heap.size + 1, 1, none⟩) (by simp) v1).setCell (p := ⟨W.heap.size + 1, 2, none⟩) (by simp) v2)
  clear hb hbl
  go_wp2
  refine bodyPost_ret (v := .agg #[.int .i64 0, .int .i64 0, .string ⟨#[]⟩]) (by simp [results, Tryd.results37, go_sem, c0, c1, c2]) rfl ⟨rfl, ?_⟩
  first | exact KEY.out _ _ _ | exact HB.out

set_option maxRecDepth 100000 in
theorem back_yes (s : ByteArray) (k m : Nat) (p : ByteArray) (W : World) (T : U8 W) (hs : s.size ≤ 1000000) (hp : p.size ≤ 1000000) (h : codeE s k m p = 0) :
    Calls Tryd.prog 37 #[.string s, editV k m p] W fun e w' => e = .returned (editV k p.size (s.extract k (k + m))) ∧ Below W.heap.size W w' := by
  obtain ⟨k', m', e1, e2, hkm, -, -, -⟩ := code_yes h
  obtain rfl : k = k' := by omega
  obtain rfl : m = m' := by omega
  clear e1 e2
  have hB0 := ((Below.refl W.heap.size W).alloc (Nat.le_refl _) (.cells #[.int .i64 (k : Int), .int .i64 (m : Int), .string p] 41)).alloc (by simp) (.cells #[.int .i64 0, .int .i64 0, .string ⟨#[]⟩] 41)
  have HB0 := Lib.hid hB0
  have H1 := Lib.hid (refused_any s k m p _ (T.stay hB0) hs hp (by omega) (by omega))
  rw [h] at H1
  unfold editV at H1
  unfold editV
  have hk6 : (k : Int) ≤ 1000000 := by omega
  have hm6 : (m : Int) ≤ 1000000 := by omega
  have hks : (k : Int) ≤ (s.size : Int) := by omega
  have hkms : (k : Int) + (m : Int) ≤ (s.size : Int) := by omega
  have H2 := Lib.hid (fun w => clone_any (s.extract k (k + m)) w (by rw [ext_size s hkm]; omega))
  have HBX := Lib.hid ((Below.refl (W.alloc (.cells #[.int .i64 (k : Int), .int .i64 (m : Int), .string p] 41)).heap.size (W.alloc (.cells #[.int .i64 (k : Int), .int .i64 (m : Int), .string p] 41))).alloc (Nat.le_refl _) (.cells #[.int .i64 0, .int .i64 0, .string ⟨#[]⟩] 41))
  have hkm0 : (0 : Int) ≤ (k : Int) + (m : Int) := by omega
  have hkmle : (k : Int) ≤ (k : Int) + (m : Int) := by omega
  have hkmn : ((k : Int) + (m : Int)).toNat = k + m := by omega
  have hkmw : IntKind.i64.wrap ((k : Int) + (m : Int)) = (k : Int) + (m : Int) := IntWalk.i64_in _ (by omega)
  clear hB0 T h
  go_enter Tryd.func37, Tryd.ntmps37
  go_wp2_with fail
  refine H1.out.mono ?_
  rintro e w1 ⟨rfl, hb⟩
  have hbl0 : w1.heap[W.heap.size]? = some (.cells #[.int .i64 (k : Int), .int .i64 (m : Int), .string p] 41 (0, 0)) := (hb.block _ (by simp; omega)).trans (by have := heap_alloc_new W (.cells #[.int .i64 (k : Int), .int .i64 (m : Int), .string p] 41); exact (HBX.out.block _ (by simp)).trans this)
  have hbl : w1.heap[W.heap.size + 1]? = some (.cells #[.int .i64 0, .int .i64 0, .string ⟨#[]⟩] 41 (0, 0)) := (hb.block _ (by simp)).trans (by have := heap_alloc_new (W.alloc (.cells #[.int .i64 (k : Int), .int .i64 (m : Int), .string p] 41)) (.cells #[.int .i64 0, .int .i64 0, .string ⟨#[]⟩] 41); simpa using this)
  have hl1 : W.heap.size + 1 < w1.heap.size := Nat.lt_of_lt_of_le (by simp) hb.size
  have d0 : w1.cell? ⟨W.heap.size, 0, none⟩ = some (.int .i64 (k : Int)) := by rw [Lib.cell_of_heap hbl0]; rfl
  have d1 : w1.cell? ⟨W.heap.size, 1, none⟩ = some (.int .i64 (m : Int)) := by rw [Lib.cell_of_heap hbl0]; rfl
  have d2 : w1.cell? ⟨W.heap.size, 2, none⟩ = some (.string p) := by rw [Lib.cell_of_heap hbl0]; rfl
  have HBL0 := Lib.hid hbl0
  have HBL := Lib.hid hbl
  have HB := Lib.hid (HB0.out.trans (hb.mono (by simp; omega)))
  clear hb hbl hbl0
  go_wp2_with fail
  go_region_held3 (fun w' => w'.cell? ⟨W.heap.size, 0, none⟩ = some (.int .i64 (k : Int)) ∧ w'.cell? ⟨W.heap.size, 1, none⟩ = some (.int .i64 (m : Int)) ∧ w'.cell? ⟨W.heap.size, 2, none⟩ = some (.string p))
    (first | go_keep | exact ⟨g0, g1, g2⟩)
    (first | (refine (H2.out _).mono ?_; rintro e w2 ⟨rfl, hb⟩
              have hbl0 := (hb.block W.heap.size (by simp; omega)).trans HBL0.out
              have hbl := (hb.block (W.heap.size + 1) (by simp; omega)).trans HBL.out
              have g0 : w2.cell? ⟨W.heap.size, 0, none⟩ = some (.int .i64 (k : Int)) := by rw [Lib.cell_of_heap hbl0]; rfl
              have g1 : w2.cell? ⟨W.heap.size, 1, none⟩ = some (.int .i64 (m : Int)) := by rw [Lib.cell_of_heap hbl0]; rfl
              have g2 : w2.cell? ⟨W.heap.size, 2, none⟩ = some (.string p) := by rw [Lib.cell_of_heap hbl0]; rfl
              have c0 : w2.cell? ⟨W.heap.size + 1, 0, none⟩ = some (.int .i64 0) := by rw [Lib.cell_of_heap hbl]; rfl
              have c1 : w2.cell? ⟨W.heap.size + 1, 1, none⟩ = some (.int .i64 0) := by rw [Lib.cell_of_heap hbl]; rfl
              have c2 : w2.cell? ⟨W.heap.size + 1, 2, none⟩ = some (.string ⟨#[]⟩) := by rw [Lib.cell_of_heap hbl]; rfl
              have f0 := Lib.frozen_of_heap hbl 0
              have f1 := Lib.frozen_of_heap hbl 1
              have f2 := Lib.frozen_of_heap hbl 2
              have KEY := Lib.hid (fun v0 v1 v2 => (((HB.out.drew.trans (hb.mono (by simp; omega))).setCell (p := ⟨W.heap.size + 1, 0, none⟩) (by simp) v0).setCell (p := ⟨W.heap.size + 1, 1, none⟩) (by simp) v1).setCell (p := ⟨W.heap.size + 1, 2, none⟩) (by simp) v2)
              clear hb hbl hbl0))
  go_wp2
  refine bodyPost_ret (v := .agg #[.int .i64 (k : Int), .int .i64 (p.size : Int), .string (s.extract k (k + m))]) (by simp [results, Tryd.results37, go_sem, c0, c1, c2]) rfl ⟨rfl, ?_⟩
  exact KEY.out _ _ _

theorem code_known : codeE ⟨#[97, 98, 99, 100]⟩ 1 2 ⟨#[120]⟩ = 0 := by decide +kernel
theorem appl_known : applS ⟨#[97, 98, 99, 100]⟩ 1 2 ⟨#[120]⟩ = ⟨#[97, 120, 100]⟩ := by decide +kernel
theorem ext_known : (⟨#[97, 98, 99, 100]⟩ : ByteArray).extract 1 (1 + 2) = ⟨#[98, 99]⟩ := by decide +kernel
theorem line_known : linesN ((⟨#[97, 10, 98, 99]⟩ : ByteArray).extract 0 3) = 1 := by decide +kernel
theorem col_known : colN ((⟨#[97, 10, 98, 99]⟩ : ByteArray).extract 0 3) = 1 := Txt.cnt_of _ (by decide +kernel)
theorem caret_known : caretB (txt ⟨#[97, 10, 98, 99]⟩) 3 = true := by decide +kernel
theorem lines_known : linesN ⟨#[97, 10, 98, 99]⟩ = 1 := by decide +kernel

set_option maxRecDepth 100000 in
theorem works_any (W : World) (h : U8 W) : Calls Tryd.prog 28 #[] W fun e w' => e = .returned (.bool true) ∧ Below W.heap.size W w' := by
  have H1 := Lib.hid (apply_yes ⟨#[97, 98, 99, 100]⟩ 1 2 ⟨#[120]⟩ W h (by decide) (by decide) code_known)
  rw [appl_known] at H1
  have H2 := Lib.hid (fun w hw => back_yes ⟨#[97, 98, 99, 100]⟩ 1 2 ⟨#[120]⟩ w hw (by decide) (by decide) code_known)
  rw [ext_known] at H2
  have H3 := Lib.hid (fun w hw => line_yes ⟨#[97, 10, 98, 99]⟩ 3 w hw (by decide) caret_known)
  rw [line_known, col_known] at H3
  have H4 := Lib.hid (fun w => lines_any ⟨#[97, 10, 98, 99]⟩ w (by decide))
  rw [lines_known] at H4
  unfold editV at H1 H2
  have HG := Lib.hid h
  clear h
  go_enter Tryd.func28, Tryd.ntmps28
  go_wp2_with fail
  refine H1.out.mono ?_
  rintro e w1 ⟨rfl, hb⟩
  have HG1 := Lib.hid (HG.out.stay hb)
  have HB1 := Lib.hid hb
  clear hb H1
  go_wp2_with fail
  refine (H2.out _ HG1.out).mono ?_
  rintro e w2 ⟨rfl, hb⟩
  have HB2 := Lib.hid (HB1.out.trans (hb.mono HB1.out.size))
  have hba : Below w2.heap.size w2 (w2.alloc (.cells #[.int .i64 1, .int .i64 1, .string ⟨#[98, 99]⟩] 41)) := (Below.refl _ _).alloc (Nat.le_refl _) _
  have HG2 := Lib.hid ((HG1.out.stay hb).stay hba)
  have HB3 := Lib.hid (HB2.out.trans (hba.mono HB2.out.size))
  clear hb hba H2
  go_wp2_with fail
  refine (H3.out _ HG2.out).mono ?_
  rintro e w3 ⟨rfl, hb⟩
  have hbl : w3.heap[w2.heap.size]? = some (.cells #[.int .i64 1, .int .i64 1, .string ⟨#[98, 99]⟩] 41 (0, 0)) := (hb.block _ (by simp)).trans (heap_alloc_new w2 _)
  have c0 : w3.cell? ⟨w2.heap.size, 0, none⟩ = some (.int .i64 1) := by rw [Lib.cell_of_heap hbl]; rfl
  have c1 : w3.cell? ⟨w2.heap.size, 1, none⟩ = some (.int .i64 1) := by rw [Lib.cell_of_heap hbl]; rfl
  have c2 : w3.cell? ⟨w2.heap.size, 2, none⟩ = some (.string ⟨#[98, 99]⟩) := by rw [Lib.cell_of_heap hbl]; rfl
  have HB4 := Lib.hid (HB3.out.trans (hb.mono HB3.out.size))
  clear hb hbl H3
  go_wp2_with fail
  refine (H4.out _).mono ?_
  rintro e w4 ⟨rfl, rfl⟩
  go_wp2
  go_ret
  exact ⟨rfl, HB4.out⟩

end Go.Proofs.YtfcdmkfbkkogbaaDoor.Edit
