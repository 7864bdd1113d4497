/- The law UtfSigns, walked. -/
import Derived.Test.YtfcdmkfbkkogbaaDoorUtfN
namespace Go.Proofs.YtfcdmkfbkkogbaaDoor.Utf
open Go Go.RowKit

theorem enc_none (r : Int) : (!(encB r).toList.isEmpty) = Lib.validRune r := by
  cases hv : Lib.validRune r with
  | false => unfold encB; rw [hv, if_neg (by simp), Bool.not_eq_false', ByteArray.toList_eq]; rfl
  | true =>
    have h := (valid_iff r).1 hv
    obtain ⟨k, rfl⟩ := Int.eq_ofNat_of_zero_le (show 0 ≤ r by omega)
    have hn := encB_nat k
    have hne : encN k ≠ [] := by
      unfold encN
      rw [if_neg (by omega)]
      repeat' split
      all_goals simp
    rw [Bool.not_eq_true', ByteArray.toList_eq]
    cases he : (encB (k : Int)).data.toList with
    | nil => rw [he] at hn; exact absurd hn.symm hne
    | cons x l => rfl

theorem cells4 {w : World} {b : Nat} {x0 x1 x2 x3 : Value} (h : w.heap[b]? = some (.cells #[x0, x1, x2, x3] 27 (0, 0))) :
    w.cell? ⟨b, 0, none⟩ = some x0 ∧ w.cell? ⟨b, 1, none⟩ = some x1 ∧ w.cell? ⟨b, 2, none⟩ = some x2 ∧ w.cell? ⟨b, 3, none⟩ = some x3 :=
  ⟨by rw [Lib.cell_of_heap h]; rfl, by rw [Lib.cell_of_heap h]; rfl, by rw [Lib.cell_of_heap h]; rfl, by rw [Lib.cell_of_heap h]; rfl⟩
theorem signs_long {s : ByteArray} {r a : Int} (W : World) (h : 2000 < s.size) : Calls Tryd.prog 4 #[.int .i32 r, .string s, .int .i64 a] W fun e w' => e = .returned (.bool true) ∧ Below W.heap.size W w' := by
  have e1 : decide ((2000 : Int) < (s.size : Int)) = true := decide_eq_true (by omega)
  go_enter Tryd.func4, Tryd.ntmps4
  go_wp2
  go_ret
  exact ⟨rfl, Below.refl _ _⟩

set_option maxRecDepth 100000 in
theorem signs_walk (r : Int) (s : ByteArray) (a : Int) (W : World) (h : G W) (hr : -2147483648 ≤ r ∧ r ≤ 2147483647) (ha : -9223372036854775808 ≤ a ∧ a ≤ 9223372036854775807) :
    Calls Tryd.prog 4 #[.int .i32 r, .string s, .int .i64 a] W fun e w' => e = .returned (.bool true) ∧ Below W.heap.size W w' := by
  by_cases hl : 2000 < s.size
  · exact signs_long W hl
  have e1 : decide ((2000 : Int) < (s.size : Int)) = false := decide_eq_false (by omega)
  have H1 := Lib.hid (enc_any r W)
  have H2 := Lib.hid (fun w => refenc_any r w)
  have H5 := Lib.hid (fun w hw => show_any s w hw (by omega))
  have H6 := Lib.hid (fun w => refshow_any s w (by omega))
  have hne := enc_none r
  obtain ⟨v, hv⟩ : ∃ v, Lib.validRune r = v := ⟨_, rfl⟩
  obtain ⟨E, hE⟩ : ∃ E, encB r = E := ⟨_, rfl⟩
  obtain ⟨X, hX⟩ : ∃ X : ByteArray, ⟨(showL s.data.toList).toArray⟩ = X := ⟨_, rfl⟩
  rw [hv, hE] at H1
  rw [hE] at H2
  rw [hX] at H5 H6
  rw [hv, hE] at hne
  have hEE : (!(E.toList == E.toList)) = false := by simp
  have hEE2 : (E.toList != E.toList) = false := by simp
  have hvv : (v != v) = false := by simp
  have hXX : (X.toList != X.toList) = false := by simp
  have HG := Lib.hid h
  have hr1 := hr.1
  have hr2 := hr.2
  have hs6 : s.size ≤ 1000000 := by omega
  clear h hv hE hX hl hr
  by_cases hin : 0 ≤ a ∧ a < s.size
  · obtain ⟨k, rfl⟩ := Int.eq_ofNat_of_zero_le hin.1
    have hk : k < s.size := by omega
    have H3 := Lib.hid (fun w hw => at_in s k w hw hk)
    have H7 := Lib.hid (fun w => refat_any s k w hk (by omega))
    have HW := Lib.hid works_any
    have hok := (txt s).ok_iff k
    have hbad := (txt s).bad k
    have hrl := (txt s).r_lt k
    unfold itemV at H3
    unfold refR at H7
    have hrb : (txt s).ok k = false → (txt s).r k = 65533 := fun h => by
      have := (hbad fun hs => by rw [hok.2 hs] at h; cases h).1
      unfold Txt.r; rw [this]
    obtain ⟨w0, hw0⟩ : ∃ x, (txt s).w k = x := ⟨_, rfl⟩
    obtain ⟨r0, hr0⟩ : ∃ x, (txt s).r k = x := ⟨_, rfl⟩
    obtain ⟨o0, ho0⟩ : ∃ x, (txt s).ok k = x := ⟨_, rfl⟩
    rw [hw0, hr0, ho0] at H3
    rw [hw0, hr0, ho0] at H7
    rw [ho0, hr0] at hrb
    rw [hr0] at hrl
    obtain ⟨q, hq⟩ : ∃ q, (if o0 = true then (r0 : Int) else -1) = q := ⟨_, rfl⟩
    rw [hq] at H7
    have hfacts : (o0 = true ∧ q = (r0 : Int)) ∨ (o0 = false ∧ q = -1 ∧ r0 = 65533) := by
      cases o0 with
      | true => exact .inl ⟨rfl, hq.symm⟩
      | false => exact .inr ⟨rfl, hq.symm, hrb rfl⟩
    have e2 : decide ((k : Int) < 0) = false := decide_eq_false (by omega)
    have e3' : ¬ (s.size : Int) ≤ k := by omega
    have e3 : decide (s.size ≤ k) = false := decide_eq_false (by omega)
    clear e3'
    have hr0i : (r0 : Int) < 1114112 := by omega
    have H7 : Hid (∀ w : World, Calls Tryd.prog 16 #[.string s, .int .i64 (k : Int)] w fun e W' => e = .returned (.tuple #[.int .i64 q, .int .i64 (w0 : Int)]) ∧ Below w.heap.size w W') := H7.out
    clear hin hok hbad hrb hw0 hr0 ho0 hq ha hs6
    rcases hfacts with ⟨rfl, rfl⟩ | ⟨rfl, rfl, rfl⟩
    all_goals
      go_enter Tryd.func4, Tryd.ntmps4
      go_wp2_with fail
      refine H1.out.mono ?_
      rintro e w1 ⟨rfl, rfl⟩
      go_wp2_with fail
      refine (H2.out _).mono ?_
      rintro e w1 ⟨rfl, hb1⟩
      have HG1 := Lib.hid (HG.out.stay hb1)
      have HB1 := Lib.hid hb1
      clear hb1
      go_wp2_with fail
      refine (H3.out _ HG1.out.1).mono ?_
      rintro e w2 ⟨rfl, hb2⟩
      have hba := (Below.refl w2.heap.size w2).alloc (Nat.le_refl _)
      have HG2a := Lib.hid (HG1.out.stay hb2)
      have HB2 := Lib.hid (HB1.out.trans (hb2.mono HB1.out.size))
      clear hb2 HG1 HB1
      go_wp2_with fail
      refine (H5.out _ (HG2a.out.stay (hba _))).mono ?_
      rintro e w3 ⟨rfl, hb3⟩
      have HG3 := Lib.hid ((HG2a.out.stay (hba _)).stay hb3)
      have HB3 := Lib.hid ((HB2.out.trans ((hba _).mono HB2.out.size)).trans (hb3.mono (Nat.le_trans HB2.out.size (by simp))))
      have hs3 : w2.heap.size < w3.heap.size := Nat.lt_of_lt_of_le (by simp) hb3.size
      have HBL3 := Lib.hid ((hb3.block _ (by simp)).trans (heap_alloc_new w2 _))
      clear hb3 HG2a HB2 hba
      go_wp2_with fail
      refine (H6.out _).mono ?_
      rintro e w4 ⟨rfl, hb4⟩
      have HG4 := Lib.hid (HG3.out.stay hb4)
      have HB4 := Lib.hid (HB3.out.trans (hb4.mono HB3.out.size))
      have HS4 := Lib.hid (Nat.lt_of_lt_of_le hs3 hb4.size)
      have HBL4 := Lib.hid ((hb4.block _ hs3).trans HBL3.out)
      clear hb4 HG3 HB3 HBL3 hs3
      go_wp2_with fail
      refine (H7.out _).mono ?_
      rintro e w5 ⟨rfl, hb5⟩
      have ekk : ((k : Int) == (k : Int)) = true := by simp
      have eww : ((w0 : Int) == (w0 : Int)) = true := by simp
      have HG5 := Lib.hid (HG4.out.stay hb5)
      have HB5 := Lib.hid (HB4.out.trans (hb5.mono HB4.out.size))
      have hbl5 := (hb5.block _ HS4.out).trans HBL4.out
      obtain ⟨c0, c1, c2, c3⟩ := cells4 hbl5
      try have e5 : decide ((0 : Int) ≤ (r0 : Int)) = true := decide_eq_true (by omega)
      try have e6 : decide ((r0 : Int) < 0) = false := decide_eq_false (by omega)
      try have err : ((r0 : Int) == (r0 : Int)) = true := by simp
      clear hb5 HG4 HB4 hbl5 HBL4 HS4
      go_wp2_with fail
      refine (HW.out _ HG5.out).mono ?_
      rintro e w6 ⟨rfl, hb6⟩
      have HB6 := Lib.hid (HB5.out.trans (hb6.mono HB5.out.size))
      clear hb6
      go_wp2
      go_ret
      exact ⟨rfl, HB6.out⟩
  · have H3 := Lib.hid (fun w => at_out s a w (by omega))
    unfold noItem at H3
    have HW := Lib.hid works_any
    have hcase : decide (a < 0) = true ∨ (decide (a < 0) = false ∧ decide ((s.size : Int) ≤ a) = true) := by
      by_cases h0 : a < 0
      · exact .inl (decide_eq_true h0)
      · exact .inr ⟨decide_eq_false h0, decide_eq_true (by omega)⟩
    clear hin
    rcases hcase with e2 | ⟨e2, e3⟩
    all_goals
      go_enter Tryd.func4, Tryd.ntmps4
      go_wp2_with fail
      refine H1.out.mono ?_
      rintro e w1 ⟨rfl, rfl⟩
      go_wp2_with fail
      refine (H2.out _).mono ?_
      rintro e w1 ⟨rfl, hb1⟩
      have HG1 := Lib.hid (HG.out.stay hb1)
      have HB1 := Lib.hid hb1
      clear hb1
      go_wp2_with fail
      refine (H3.out _).mono ?_
      rintro e w2 ⟨rfl, hb2⟩
      have hba : Below w2.heap.size w2 (w2.alloc (.cells #[.int .i64 0, .int .i64 0, .int .i32 0, .bool false] 27)) := (Below.refl _ _).alloc (Nat.le_refl _) _
      have hb3 := hb2.trans (hba.mono hb2.size)
      have HG2 := Lib.hid (HG1.out.stay hb3)
      have HB2 := Lib.hid (HB1.out.trans (hb3.mono HB1.out.size))
      clear hb2 hba hb3 HG1 HB1
      go_wp2_with fail
      refine (H5.out _ HG2.out).mono ?_
      rintro e w3 ⟨rfl, hb3⟩
      have HG3 := Lib.hid (HG2.out.stay hb3)
      have HB3 := Lib.hid (HB2.out.trans (hb3.mono HB2.out.size))
      have hs3 : w2.heap.size < w3.heap.size := Nat.lt_of_lt_of_le (by simp) hb3.size
      have HBL3 := Lib.hid ((hb3.block _ (by simp)).trans (heap_alloc_new w2 (.cells #[.int .i64 0, .int .i64 0, .int .i32 0, .bool false] 27)))
      clear hb3 HG2 HB2
      go_wp2_with fail
      refine (H6.out _).mono ?_
      rintro e w4 ⟨rfl, hb4⟩
      have HG4 := Lib.hid (HG3.out.stay hb4)
      have HB4 := Lib.hid (HB3.out.trans (hb4.mono HB3.out.size))
      have hbl4 := (hb4.block _ hs3).trans HBL3.out
      have c0 : w4.cell? ⟨w2.heap.size, 0, none⟩ = some (.int .i64 0) := by rw [Lib.cell_of_heap hbl4]; rfl
      have c1 : w4.cell? ⟨w2.heap.size, 1, none⟩ = some (.int .i64 0) := by rw [Lib.cell_of_heap hbl4]; rfl
      have c2 : w4.cell? ⟨w2.heap.size, 2, none⟩ = some (.int .i32 0) := by rw [Lib.cell_of_heap hbl4]; rfl
      have c3 : w4.cell? ⟨w2.heap.size, 3, none⟩ = some (.bool false) := by rw [Lib.cell_of_heap hbl4]; rfl
      clear hb4 HG3 HB3 hbl4 HBL3 hs3
      go_wp2_with fail
      refine (HW.out _ HG4.out).mono ?_
      rintro e w5 ⟨rfl, hb5⟩
      have HB5 := Lib.hid (HB4.out.trans (hb5.mono HB4.out.size))
      clear hb5
      go_wp2
      go_ret
      exact ⟨rfl, HB5.out⟩

end Go.Proofs.YtfcdmkfbkkogbaaDoor.Utf
