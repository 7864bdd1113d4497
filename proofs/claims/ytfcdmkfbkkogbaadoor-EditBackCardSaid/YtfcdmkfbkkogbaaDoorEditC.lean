/- The document's Apply and Count; Lines, Line, Back. -/
import Derived.Test.YtfcdmkfbkkogbaaDoorEditB
import Derived.Deep.RegionHeld3
import Derived.Deep.RegionWith
namespace Go.Proofs.YtfcdmkfbkkogbaaDoor.Edit
open Go Go.RowKit Go.Proofs.YtfcdmkfbkkogbaaDoor.Utf

/-- What the document's Apply answers with. -/
def RefApplied (s : ByteArray) (a c : Int) (p : ByteArray) (e : Ending) : Prop := ∃ X : ByteArray, e = .returned (.tuple #[.string X, .int .i64 (codeE s a c p)]) ∧ ((codeE s a c p ≠ 0 ∧ X = ⟨#[]⟩) ∨ (codeE s a c p = 0 ∧ X = applS s a.toNat c.toNat p))
set_option maxRecDepth 100000 in
theorem refapply_any (s : ByteArray) (a c : Int) (p : ByteArray) (W : World) (hs : s.size ≤ 1000000) (hp : p.size ≤ 1000000)
    (ha : -9223372036854775808 ≤ a ∧ a ≤ 9223372036854775807) (hc : -9223372036854775808 ≤ c ∧ c ≤ 9223372036854775807) :
    Calls Tryd.prog 27 #[.string s, .int .i64 a, .int .i64 c, .string p] W fun e w' => RefApplied s a c p e ∧ Below W.heap.size W w' := by
  by_cases h1 : a < 0
  · have hcode : codeE s a c p = 2 := if_pos (.inl h1)
    have HC := Lib.hid hcode
    have e1 : decide (a < 0) = true := decide_eq_true h1
    clear hcode ha hc
    go_enter Tryd.func27, Tryd.ntmps27
    go_wp2
    go_ret2
    exact ⟨⟨_, by rw [HC.out]; rfl, .inl ⟨by rw [HC.out]; decide, rfl⟩⟩, Below.refl _ _⟩
  have e1 : decide (a < 0) = false := decide_eq_false h1
  by_cases h2 : c < 0
  · have hcode : codeE s a c p = 2 := if_pos (.inr (.inl h2))
    have HC := Lib.hid hcode
    have e2 : decide (c < 0) = true := decide_eq_true h2
    clear hcode ha hc
    go_enter Tryd.func27, Tryd.ntmps27
    go_wp2
    go_ret2
    exact ⟨⟨_, by rw [HC.out]; rfl, .inl ⟨by rw [HC.out]; decide, rfl⟩⟩, Below.refl _ _⟩
  have e2 : decide (c < 0) = false := decide_eq_false h2
  obtain ⟨k, rfl⟩ := Int.eq_ofNat_of_zero_le (show 0 ≤ a by omega)
  obtain ⟨m, rfl⟩ := Int.eq_ofNat_of_zero_le (show 0 ≤ c by omega)
  by_cases h3 : s.size < k
  · have hcode : codeE s k m p = 2 := if_pos (.inr (.inr (.inl (by omega))))
    have HC := Lib.hid hcode
    have e3 : decide (s.size < k) = true := decide_eq_true h3
    clear hcode hc
    go_enter Tryd.func27, Tryd.ntmps27
    go_wp2
    go_ret2
    exact ⟨⟨_, by rw [HC.out]; rfl, .inl ⟨by rw [HC.out]; decide, rfl⟩⟩, Below.refl _ _⟩
  have e3 : decide (s.size < k) = false := decide_eq_false h3
  by_cases h4 : (s.size : Int) - k < m
  · have hcode : codeE s k m p = 2 := if_pos (.inr (.inr (.inr h4)))
    have HC := Lib.hid hcode
    have e4 : decide ((s.size : Int) - (k : Int) < (m : Int)) = true := decide_eq_true h4
    clear hcode
    go_enter Tryd.func27, Tryd.ntmps27
    go_wp2
    go_ret2
    exact ⟨⟨_, by rw [HC.out]; rfl, .inl ⟨by rw [HC.out]; decide, rfl⟩⟩, Below.refl _ _⟩
  have e4 : decide ((s.size : Int) - (k : Int) < (m : Int)) = false := decide_eq_false h4
  have hk : k ≤ s.size := by omega
  have hm : k + m ≤ s.size := by omega
  have hcode : codeE s k m p = if caretB (txt s) k = false ∨ caretB (txt s) ((k : Int) + m) = false then 30 else if 65536 < (s.size : Int) - m + (p.size : Int) then 3 else 0 := if_neg (by omega)
  have H1 := Lib.hid (fun w => refcaret_any s k w hs (by omega))
  have H2 := Lib.hid (fun w => refcaret_any s (k + m) w hs (by omega))
  have e6 : ((k + m : Nat) : Int) = (k : Int) + (m : Int) := by omega
  rw [e6] at H2
  obtain ⟨c1, hc1⟩ : ∃ x, caretB (txt s) (k : Int) = x := ⟨_, rfl⟩
  obtain ⟨c2, hc2⟩ : ∃ x, caretB (txt s) ((k : Int) + m) = x := ⟨_, rfl⟩
  rw [hc1] at H1 hcode
  rw [hc2] at H2 hcode
  have hk6 : (k : Int) ≤ 1000000 := by omega
  have hm6 : (m : Int) ≤ 1000000 := by omega
  have hks : (k : Int) ≤ (s.size : Int) := by omega
  have hkms : (k : Int) + (m : Int) ≤ (s.size : Int) := by omega
  have hx1 : (s.extract 0 k).size ≤ 1000000 := by rw [ext_size s (by omega)]; omega
  have hx2 : (s.extract (k + m) s.size).size ≤ 1000000 := by rw [ext_size s (Nat.le_refl _)]; omega
  have hcases : (c1 = false ∧ Hid (codeE s k m p = 30)) ∨ (c1 = true ∧ c2 = false ∧ Hid (codeE s k m p = 30)) ∨
      (c1 = true ∧ c2 = true ∧ decide (65536 - (p.size : Int) < (s.size : Int) - (m : Int)) = true ∧ Hid (codeE s k m p = 3)) ∨
      (c1 = true ∧ c2 = true ∧ decide (65536 - (p.size : Int) < (s.size : Int) - (m : Int)) = false ∧ Hid (codeE s k m p = 0)) := by
    cases c1 with
    | false => exact .inl ⟨rfl, by rw [hcode]; exact if_pos (.inl rfl)⟩
    | true =>
      cases c2 with
      | false => exact .inr (.inl ⟨rfl, rfl, by rw [hcode]; exact if_pos (.inr rfl)⟩)
      | true =>
        have e : codeE s k m p = (if 65536 < (s.size : Int) - m + (p.size : Int) then 3 else 0) := by rw [hcode]; exact if_neg (by simp)
        by_cases h5 : 65536 < (s.size : Int) - m + (p.size : Int)
        · exact .inr (.inr (.inl ⟨rfl, rfl, decide_eq_true (by omega), by rw [e]; exact if_pos h5⟩))
        · exact .inr (.inr (.inr ⟨rfl, rfl, decide_eq_false (by omega), by rw [e]; exact if_neg h5⟩))
  clear hcode hc1 hc2 h1 h2 h3 h4 ha hc e6
  rcases hcases with ⟨rfl, HX⟩ | ⟨rfl, rfl, HX⟩ | ⟨rfl, rfl, e5, HX⟩ | ⟨rfl, rfl, e5, HX⟩
  · go_enter Tryd.func27, Tryd.ntmps27
    go_wp2_with fail
    refine (H1.out _).mono ?_
    rintro e w1 ⟨rfl, hb⟩
    have HB := Lib.hid hb
    clear hb
    go_wp2
    go_ret2
    exact ⟨⟨_, by rw [HX.out]; rfl, .inl ⟨by rw [HX.out]; decide, rfl⟩⟩, HB.out⟩
  · go_enter Tryd.func27, Tryd.ntmps27
    go_wp2_with fail
    refine (H1.out _).mono ?_
    rintro e w1 ⟨rfl, hb⟩
    have HB := Lib.hid hb
    clear hb
    go_wp2_with fail
    refine (H2.out _).mono ?_
    rintro e w2 ⟨rfl, hb⟩
    have HB2 := Lib.hid (HB.out.trans (hb.mono HB.out.size))
    clear hb
    go_wp2
    go_ret2
    exact ⟨⟨_, by rw [HX.out]; rfl, .inl ⟨by rw [HX.out]; decide, rfl⟩⟩, HB2.out⟩
  · go_enter Tryd.func27, Tryd.ntmps27
    go_wp2_with fail
    refine (H1.out _).mono ?_
    rintro e w1 ⟨rfl, hb⟩
    have HB := Lib.hid hb
    clear hb
    go_wp2_with fail
    refine (H2.out _).mono ?_
    rintro e w2 ⟨rfl, hb⟩
    have HB2 := Lib.hid (HB.out.trans (hb.mono HB.out.size))
    clear hb
    go_wp2
    go_ret2
    exact ⟨⟨_, by rw [HX.out]; rfl, .inl ⟨by rw [HX.out]; decide, rfl⟩⟩, HB2.out⟩
  · go_enter Tryd.func27, Tryd.ntmps27
    go_wp2_with fail
    refine (H1.out _).mono ?_
    rintro e w1 ⟨rfl, hb⟩
    have HB := Lib.hid hb
    clear hb
    go_wp2_with fail
    refine (H2.out _).mono ?_
    rintro e w2 ⟨rfl, hb⟩
    have HB2 := Lib.hid (HB.out.trans (hb.mono HB.out.size))
    clear hb
    go_wp2_with fail
    go_quiet (fail)
    go_wp2
    go_ret2
    exact ⟨⟨_, by rw [HX.out]; rfl, .inr ⟨HX.out, by rw [Int.toNat_natCast, Int.toNat_natCast]; rfl⟩⟩, below_drewNv HB2.out _⟩

/-! ### Lines, Line -/
def linesN (s : ByteArray) : Nat := Lib.countByte s.data.toList 10
set_option maxRecDepth 100000 in
theorem lines_any (s : ByteArray) (W : World) (hs : s.size ≤ 1000000) : Calls Tryd.prog 32 #[.string s] W fun e w' => e = .returned (.int .i64 (1 + (linesN s : Int))) ∧ W = w' := by
  have H := Lib.hid (Tryd.strings_Count_one s 10 W)
  have hl : Lib.countByte s.data.toList 10 ≤ 1000000 := by
    have := List.count_le_length (a := (10 : UInt8)) (l := s.data.toList)
    rw [← Lib.size_eq] at this
    unfold Lib.countByte; omega
  have e : Lib.countByte s.data.toList 10 = linesN s := rfl
  rw [e] at H hl
  clear e
  go_enter Tryd.func32, Tryd.ntmps32
  go_wp2_with fail
  refine H.out.mono ?_
  rintro e w1 ⟨rfl, rfl⟩
  go_wp2
  go_ret
  exact ⟨rfl, rfl⟩

/-- Where the line of a text's end begins. -/
def bgN (s : ByteArray) : Nat := (Lib.lastIndexByte s 10 + 1).toNat
theorem bg_le (s : ByteArray) : Lib.lastIndexByte s 10 = (bgN s : Int) - 1 ∧ bgN s ≤ s.size := by
  unfold bgN
  rcases Lib.lastIndexByte_spec s 10 with ⟨h, _⟩ | ⟨i, hi, h, _⟩
  · rw [h]; exact ⟨by decide, by simp⟩
  · rw [h]; exact ⟨by omega, by omega⟩
noncomputable def colN (s : ByteArray) : Nat := (txt (s.extract (bgN s) s.size)).cnt

set_option maxRecDepth 100000 in
theorem line_no (s : ByteArray) (a : Int) (W : World) (T : U8 W) (hs : s.size ≤ 1000000) (h : caretB (txt s) a = false) :
    Calls Tryd.prog 33 #[.string s, .int .i64 a] W fun e w' => e = .returned (.tuple #[.int .i64 0, .int .i64 0, .bool false]) ∧ Below W.heap.size W w' := by
  have H := Lib.hid (caret_any s a W T hs)
  rw [h] at H
  clear h T
  go_enter Tryd.func33, Tryd.ntmps33
  go_wp2_with fail
  refine H.out.mono ?_
  rintro e w1 ⟨rfl, hb⟩
  have HB := Lib.hid hb
  clear hb
  go_wp2
  go_ret3
  exact ⟨rfl, HB.out⟩
set_option maxRecDepth 100000 in
theorem line_yes (s : ByteArray) (k : Nat) (W : World) (T : U8 W) (hs : s.size ≤ 1000000) (h : caretB (txt s) (k : Int) = true) :
    Calls Tryd.prog 33 #[.string s, .int .i64 (k : Int)] W fun e w' => e = .returned (.tuple #[.int .i64 (linesN (s.extract 0 k) : Int), .int .i64 (colN (s.extract 0 k) : Int), .bool true]) ∧ Below W.heap.size W w' := by
  have H := Lib.hid (caret_any s k W T hs)
  have hk := ((caret_iff (txt s) k).1 h).1
  rw [h] at H
  have hsz : (s.extract 0 k).size = k := by rw [ext_size s hk]; omega
  have hk6 : (k : Int) ≤ 1000000 := by have : k ≤ s.size := hk; omega
  have hks : (k : Int) ≤ (s.size : Int) := by have : k ≤ s.size := hk; omega
  have H1 := Lib.hid (fun w => Tryd.strings_LastIndexByte (s.extract 0 k) 10 (by omega) w)
  have hb := bg_le (s.extract 0 k)
  rw [hb.1] at H1
  have H2 := Lib.hid (fun w => Tryd.strings_Count_one (s.extract 0 k) 10 w)
  have e2 : Lib.countByte (s.extract 0 k).data.toList 10 = linesN (s.extract 0 k) := rfl
  rw [e2] at H2
  have H3 := Lib.hid (fun w => count_any ((s.extract 0 k).extract (bgN (s.extract 0 k)) (s.extract 0 k).size) w (by rw [ext_size _ (Nat.le_refl _)]; omega))
  have e3 : (txt ((s.extract 0 k).extract (bgN (s.extract 0 k)) (s.extract 0 k).size)).cnt = colN (s.extract 0 k) := rfl
  rw [e3] at H3
  obtain ⟨g, hg⟩ : ∃ g, bgN (s.extract 0 k) = g := ⟨_, rfl⟩
  obtain ⟨l, hl⟩ : ∃ g, linesN (s.extract 0 k) = g := ⟨_, rfl⟩
  obtain ⟨c, hc⟩ : ∃ g, colN (s.extract 0 k) = g := ⟨_, rfl⟩
  have hb2 := hb.2
  rw [hg] at H1 H3 hb2
  rw [hl] at H2 ⊢
  rw [hc] at H3 ⊢
  have hmin : (s.extract 0 k).size = min k s.size := by rw [hsz]; exact (Nat.min_eq_left hk).symm
  rw [hmin] at H3
  rw [hsz] at hb2
  have hg6 : (g : Int) ≤ (k : Int) := by omega
  clear h T hb e2 e3 hg hl hc hsz hk hmin
  go_enter Tryd.func33, Tryd.ntmps33
  go_wp2_with fail
  refine H.out.mono ?_
  rintro e w1 ⟨rfl, hb⟩
  have HB := Lib.hid hb
  clear hb
  go_wp2_with fail
  refine (H1.out _).mono ?_
  rintro e w2 ⟨rfl, rfl⟩
  go_wp2_with fail
  go_region_with (first | (go_at_call 63; refine (H2.out _).mono ?_; rintro e w' ⟨rfl, rfl⟩) | (go_at_call 17; refine (H3.out _).mono ?_; rintro e w' ⟨rfl, hb⟩))
  all_goals
    have HB2 := Lib.hid (HB.out.drew.trans (hb.mono HB.out.size))
    clear hb
    go_wp2
    go_ret3
    exact ⟨rfl, HB2.out⟩

end Go.Proofs.YtfcdmkfbkkogbaaDoor.Edit
