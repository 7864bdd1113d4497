/- The law EditPlaces, walked. -/
import Derived.Test.YtfcdmkfbkkogbaaDoorEditF
namespace Go.Proofs.YtfcdmkfbkkogbaaDoor.Edit
open Go Go.RowKit Go.Proofs.YtfcdmkfbkkogbaaDoor.Utf

theorem and15 (a : Int) : ∃ k : Nat, k ≤ 15 ∧ bits .and .i64 a 15 = (k : Int) := by
  have e15 : (BitVec.ofInt 64 15).toNat = 15 := by decide
  refine ⟨(BitVec.ofInt 64 a).toNat &&& 15, Nat.and_le_right, ?_⟩
  show IntKind.i64.wrap ((BitVec.ofInt 64 a &&& BitVec.ofInt 64 15).toNat : Int) = _
  rw [BitVec.toNat_and, e15, IntKind.wrap_i64]
  have : (BitVec.ofInt 64 a).toNat &&& 15 ≤ 15 := Nat.and_le_right
  omega

set_option maxRecDepth 100000 in
theorem places_walk (s : ByteArray) (a c : Int) (W : World) (h : U8 W)
    (_ha : -9223372036854775808 ≤ a ∧ a ≤ 9223372036854775807) (_hc : -9223372036854775808 ≤ c ∧ c ≤ 9223372036854775807) :
    Calls Tryd.prog 12 #[.string s, .int .i64 a, .int .i64 c] W fun e w' => e = .returned (.bool true) ∧ Below W.heap.size W w' := by
  by_cases hl : 1000 < s.size
  · have e1 : decide ((1000 : Int) < (s.size : Int)) = true := decide_eq_true (by omega)
    go_enter Tryd.func12, Tryd.ntmps12
    go_wp2
    go_ret
    exact ⟨rfl, Below.refl _ _⟩
  have e1 : decide ((1000 : Int) < (s.size : Int)) = false := decide_eq_false (by omega)
  obtain ⟨j, hj, ej⟩ := and15 a
  obtain ⟨k, hk, ek⟩ := and15 c
  have HP := Lib.hid (place_any s j k W h (by omega) (by omega) (by omega))
  have HL := Lib.hid (fun w => lines_any s w (by omega))
  have hl6 : linesN s ≤ 1000 := by rw [lines_all]; exact Nat.le_trans (nl_small _ _) (by omega)
  have HT := Lib.hid h
  have hs6 : s.size ≤ 1000 := by omega
  clear h _ha _hc hl
  go_enter Tryd.func12, Tryd.ntmps12
  go_wp2_with fail
  refine HP.out.mono ?_
  rintro e w1 ⟨hp, hb⟩
  have HT1 := Lib.hid (HT.out.stay hb)
  have HB1 := Lib.hid hb
  have HW := Lib.hid (works_any w1 HT1.out)
  clear hb HP
  rcases hp with ⟨hbad, rfl⟩ | ⟨j', k', p, ej', ek', hjl, hin, rfl⟩ | ⟨j', k', i, p, ej', ek', hjl, hik, hin, hstop, rfl⟩
  · obtain ⟨l, hl⟩ : ∃ l, linesN s = l := ⟨_, rfl⟩
    rw [hl] at hbad HL hl6
    have e2 : decide (1 + (l : Int) ≤ (j : Int)) = true := decide_eq_true (by omega)
    clear hbad hl
    go_wp2_with fail
    refine (HL.out _).mono ?_
    rintro e w2 ⟨rfl, rfl⟩
    go_wp2_with fail
    refine HW.out.mono ?_
    rintro e w3 ⟨rfl, hb⟩
    have HB3 := Lib.hid (HB1.out.trans (hb.mono HB1.out.size))
    clear hb
    go_wp2
    go_ret
    exact ⟨rfl, HB3.out⟩
  · obtain rfl : j = j' := by omega
    obtain rfl : k = k' := by omega
    obtain ⟨⟨g, q, hln, hq, hqp⟩, hle, hnl⟩ := hin
    have hps : p ≤ s.size := hle
    have hcar : caretB (txt s) (p : Int) = true := (caret_iff (txt s) p).2 ⟨hle, q + k, hqp⟩
    have hcol := (col_of s hln hq (Nat.le_add_right q k) (by rw [hqp]; exact hps) (by rw [hqp]; exact hnl)).1
    rw [hqp, Nat.add_sub_cancel_left] at hcol
    have HY := Lib.hid (line_yes s p w1 HT1.out (by omega) hcar)
    rw [hcol, lines_ext s hps, hnl] at HY
    clear hln hq hqp hle hnl hcar hcol ej' ek' hjl HL hl6
    go_wp2_with fail
    refine HY.out.mono ?_
    rintro e w2 ⟨rfl, hb⟩
    have HB2 := Lib.hid (HB1.out.trans (hb.mono HB1.out.size))
    have HW2 := Lib.hid (works_any w2 (HT1.out.stay hb))
    clear hb
    go_wp2_with fail
    refine HW2.out.mono ?_
    rintro e w3 ⟨rfl, hb⟩
    have HB3 := Lib.hid (HB2.out.trans (hb.mono HB2.out.size))
    clear hb
    go_wp2
    go_ret
    exact ⟨rfl, HB3.out⟩
  · obtain rfl : j = j' := by omega
    obtain rfl : k = k' := by omega
    obtain ⟨l, hl⟩ : ∃ l, linesN s = l := ⟨_, rfl⟩
    rw [hl] at hjl HL hl6
    have e2 : decide (1 + (l : Int) ≤ (j : Int)) = false := decide_eq_false (by omega)
    have e3 : decide ((0 : Int) < (k : Int)) = true := decide_eq_true (by omega)
    have e4 : decide (0 < k) = true := decide_eq_true (by omega)
    have e5 : 0 < k := by omega
    have e6 : k ≠ 0 := by omega
    clear ej' ek' hjl hik hin hstop hl
    go_wp2_with fail
    refine (HL.out _).mono ?_
    rintro e w2 ⟨rfl, rfl⟩
    go_wp2_with fail
    refine HW.out.mono ?_
    rintro e w3 ⟨rfl, hb⟩
    have HB3 := Lib.hid (HB1.out.trans (hb.mono HB1.out.size))
    clear hb
    go_wp2
    go_ret
    exact ⟨rfl, HB3.out⟩

end Go.Proofs.YtfcdmkfbkkogbaaDoor.Edit
