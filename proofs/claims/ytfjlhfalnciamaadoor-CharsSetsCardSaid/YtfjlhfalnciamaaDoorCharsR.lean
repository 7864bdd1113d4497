/- How a sign stands in a text (Sign), walked. -/
import Derived.Test.YtfjlhfalnciamaaDoorCharsQ
namespace Go.Proofs.YtfjlhfalnciamaaDoor.Chars
open Go Go.RowKit Go.Proofs.Chars
open Go.Proofs.YtfjlhfalnciamaaDoor.Utf

/-- What the package leans on: the tables, and some number in the library's MaxLen. -/
def GT (W : World) : Prop := U8 W ∧ Z16 W ∧ ∃ m, W.cell? ⟨2, 0, none⟩ = some (.int .i64 m)
theorem GT.stay {w w' : World} (h : GT w) (hb : Below w.heap.size w w') : GT w' := by
  obtain ⟨h1, h2, m, h3⟩ := h
  exact ⟨h1.stay hb, h2.stay hb, m, (hb.cell (p := ⟨2, 0, none⟩) (World.block_lt_of_cell? w ⟨2, 0, none⟩ h3)).trans h3⟩
theorem GT.of {W : World} (h1 : U8 W) (h2 : Z16 W) (h3 : W.ShapedOpen Tryd.prog) : GT W := ⟨h1, h2, Tryd.laysM144.s1_3 W h3⟩

def signB (r : Int) (esc : ByteArray) : ByteArray :=
  if r = 10 then ⟨#[92, 110]⟩
  else if r = 9 then ⟨#[92, 116]⟩
  else if r = 13 then ⟨#[92, 114]⟩
  else if r = 92 ∨ Lib.contains esc.data.toList (encB r).data.toList = true then (⟨#[92]⟩ : ByteArray) ++ encB r
  else if 32 ≤ r ∧ r ≠ 127 then encB r
  else (⟨#[92, 117, 123]⟩ : ByteArray) ++ ⟨(hexL r.toNat).toArray⟩ ++ ⟨#[125]⟩

theorem encB_size (r : Int) (h : Lib.validRune r = true) : 1 ≤ (encB r).size ∧ (encB r).size ≤ 4 := by
  have h0 : 0 ≤ r := by have := (valid_iff r).1 h; omega
  obtain ⟨n, rfl⟩ := Int.eq_ofNat_of_zero_le h0
  have h1 := encB_nat n
  have h2 : (encB (n : Int)).size = (encN n).length := by rw [← h1, List.length_map, Lib.size_eq]
  rw [h2]
  have := (valid_iff _).1 h
  unfold encN
  rw [if_neg (by omega)]
  repeat' split
  all_goals simp

set_option maxHeartbeats 1000000 in
set_option maxRecDepth 100000 in
theorem sign_any (r : Int) (hv : Lib.validRune r = true) (esc : ByteArray) (hesc : esc.size ≤ 1000) (W : World) (T : GT W) :
    Calls Tryd.prog 48 #[.int .i32 r, .string esc] W fun e w' => e = .returned (.string (signB r esc)) ∧ Below W.heap.size W w' := by
  obtain ⟨X, hX⟩ : ∃ X, signB r esc = X := ⟨_, rfl⟩
  rw [hX]
  unfold signB at hX
  have hvi := (valid_iff r).1 hv
  have hes := encB_size r hv
  by_cases k1 : r = 10
  · subst k1
    rw [if_pos rfl] at hX
    have HX := Lib.hid hX
    clear hX hv hvi hes T
    go_enter Tryd.func48, Tryd.ntmps48
    go_wp2
    go_ret
    exact ⟨by rw [← HX.out]; rfl, Below.refl _ _⟩
  have d1 : (r == 10) = false := by simpa using k1
  rw [if_neg k1] at hX
  by_cases k2 : r = 9
  · subst k2
    rw [if_pos rfl] at hX
    have HX := Lib.hid hX
    clear hX hv hvi hes T
    go_enter Tryd.func48, Tryd.ntmps48
    go_wp2
    go_ret
    exact ⟨by rw [← HX.out]; rfl, Below.refl _ _⟩
  have d2 : (r == 9) = false := by simpa using k2
  rw [if_neg k2] at hX
  by_cases k3 : r = 13
  · subst k3
    rw [if_pos rfl] at hX
    have HX := Lib.hid hX
    clear hX hv hvi hes T
    go_enter Tryd.func48, Tryd.ntmps48
    go_wp2
    go_ret
    exact ⟨by rw [← HX.out]; rfl, Below.refl _ _⟩
  have d3 : (r == 13) = false := by simpa using k3
  rw [if_neg k3] at hX
  have HE := Lib.hid (enc_any r W)
  rw [hv] at HE
  obtain ⟨m, hm⟩ := T.2.2
  have HC := Lib.hid (Tryd.strings_Contains esc (encB r) m W (by omega) hm)
  have HF : ∀ n : Nat, r = n → n < 256 → Hid (Calls Tryd.prog 82 #[.int .i64 (n : Int), .int .i64 16] W fun e w' => e = .returned (.string ⟨(hexL n).toArray⟩) ∧ Below W.heap.size W w') := fun n _ hn => format_any n hn W T.2.1
  have HFF := Lib.hid HF
  obtain ⟨B, hB⟩ : ∃ B, encB r = B := ⟨_, rfl⟩
  rw [hB] at hX HE HC hes
  obtain ⟨c, hc⟩ : ∃ c, Lib.contains esc.data.toList B.data.toList = c := ⟨_, rfl⟩
  rw [hc] at hX HC
  clear k1 k2 k3 hv hm T hB hc HF
  by_cases k4 : r = 92
  · have d4 : (r == 92) = true := by simpa using k4
    rw [if_pos (.inl k4)] at hX
    have HX := Lib.hid hX
    clear hX k4 HFF hvi
    go_enter Tryd.func48, Tryd.ntmps48
    go_wp2_with fail
    refine HE.out.mono ?_
    rintro e w1 ⟨rfl, rfl⟩
    go_wp2
    go_ret
    exact ⟨by rw [← HX.out]; rfl, Below.refl _ _⟩
  have d4 : (r == 92) = false := by simpa using k4
  cases c with
  | true =>
    rw [if_pos (.inr rfl)] at hX
    have HX := Lib.hid hX
    clear hX k4 HFF hvi
    go_enter Tryd.func48, Tryd.ntmps48
    go_wp2_with fail
    refine HE.out.mono ?_
    rintro e w1 ⟨rfl, rfl⟩
    go_wp2_with fail
    refine HC.out.mono ?_
    rintro e w2 ⟨rfl, rfl⟩
    go_wp2
    go_ret
    exact ⟨by rw [← HX.out]; rfl, Below.refl _ _⟩
  | false =>
    rw [if_neg (by rintro (h | h); exact k4 h; cases h)] at hX
    by_cases k5 : 32 ≤ r
    · have d5 : decide (32 ≤ r) = true := decide_eq_true k5
      by_cases k6 : r = 127
      · have d6 : (r != 127) = false := by simpa using k6
        rw [if_neg (by omega)] at hX
        have HX := Lib.hid hX
        have HFM := HFF.out 127 (by omega) (by omega)
        have e127 : r.toNat = 127 := by omega
        have HT := Lib.hid e127
        subst k6
        clear hX k4 HFF hvi e127
        go_enter Tryd.func48, Tryd.ntmps48
        go_wp2_with fail
        refine HE.out.mono ?_
        rintro e w1 ⟨rfl, rfl⟩
        go_wp2_with fail
        refine HC.out.mono ?_
        rintro e w2 ⟨rfl, rfl⟩
        go_wp2_with fail
        refine HFM.out.mono ?_
        rintro e w3 ⟨rfl, hb⟩
        have HB := Lib.hid hb
        clear hb
        go_wp2
        go_ret
        exact ⟨by rw [← HX.out]; rfl, HB.out⟩
      · have d6 : (r != 127) = true := by simpa using k6
        rw [if_pos ⟨k5, k6⟩] at hX
        have HX := Lib.hid hX
        clear hX k4 k6 HFF hvi
        go_enter Tryd.func48, Tryd.ntmps48
        go_wp2_with fail
        refine HE.out.mono ?_
        rintro e w1 ⟨rfl, rfl⟩
        go_wp2_with fail
        refine HC.out.mono ?_
        rintro e w2 ⟨rfl, rfl⟩
        go_wp2
        go_ret
        exact ⟨by rw [← HX.out]; rfl, Below.refl _ _⟩
    · have d5 : decide (32 ≤ r) = false := decide_eq_false k5
      have h0 : 0 ≤ r := by omega
      obtain ⟨n, rfl⟩ := Int.eq_ofNat_of_zero_le h0
      rw [if_neg (by omega)] at hX
      have HX := Lib.hid hX
      have HFM := HFF.out n rfl (by omega)
      have hl := hexL_len n
      have hn32 : (n : Int) < 32 := by omega
      clear hX k4 k5 HFF hvi
      go_enter Tryd.func48, Tryd.ntmps48
      go_wp2_with fail
      refine HE.out.mono ?_
      rintro e w1 ⟨rfl, rfl⟩
      go_wp2_with fail
      refine HC.out.mono ?_
      rintro e w2 ⟨rfl, rfl⟩
      go_wp2_with fail
      refine HFM.out.mono ?_
      rintro e w3 ⟨rfl, hb⟩
      have HB := Lib.hid hb
      clear hb
      go_wp2
      go_ret
      exact ⟨by rw [← HX.out]; rfl, HB.out⟩

end Go.Proofs.YtfjlhfalnciamaaDoor.Chars
