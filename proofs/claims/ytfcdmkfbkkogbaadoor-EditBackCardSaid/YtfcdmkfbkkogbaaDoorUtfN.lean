/- What the laws of the package utf ask of known signs. -/
import Derived.Test.YtfcdmkfbkkogbaaDoorUtfM
namespace Go.Proofs.YtfcdmkfbkkogbaaDoor.Utf
open Go Go.RowKit

theorem enc_euro : encB 8364 = ⟨#[226, 130, 172]⟩ := by
  have h : Lib.validRune 8364 = true := by decide
  unfold encB; rw [h]; rfl
theorem txt_euro : itemV (txt ⟨#[97, 226, 130, 172]⟩) 1 = .agg #[.int .i64 1, .int .i64 3, .int .i32 8364, .bool true] := by
  have h : (txt ⟨#[97, 226, 130, 172]⟩).dc 1 = (8364, 3) := by decide +kernel
  unfold itemV Txt.ok Txt.w Txt.r
  rw [h]; rfl
theorem show_two : showL [255, 92] = [92, 117, 123, 102, 102, 125, 92, 92] := by decide +kernel
theorem caret_three : caretB (txt ⟨#[226, 130, 172]⟩) 3 = true := by decide +kernel
theorem caret_one : caretB (txt ⟨#[226, 130, 172]⟩) 1 = false := by decide +kernel

set_option maxRecDepth 100000 in
theorem works_any (W : World) (h : G W) : Calls Tryd.prog 20 #[] W fun e w' => e = .returned (.bool true) ∧ Below W.heap.size W w' := by
  have H1 := Lib.hid (enc_any 8364 W)
  rw [enc_euro, show Lib.validRune 8364 = true by decide] at H1
  have H2 := Lib.hid (at_in ⟨#[97, 226, 130, 172]⟩ 1 W h.1 (by decide))
  rw [txt_euro] at H2
  have HG := Lib.hid h
  have H3 := Lib.hid (fun w hw => show_any ⟨#[255, 92]⟩ w hw (by decide))
  have e3 : (⟨#[255, 92]⟩ : ByteArray).data.toList = [255, 92] := rfl
  rw [e3, show_two] at H3
  have H4 := Lib.hid (fun w hw => caret_any ⟨#[226, 130, 172]⟩ 3 w hw (by decide))
  rw [caret_three] at H4
  have H5 := Lib.hid (fun w hw => caret_any ⟨#[226, 130, 172]⟩ 1 w hw (by decide))
  rw [caret_one] at H5
  clear h e3
  go_enter Tryd.func20, Tryd.ntmps20
  go_wp2_with fail
  refine H1.out.mono ?_
  rintro e w1 ⟨rfl, rfl⟩
  go_wp2_with fail
  refine H2.out.mono ?_
  rintro e w1 ⟨rfl, hb1⟩
  have hba : Below w1.heap.size w1 (w1.alloc (.cells #[.int .i64 1, .int .i64 3, .int .i32 8364, .bool true] 27)) := (Below.refl _ _).alloc (Nat.le_refl _) _
  have HG1 := Lib.hid ((HG.out.stay hb1).stay hba)
  have HB1 := Lib.hid (hb1.trans (hba.mono hb1.size))
  clear hb1 hba H1 H2
  go_wp2_with fail
  refine (H3.out _ HG1.out).mono ?_
  rintro e w2 ⟨rfl, hb2⟩
  have HG2 := Lib.hid (HG1.out.stay hb2)
  have HB2 := Lib.hid (HB1.out.trans (hb2.mono HB1.out.size))
  clear hb2 H3 HG1 HB1
  go_wp2_with fail
  refine (H4.out _ HG2.out.1).mono ?_
  rintro e w3 ⟨rfl, hb3⟩
  have HG3 := Lib.hid (HG2.out.stay hb3)
  have HB3 := Lib.hid (HB2.out.trans (hb3.mono HB2.out.size))
  clear hb3 H4 HG2 HB2
  go_wp2_with fail
  refine (H5.out _ HG3.out.1).mono ?_
  rintro e w4 ⟨rfl, hb4⟩
  have HB4 := Lib.hid (HB3.out.trans (hb4.mono HB3.out.size))
  clear hb4 H5 HG3 HB3
  go_wp2
  go_ret
  exact ⟨rfl, HB4.out⟩

end Go.Proofs.YtfcdmkfbkkogbaaDoor.Utf
