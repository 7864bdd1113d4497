/- What the laws of the package chars ask of known sets (works), walked. -/
import Derived.Test.YtfjlhfalnciamaaDoorCharsT
namespace Go.Proofs.YtfjlhfalnciamaaDoor.Chars
open Go Go.RowKit Go.Proofs.Chars
open Go.Proofs.YtfjlhfalnciamaaDoor.Utf

theorem known_read : readE ⟨#[97, 45, 99, 95]⟩ = .good [(97, 99), (95, 95)] := by kernel_rfl
theorem known_esc : escE (txt ⟨#[117, 123, 50, 48, 97, 99, 125, 120]⟩).b (⟨#[117, 123, 50, 48, 97, 99, 125, 120]⟩ : ByteArray).size = some (8364, 7) := by kernel_rfl
theorem known_text : textL [(95, 95), (97, 99)] = [95, 97, 45, 99] := by kernel_rfl
theorem known_no : ¬ memU [(95, 95), (97, 99)] 100 := by
  rintro ⟨_, _, x, hx, h1, h2⟩
  simp at hx
  rcases hx with rfl | rfl
  · exact absurd h2 (by decide)
  · exact absurd h2 (by decide)
theorem known_count : countC [(95, 95), (97, 99)] = 4 := by decide

set_option maxRecDepth 100000 in
theorem works_any (W : World) (T : GT W) : Calls Tryd.prog 27 #[] W fun e w' => e = .returned (.bool true) ∧ Below W.heap.size W w' := by
  have HR := Lib.hid (read_any ⟨#[97, 45, 99, 95]⟩ (by decide) W T.1)
  rw [known_read] at HR
  have HG := Lib.hid T
  have HE := Lib.hid (fun w => esc_any ⟨#[117, 123, 50, 48, 97, 99, 125, 120]⟩ (by decide) w)
  rw [known_esc] at HE
  unfold escV at HE
  clear T
  go_enter Tryd.func27, Tryd.ntmps27
  go_wp2_with fail
  refine HR.out.mono ?_
  rintro e w1 ⟨v, O, rfl, hro, hof, hol, hb1⟩
  obtain rfl := known_is hof
  have hin : ∀ x ∈ ([(95, 95), (97, 99)] : List Rg), in32 x := canon_in32 hof.1 (Int.le_refl _)
  have hrg := hro.rgs hin
  have HRG := Lib.hid hrg
  have HB1 := Lib.hid hb1
  unfold stopV
  clear hro hof hol hb1 HR hin hrg
  go_wp2_with fail
  refine (HE.out _).mono ?_
  rintro e w2 ⟨rfl, rfl⟩
  have hba : Below w1.heap.size w1 (w1.alloc (.cells #[.int .i64 0, .int .i64 0] 48)) := (Below.refl _ _).alloc (Nat.le_refl _) _
  have HG1 := Lib.hid ((HG.out.stay HB1.out).stay hba)
  have HRG1 := Lib.hid (HRG.out.stay hba)
  have HB2 : Hid (Below W.heap.size W (w1.alloc (.cells #[.int .i64 0, .int .i64 0] 48))) := HB1.out.alloc HB1.out.size _
  have hsz1 : W.heap.size ≤ (w1.alloc (.cells #[.int .i64 0, .int .i64 0] 48)).heap.size := HB2.out.size
  have HT := Lib.hid (text_any _ HG1.out HRG1.out (by decide))
  have hl0 : w1.heap.size < (w1.alloc (.cells #[.int .i64 0, .int .i64 0] 48)).heap.size := by simp
  clear hba
  go_wp2_with fail
  refine HT.out.mono ?_
  rintro e w3 ⟨O, rfl, hcan, hmem, hb3⟩
  have hO : O = [(95, 95), (97, 99)] := by
    refine hcan.uniq known_canon fun r => ?_
    rw [← hcan.memU, ← known_canon.memU, hmem]
    constructor
    · exact fun h => h.1
    · intro h
      refine ⟨h, fun h2 => ?_⟩
      obtain ⟨_, _, x, hx, h3, h4⟩ := h
      obtain ⟨_, _, y, hy, h5, h6⟩ := h2
      simp [sur] at hy
      subst hy
      simp at hx
      rcases hx with rfl | rfl
      · have : r ≤ 95 := h4
        have : 55296 ≤ r := h5
        omega
      · have : r ≤ 99 := h4
        have : 55296 ≤ r := h5
        omega
  subst hO
  rw [known_text]
  have HRG3 := Lib.hid (HRG1.out.stay hb3)
  have HG3 := Lib.hid (HG1.out.stay hb3)
  have HB3 : Hid (Below W.heap.size W w3) := HB2.out.trans (hb3.mono hsz1)
  have HC := Lib.hid (count_any HRG3.out (by decide))
  have hsz3 := HB3.out.size
  clear hcan hmem hb3 HT
  go_wp2_with fail
  refine HC.out.mono ?_
  rintro e w4 ⟨O, rfl, hof, hb4⟩
  have hO : O = [(95, 95), (97, 99)] := hof.uniq known_canon.isOf fun _ => Iff.rfl
  subst hO
  rw [known_count]
  have HRG4 := Lib.hid (HRG3.out.stay hb4)
  have HB4 : Hid (Below W.heap.size W w4) := HB3.out.trans (hb4.mono hsz3)
  have HH := Lib.hid (has_any HRG4.out (by decide) 98 true ⟨fun _ => ⟨by decide, by decide, (97, 99), by simp, by decide, by decide⟩, fun _ => rfl⟩)
  have hsz4 := HB4.out.size
  clear hof hb4 HC
  go_wp2_with fail
  refine HH.out.mono ?_
  rintro e w5 ⟨rfl, hb5⟩
  have HRG5 := Lib.hid (HRG4.out.stay hb5)
  have HB5 : Hid (Below W.heap.size W w5) := HB4.out.trans (hb5.mono hsz4)
  have HH2 := Lib.hid (has_any HRG5.out (by decide) 100 false ⟨(fun h => absurd h (by simp)), fun h => (known_no h).elim⟩)
  have hsz5 := HB5.out.size
  clear hb5 HH
  go_wp2_with fail
  refine HH2.out.mono ?_
  rintro e w6 ⟨rfl, hb6⟩
  have HB6 : Hid (Below W.heap.size W w6) := HB5.out.trans (hb6.mono hsz5)
  have HS := Lib.hid (sign_any 10 (by decide) ⟨#[]⟩ (by decide) w6 (HG.out.stay HB6.out))
  have hk : signB 10 ⟨#[]⟩ = ⟨#[92, 110]⟩ := by unfold signB; rw [if_pos rfl]
  rw [hk] at HS
  have hsz6 := HB6.out.size
  clear hb6 HH2 hk
  go_wp2_with fail
  refine HS.out.mono ?_
  rintro e w7 ⟨rfl, hb7⟩
  have HB7 : Hid (Below W.heap.size W w7) := HB6.out.trans (hb7.mono hsz6)
  clear hb7 HS
  go_wp2
  go_ret
  exact ⟨rfl, HB7.out⟩

end Go.Proofs.YtfjlhfalnciamaaDoor.Chars
