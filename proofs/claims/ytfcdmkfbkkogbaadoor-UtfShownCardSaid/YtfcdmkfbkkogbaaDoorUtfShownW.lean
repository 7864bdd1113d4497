/- The law UtfShown, walked. -/
import Derived.Test.YtfcdmkfbkkogbaaDoorUtfN
namespace Go.Proofs.YtfcdmkfbkkogbaaDoor.Utf
open Go Go.RowKit

theorem show_len (l : List UInt8) : (showL l).length ≤ 8 * l.length := by
  refine show_ind (P := fun l => (showL l).length ≤ 8 * l.length) (by simp [showL_nil]) ?_ l.length l (Nat.le_refl _)
  intro l hne ih
  have h1 := decL_pos l
  have h2 := decL_le l hne
  have h8 := piece_len l
  rw [showL_step l hne, List.length_append]
  rw [List.length_drop] at ih
  omega

set_option maxRecDepth 100000 in
theorem shown_walk (a b : ByteArray) (W : World) (h : G W) : Calls Tryd.prog 7 #[.string a, .string b] W fun e w' => e = .returned (.bool true) ∧ Below W.heap.size W w' := by
  by_cases ha : 300 < a.size
  · have e1 : decide ((300 : Int) < (a.size : Int)) = true := decide_eq_true (by omega)
    clear h
    go_enter Tryd.func7, Tryd.ntmps7
    go_wp2
    go_ret
    exact ⟨rfl, Below.refl _ _⟩
  have e1 : decide ((300 : Int) < (a.size : Int)) = false := decide_eq_false (by omega)
  by_cases hb : 300 < b.size
  · have e2 : decide ((300 : Int) < (b.size : Int)) = true := decide_eq_true (by omega)
    clear h
    go_enter Tryd.func7, Tryd.ntmps7
    go_wp2
    go_ret
    exact ⟨rfl, Below.refl _ _⟩
  have e2 : decide ((300 : Int) < (b.size : Int)) = false := decide_eq_false (by omega)
  have H1 := Lib.hid (show_any a W h (by omega))
  have H2 := Lib.hid (fun w hw => show_any b w hw (by omega))
  have hX8 := show_len a.data.toList
  rw [← Lib.size_eq] at hX8
  have hseen := show_seen a.data.toList
  have hval : rightB ⟨(showL a.data.toList).toArray⟩ = true := show_valid a.data.toList
  have hc : ((⟨(showL a.data.toList).toArray⟩ : ByteArray).toList == (⟨(showL b.data.toList).toArray⟩ : ByteArray).toList) = (a.toList == b.toList) := by
    rw [Bool.eq_iff_iff, str_beq, str_beq]
    constructor
    · intro h; exact show_inj _ _ _ (Nat.le_refl _) h
    · intro h; rw [h]
  obtain ⟨c, hc2⟩ : ∃ c, (a.toList == b.toList) = c := ⟨_, rfl⟩
  rw [hc2] at hc
  have hsx : (⟨(showL a.data.toList).toArray⟩ : ByteArray).size = (showL a.data.toList).length := rfl
  have hbx : ∀ (i : Nat) (h : i < (⟨(showL a.data.toList).toArray⟩ : ByteArray).size), 32 ≤ ((⟨(showL a.data.toList).toArray⟩ : ByteArray)[i]'h).toNat ∧ ((⟨(showL a.data.toList).toArray⟩ : ByteArray)[i]'h).toNat ≠ 127 := fun i h => hseen _ (by
    have h' : i < (showL a.data.toList).length := h
    have : ((⟨(showL a.data.toList).toArray⟩ : ByteArray)[i]'h) = (showL a.data.toList)[i] := rfl
    rw [this]; exact List.getElem_mem _)
  obtain ⟨X, hX⟩ : ∃ X : ByteArray, ⟨(showL a.data.toList).toArray⟩ = X := ⟨_, rfl⟩
  obtain ⟨Y, hY⟩ : ∃ X : ByteArray, ⟨(showL b.data.toList).toArray⟩ = X := ⟨_, rfl⟩
  rw [hX] at H1 hval hc hsx hbx
  rw [hY] at H2 hc
  rw [← hsx] at hX8
  have HV := Lib.hid (fun w hw => right_any X w hw (by omega))
  rw [hval] at HV
  have HW := Lib.hid works_any
  have HBX := Lib.hid hbx
  have hX2 : X.size ≤ 2400 := by omega
  have HG := Lib.hid h
  have hcc : (c == c) = true := by simp
  clear h ha hb hX8 hseen hval hX hY hsx hbx
  go_enter Tryd.func7, Tryd.ntmps7
  go_wp2_with fail
  refine H1.out.mono ?_
  rintro e w1 ⟨rfl, hb1⟩
  have HG1 := Lib.hid (HG.out.stay hb1)
  have HB1 := Lib.hid hb1
  clear hb1 H1
  go_wp2_with fail
  refine (H2.out _ HG1.out).mono ?_
  rintro e w2 ⟨rfl, hb2⟩
  have HG2 := Lib.hid (HG1.out.stay hb2)
  have HB2 := Lib.hid (HB1.out.trans (hb2.mono HB1.out.size))
  clear hb2 H2 HB1 HG1
  go_wp2_with fail
  go_loopw [7] (fun i wx => ∃ j : Nat, j ≤ X.size ∧ i = .int .i64 (j : Int) ∧ w2 = wx) (fun i _ => X.size - (intOf i).toNat)
  case atStart => exact ⟨0, Nat.zero_le _, rfl, rfl⟩
  case round =>
    obtain ⟨j, hj, rfl, rfl⟩ := hrel
    by_cases hlt : j < X.size
    · obtain ⟨x, hx⟩ : ∃ x, (X[j]'hlt).toNat = x := ⟨_, rfl⟩
      have hb := HBX.out j hlt
      rw [hx] at hb
      have hxa : ∀ h, (X[j]'h).toNat = x := fun _ => hx
      have g1 : decide ((x : Int) < 32) = false := decide_eq_false (by omega)
      have g2 : ((x : Int) == 127) = false := beq_eq_false_iff_ne.2 (by omega)
      clear hx hb
      go_wp2
      go_roundw
      case rel => exact ⟨j + 1, by omega, by go_num, by first | rfl | trivial⟩
      case measure => simp [intOf]; omega
    · clear hj
      go_wp2_with fail
      refine (HV.out _ HG2.out.1).mono ?_
      rintro e w3 ⟨rfl, hb3⟩
      have HG3 := Lib.hid (HG2.out.stay hb3)
      have HB3 := Lib.hid (HB2.out.trans (hb3.mono HB2.out.size))
      clear hb3 HB2 HG2 HV
      go_wp2_with fail
      refine (HW.out _ HG3.out).mono ?_
      rintro e w4 ⟨rfl, hb4⟩
      have HB4 := Lib.hid (HB3.out.trans (hb4.mono HB3.out.size))
      clear hb4
      go_wp2
      go_ret
      exact ⟨rfl, HB4.out⟩

end Go.Proofs.YtfcdmkfbkkogbaaDoor.Utf
