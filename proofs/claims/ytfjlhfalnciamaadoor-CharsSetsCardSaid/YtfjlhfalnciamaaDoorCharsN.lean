/- The escape behind a backslash, and the sign at a place, walked. -/
import Derived.Test.YtfjlhfalnciamaaDoorCharsM
namespace Go.Proofs.YtfjlhfalnciamaaDoor.Chars
open Go Go.RowKit Go.Proofs.Chars
open Go.Proofs.YtfjlhfalnciamaaDoor.Utf

/-- The sign that an escape tells, and how many bytes it has. -/
def escE (b : Nat → Nat) (n : Nat) : Option (Int × Nat) :=
  if n = 0 then none
  else if b 0 = 110 then some (10, 1)
  else if b 0 = 116 then some (9, 1)
  else if b 0 = 114 then some (13, 1)
  else if b 0 = 92 ∨ b 0 = 39 ∨ b 0 = 93 ∨ b 0 = 45 ∨ b 0 = 94 then some ((b 0 : Int), 1)
  else if b 0 = 117 then numE b n
  else none

set_option maxRecDepth 100000 in
theorem esc_any (s : ByteArray) (hs : s.size ≤ 1000000) (w : World) : Calls Tryd.prog 47 #[.string s] w fun e w' => e = .returned (escV (escE (txt s).b s.size)) ∧ w = w' := by
  have HN := Lib.hid (num_any s hs w)
  have hb : ∀ i (h : i < s.size), (s[i]'h).toNat = (txt s).b i := fun i h => by rw [get_bang]; rfl
  obtain ⟨V, hV⟩ : ∃ V, escV (escE (txt s).b s.size) = V := ⟨_, rfl⟩
  rw [hV]
  by_cases h0 : s.size = 0
  · unfold escE at hV
    rw [if_pos h0] at hV
    have hs0 : s = ⟨#[]⟩ := by
      have : s.data.toList.length = 0 := by rw [← Lib.size_eq]; exact h0
      cases s with
      | mk d => congr 1; apply Array.toList_inj.1; simpa using this
    subst hs0
    have HV := Lib.hid hV
    clear hV hb
    go_enter Tryd.func47, Tryd.ntmps47
    go_wp2
    exact bodyPost_ret (results_tmp3 rfl _ _ _) rfl ⟨by rw [← HV.out]; rfl, rfl⟩
  · have h0' : 0 < s.size := by omega
    have hb0 := hb 0 h0'
    obtain ⟨b, hbb⟩ : ∃ b, (txt s).b = b := ⟨_, rfl⟩
    rw [hbb] at hV hb0 HN
    unfold escE at hV
    rw [if_neg h0] at hV
    obtain ⟨c, hc⟩ : ∃ c, b 0 = c := ⟨_, rfl⟩
    rw [hc] at hV hb0
    have hne : s.toList ≠ [] := by
      intro h
      have : s.data.toList.length = 0 := by
        have h2 : s.toList = s.data.toList := Lib.toList_data s
        rw [← h2, h]; rfl
      rw [← Lib.size_eq] at this
      omega
    have n1 : (s.toList == []) = false := by simpa using hne
    have k110 : (c = 110) = (((c : Int) == 110) = true) := by rw [beq_iff_eq]; apply propext; omega
    have k116 : (c = 116) = (((c : Int) == 116) = true) := by rw [beq_iff_eq]; apply propext; omega
    have k114 : (c = 114) = (((c : Int) == 114) = true) := by rw [beq_iff_eq]; apply propext; omega
    have k92 : (c = 92) = (((c : Int) == 92) = true) := by rw [beq_iff_eq]; apply propext; omega
    have k39 : (c = 39) = (((c : Int) == 39) = true) := by rw [beq_iff_eq]; apply propext; omega
    have k93 : (c = 93) = (((c : Int) == 93) = true) := by rw [beq_iff_eq]; apply propext; omega
    have k45 : (c = 45) = (((c : Int) == 45) = true) := by rw [beq_iff_eq]; apply propext; omega
    have k94 : (c = 94) = (((c : Int) == 94) = true) := by rw [beq_iff_eq]; apply propext; omega
    have k117 : (c = 117) = (((c : Int) == 117) = true) := by rw [beq_iff_eq]; apply propext; omega
    simp only [k110, k116, k114, k92, k39, k93, k45, k94, k117] at hV
    have hw : IntKind.i32.wrap (c : Int) = (c : Int) := by
      have := UInt8.toNat_lt (s[0]'h0')
      rw [hb0] at this
      exact IntWalk.i32_in _ (by omega)
    obtain ⟨o, ho⟩ : ∃ o, numE b s.size = o := ⟨_, rfl⟩
    rw [ho] at hV HN
    have HV := Lib.hid hV
    clear hV hb hbb hc h0 ho k110 k116 k114 k92 k39 k93 k45 k94 k117
    cases o with
    | none =>
      unfold escV at HN
      go_enter Tryd.func47, Tryd.ntmps47
      go_wp2_with (go_at_call 79; refine HN.out.mono ?_; rintro e w' ⟨rfl, rfl⟩)
      all_goals
        refine bodyPost_ret (results_tmp3 rfl _ _ _) rfl ⟨?_, rfl⟩
        rw [← HV.out]
        first | rfl | (simp only [*]; rfl) | (simp [*, escV]; done)
    | some rn =>
      obtain ⟨r, n⟩ := rn
      unfold escV at HN
      go_enter Tryd.func47, Tryd.ntmps47
      go_wp2_with (go_at_call 79; refine HN.out.mono ?_; rintro e w' ⟨rfl, rfl⟩)
      all_goals
        refine bodyPost_ret (results_tmp3 rfl _ _ _) rfl ⟨?_, rfl⟩
        rw [← HV.out]
        first | rfl | (simp only [*]; rfl) | (simp [*, escV]; done)

end Go.Proofs.YtfjlhfalnciamaaDoor.Chars
