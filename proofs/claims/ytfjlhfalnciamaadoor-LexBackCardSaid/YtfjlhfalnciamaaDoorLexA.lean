/- Names (package lex), walked. -/
import Derived.Test.YtfjlhfalnciamaaDoorCharsU
namespace Go.Proofs.YtfjlhfalnciamaaDoor.Lex
open Go Go.RowKit Go.Proofs.Chars
open Go.Proofs.YtfjlhfalnciamaaDoor.Utf Go.Proofs.YtfjlhfalnciamaaDoor.Chars

def upperN (c : Nat) : Bool := decide (65 ≤ c ∧ c ≤ 90)
def letterN (c : Nat) : Bool := decide (97 ≤ c ∧ c ≤ 122) || upperN c
def partN (c : Nat) : Bool := letterN c || decide (48 ≤ c ∧ c ≤ 57) || decide (c = 95)

theorem upper_any (c : Nat) (w : World) : Calls Tryd.prog 56 #[.int .u8 (c : Int)] w fun e w' => e = .returned (.bool (upperN c)) ∧ w = w' := by
  unfold upperN
  by_cases h1 : 65 ≤ c
  · have d1 : (65 : Int) ≤ (c : Int) := by omega
    have d2 : decide ((65 : Int) ≤ (c : Int)) = true := decide_eq_true d1
    by_cases h2 : c ≤ 90
    · have d3 : (c : Int) ≤ 90 := by omega
      have d4 : decide ((c : Int) ≤ 90) = true := decide_eq_true d3
      rw [decide_eq_true ⟨h1, h2⟩]
      go_enter Tryd.func56, Tryd.ntmps56
      go_wp2
      go_ret
      exact ⟨rfl, rfl⟩
    · have d3 : ¬ (c : Int) ≤ 90 := by omega
      have d4 : decide ((c : Int) ≤ 90) = false := decide_eq_false d3
      rw [decide_eq_false (fun h => h2 h.2)]
      go_enter Tryd.func56, Tryd.ntmps56
      go_wp2
      go_ret
      exact ⟨rfl, rfl⟩
  · have d1 : ¬ (65 : Int) ≤ (c : Int) := by omega
    have d2 : decide ((65 : Int) ≤ (c : Int)) = false := decide_eq_false d1
    rw [decide_eq_false (fun h => h1 h.1)]
    go_enter Tryd.func56, Tryd.ntmps56
    go_wp2
    go_ret
    exact ⟨rfl, rfl⟩

theorem letter_any (c : Nat) (w : World) : Calls Tryd.prog 86 #[.int .u8 (c : Int)] w fun e w' => e = .returned (.bool (letterN c)) ∧ w = w' := by
  unfold letterN
  have HU := Lib.hid (upper_any c w)
  generalize upperN c = u at HU ⊢
  by_cases h1 : 97 ≤ c
  · have d1 : (97 : Int) ≤ (c : Int) := by omega
    have d2 : decide ((97 : Int) ≤ (c : Int)) = true := decide_eq_true d1
    by_cases h2 : c ≤ 122
    · have d3 : (c : Int) ≤ 122 := by omega
      have d4 : decide ((c : Int) ≤ 122) = true := decide_eq_true d3
      rw [decide_eq_true ⟨h1, h2⟩, Bool.true_or]
      go_enter Tryd.func86, Tryd.ntmps86
      go_wp2
      go_ret
      exact ⟨rfl, rfl⟩
    · have d3 : ¬ (c : Int) ≤ 122 := by omega
      have d4 : decide ((c : Int) ≤ 122) = false := decide_eq_false d3
      rw [decide_eq_false (fun h => h2 h.2), Bool.false_or]
      go_enter Tryd.func86, Tryd.ntmps86
      go_wp2_with (go_at_call 56; refine HU.out.mono ?_; rintro e w' ⟨rfl, rfl⟩)
      go_ret
      exact ⟨rfl, rfl⟩
  · have d1 : ¬ (97 : Int) ≤ (c : Int) := by omega
    have d2 : decide ((97 : Int) ≤ (c : Int)) = false := decide_eq_false d1
    rw [decide_eq_false (fun h => h1 h.1), Bool.false_or]
    go_enter Tryd.func86, Tryd.ntmps86
    go_wp2_with (go_at_call 56; refine HU.out.mono ?_; rintro e w' ⟨rfl, rfl⟩)
    go_ret
    exact ⟨rfl, rfl⟩

/-- The first place, from one on, that is no part of a name. -/
def runP (b : Nat → Nat) (n : Nat) : Nat → Nat → Nat
  | 0, i => i
  | f + 1, i => if i < n ∧ partN (b i) = true then runP b n f (i + 1) else i
def namedE (b : Nat → Nat) (n : Nat) : Nat := if n = 0 then 0 else if letterN (b 0) = true then runP b n n 1 else 0
theorem runP_in (b : Nat → Nat) (n : Nat) : ∀ f i, i ≤ n → i ≤ runP b n f i ∧ runP b n f i ≤ n
  | 0, i, h => ⟨Nat.le_refl _, h⟩
  | f + 1, i, h => by
    rw [runP]
    split
    · rename_i hc
      have := runP_in b n f (i + 1) (by omega)
      exact ⟨by omega, this.2⟩
    · exact ⟨Nat.le_refl _, h⟩
theorem namedE_in (b : Nat → Nat) (n : Nat) : namedE b n ≤ n := by
  unfold namedE
  split
  · omega
  split
  · exact (runP_in b n n 1 (by omega)).2
  · omega
theorem empty_of {s : ByteArray} (h : s.size = 0) : s = ⟨#[]⟩ := by
  have : s.data.toList.length = 0 := by rw [← Lib.size_eq]; exact h
  cases s with
  | mk d => congr 1; apply Array.toList_inj.1; simpa using this
theorem some_of {s : ByteArray} (h : s.size ≠ 0) : (s.toList == []) = false := by
  have hne : s.toList ≠ [] := by
    intro h2
    have : s.data.toList.length = 0 := by
      have h3 : s.toList = s.data.toList := Lib.toList_data s
      rw [← h3, h2]; rfl
    rw [← Lib.size_eq] at this
    exact h this
  simpa using hne

set_option maxRecDepth 100000 in
set_option maxHeartbeats 1000000 in
theorem named_any (s : ByteArray) (hs : s.size ≤ 1000000) (w : World) : Calls Tryd.prog 55 #[.string s] w fun e w' => e = .returned (.int .i64 (namedE (txt s).b s.size : Nat)) ∧ w = w' := by
  obtain ⟨N, hN⟩ : ∃ N, namedE (txt s).b s.size = N := ⟨_, rfl⟩
  rw [hN]
  unfold namedE at hN
  by_cases h0 : s.size = 0
  · rw [if_pos h0] at hN
    subst hN
    obtain rfl := empty_of h0
    clear h0 hs
    go_enter Tryd.func55, Tryd.ntmps55
    go_wp2
    go_ret
    exact ⟨rfl, rfl⟩
  · rw [if_neg h0] at hN
    have n1 := some_of h0
    have hb : ∀ i (h : i < s.size), (s[i]'h).toNat = (txt s).b i := fun i h => by rw [get_bang]; rfl
    obtain ⟨b, hbb⟩ : ∃ b, (txt s).b = b := ⟨_, rfl⟩
    rw [hbb] at hN hb
    have hb0 := hb 0 (by omega)
    have h00 : 0 < s.size := by omega
    have HB := Lib.hid hb
    have HN := Lib.hid hN
    have HL := Lib.hid (fun c => letter_any c w)
    clear hb hN hbb
    cases hl : letterN (b 0) with
    | false =>
      have hN := HN.out
      rw [hl, if_neg (by simp)] at hN
      subst hN
      have HL0 := Lib.hid (letter_any (b 0) w)
      rw [hl] at HL0
      clear HL HN
      go_enter Tryd.func55, Tryd.ntmps55
      go_wp2_with (go_at_call 86; refine HL0.out.mono ?_; rintro e w' ⟨rfl, rfl⟩)
      go_ret
      exact ⟨rfl, rfl⟩
    | true =>
      have hN := HN.out
      rw [hl, if_pos rfl] at hN
      have HN := Lib.hid hN
      have HL0 := Lib.hid (letter_any (b 0) w)
      rw [hl] at HL0
      clear hN
      go_enter Tryd.func55, Tryd.ntmps55
      go_wp2_with (go_at_call 86; refine HL0.out.mono ?_; rintro e w' ⟨rfl, rfl⟩)
      go_loopw [3] (fun x3 wx => ∃ i f : Nat, 1 ≤ i ∧ i ≤ s.size ∧ s.size ≤ i + f ∧ x3 = .int .i64 (i : Int) ∧ runP b s.size f i = N ∧ w = wx) (fun x3 _ => s.size - (intOf x3).toNat)
      case atStart => exact ⟨1, s.size, by omega, by omega, by omega, rfl, HN.out, rfl⟩
      case round =>
        obtain ⟨i, f, hi1, hi, hf, rfl, hrun, rfl⟩ := hrel
        have HR := Lib.hid hrun
        clear hrun
        by_cases hlt : i < s.size
        · have g1 : (i : Int) < (s.size : Int) := by omega
          have g2 : decide ((i : Int) < (s.size : Int)) = true := decide_eq_true g1
          have hbi := HB.out i hlt
          obtain ⟨f, rfl⟩ : ∃ g, f = g + 1 := ⟨f - 1, by omega⟩
          have hgo := HR.out
          rw [runP] at hgo
          have HLi := Lib.hid (letter_any (b i) w)
          obtain ⟨c, hc⟩ : ∃ c, b i = c := ⟨_, rfl⟩
          rw [hc] at hgo hbi HLi
          have step : ∀ t : Bool, partN c = t → (t = true → runP b s.size f (i + 1) = N) ∧ (t = false → i = N) := by
            rintro t rfl
            constructor
            · intro h; rw [if_pos ⟨hlt, h⟩] at hgo; exact hgo
            · intro h; rw [if_neg (by rw [h]; simp)] at hgo; exact hgo
          have HS := Lib.hid step
          clear hgo hc HR step
          have fin : ∀ t : Bool, partN c = t → True := fun _ _ => trivial
          cases hlc : letterN c with
          | true =>
            have HG := (HS.out true (by unfold partN; rw [hlc]; rfl)).1 rfl
            rw [hlc] at HLi
            clear HS fin
            go_wp2_with (go_at_call 86; refine HLi.out.mono ?_; rintro e w' ⟨rfl, rfl⟩)
            go_roundw
            case rel => exact ⟨i + 1, f, by omega, by omega, by omega, by go_num, HG, trivial⟩
            case measure => simp [intOf]; omega
          | false =>
            rw [hlc] at HLi
            by_cases k1 : 48 ≤ c
            · have d1 : (48 : Int) ≤ (c : Int) := by omega
              have d2 : decide ((48 : Int) ≤ (c : Int)) = true := decide_eq_true d1
              by_cases k2 : c ≤ 57
              · have d3 : (c : Int) ≤ 57 := by omega
                have d4 : decide ((c : Int) ≤ 57) = true := decide_eq_true d3
                have HG := (HS.out true (by unfold partN; rw [hlc, decide_eq_true ⟨k1, k2⟩]; rfl)).1 rfl
                clear HS fin
                go_wp2_with (go_at_call 86; refine HLi.out.mono ?_; rintro e w' ⟨rfl, rfl⟩)
                go_roundw
                case rel => exact ⟨i + 1, f, by omega, by omega, by omega, by go_num, HG, trivial⟩
                case measure => simp [intOf]; omega
              · have d3 : ¬ (c : Int) ≤ 57 := by omega
                have d4 : decide ((c : Int) ≤ 57) = false := decide_eq_false d3
                by_cases k3 : c = 95
                · subst k3
                  have HG := (HS.out true (by decide)).1 rfl
                  clear HS fin
                  go_wp2_with (go_at_call 86; refine HLi.out.mono ?_; rintro e w' ⟨rfl, rfl⟩)
                  go_roundw
                  case rel => exact ⟨i + 1, f, by omega, by omega, by omega, by go_num, HG, trivial⟩
                  case measure => simp [intOf]; omega
                · have d5 : ((c : Int) == 95) = false := by simpa using (by omega : ¬ (c : Int) = 95)
                  have HG := (HS.out false (by unfold partN; rw [hlc, decide_eq_false (fun h => k2 h.2), decide_eq_false k3]; rfl)).2 rfl
                  subst HG
                  clear HS fin
                  go_wp2_with (go_at_call 86; refine HLi.out.mono ?_; rintro e w' ⟨rfl, rfl⟩)
                  go_ret
                  exact ⟨rfl, rfl⟩
            · have d1 : ¬ (48 : Int) ≤ (c : Int) := by omega
              have d2 : decide ((48 : Int) ≤ (c : Int)) = false := decide_eq_false d1
              have d5 : ((c : Int) == 95) = false := by simpa using (by omega : ¬ (c : Int) = 95)
              have HG := (HS.out false (by unfold partN; rw [hlc, decide_eq_false (fun h => k1 h.1), decide_eq_false (by omega)]; rfl)).2 rfl
              subst HG
              clear HS fin
              go_wp2_with (go_at_call 86; refine HLi.out.mono ?_; rintro e w' ⟨rfl, rfl⟩)
              go_ret
              exact ⟨rfl, rfl⟩
        · have g1 : ¬ (i : Int) < (s.size : Int) := by omega
          have g2 : decide ((i : Int) < (s.size : Int)) = false := decide_eq_false g1
          have hN2 : i = N := by
            have h := HR.out
            cases f with
            | zero => rw [runP] at h; exact h
            | succ f => rw [runP, if_neg (by omega)] at h; exact h
          subst hN2
          clear HR
          go_wp2
          go_ret
          exact ⟨rfl, rfl⟩

end Go.Proofs.YtfjlhfalnciamaaDoor.Lex
