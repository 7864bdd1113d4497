/- Names once more, and where a byte stands (package lex), walked. -/
import Derived.Test.YtfjlhfalnciamaaDoorLexB
namespace Go.Proofs.YtfjlhfalnciamaaDoor.Lex
open Go Go.RowKit Go.Proofs.Chars
open Go.Proofs.YtfjlhfalnciamaaDoor.Utf Go.Proofs.YtfjlhfalnciamaaDoor.Chars

/-- Where, from a place on, a byte stands that is not behind a backslash. -/
def untilE (b : Nat → Nat) (n c : Nat) : Nat → Nat → Option Nat
  | 0, _ => none
  | f + 1, a => if a < n then (if b a = c then some a else if b a = 92 then untilE b n c f (a + 2) else untilE b n c f (a + 1)) else none
def untilV : Option Nat → Int
  | none => -1
  | some a => (a : Int)
theorem untilE_in (b : Nat → Nat) (n c : Nat) : ∀ f a e, untilE b n c f a = some e → a ≤ e ∧ e < n
  | 0, a, e, h => by cases h
  | f + 1, a, e, h => by
    rw [untilE] at h
    split at h
    · split at h
      · cases h; omega
      · split at h
        · have := untilE_in b n c f _ e h; omega
        · have := untilE_in b n c f _ e h; omega
    · cases h

set_option maxRecDepth 100000 in
theorem until_any (s : ByteArray) (hs : s.size ≤ 1000000) (k c : Nat) (hk : k ≤ s.size) (w : World) : Calls Tryd.prog 126 #[.string s, .int .i64 (k : Int), .int .u8 (c : Int)] w fun e w' => e = .returned (.int .i64 (untilV (untilE (txt s).b s.size c (s.size + 1) k))) ∧ w = w' := by
  obtain ⟨N, hN⟩ : ∃ N, untilE (txt s).b s.size c (s.size + 1) k = N := ⟨_, rfl⟩
  rw [hN]
  have hb : ∀ i (h : i < s.size), (s[i]'h).toNat = (txt s).b i := fun i h => by rw [get_bang]; rfl
  obtain ⟨b, hbb⟩ : ∃ b, (txt s).b = b := ⟨_, rfl⟩
  rw [hbb] at hN hb
  have HB := Lib.hid hb
  have HN := Lib.hid hN
  clear hb hN hbb
  go_enter Tryd.func126, Tryd.ntmps126
  go_wp2
  go_loopw [1] (fun x1 wx => ∃ a f : Nat, a ≤ s.size + 1 ∧ s.size < a + f ∧ x1 = .int .i64 (a : Int) ∧ untilE b s.size c f a = N ∧ w = wx) (fun x1 _ => s.size + 1 - (intOf x1).toNat)
  case atStart => exact ⟨k, s.size + 1, by omega, by omega, rfl, HN.out, rfl⟩
  case round =>
    obtain ⟨a, f, ha, hf, rfl, hrun, rfl⟩ := hrel
    by_cases hlt : a < s.size
    · obtain ⟨f, rfl⟩ : ∃ g, f = g + 1 := ⟨f - 1, by omega⟩
      rw [untilE, if_pos hlt] at hrun
      have g1 : (a : Int) < (s.size : Int) := by omega
      have g2 : decide ((a : Int) < (s.size : Int)) = true := decide_eq_true g1
      have hba := HB.out a hlt
      obtain ⟨d, hd⟩ : ∃ d, b a = d := ⟨_, rfl⟩
      rw [hd] at hrun hba
      by_cases h1 : d = c
      · rw [if_pos h1] at hrun
        subst hrun
        subst h1
        clear hd
        go_wp2
        go_ret
        exact ⟨rfl, rfl⟩
      · rw [if_neg h1] at hrun
        have p1 : ((d : Int) == (c : Int)) = false := by simpa using (by omega : ¬ (d : Int) = (c : Int))
        by_cases h2 : d = 92
        · rw [if_pos h2] at hrun
          have p2 : ((d : Int) == 92) = true := by simpa using (by omega : (d : Int) = 92)
          have HR := Lib.hid hrun
          clear hrun hd
          go_wp2
          go_roundw
          case rel => exact ⟨a + 2, f, by omega, by omega, by go_num, HR.out, trivial⟩
          case measure => simp [intOf]; omega
        · rw [if_neg h2] at hrun
          have p2 : ((d : Int) == 92) = false := by simpa using (by omega : ¬ (d : Int) = 92)
          have HR := Lib.hid hrun
          clear hrun hd
          go_wp2
          go_roundw
          case rel => exact ⟨a + 1, f, by omega, by omega, by go_num, HR.out, trivial⟩
          case measure => simp [intOf]; omega
    · have g1 : ¬ (a : Int) < (s.size : Int) := by omega
      have g2 : decide ((a : Int) < (s.size : Int)) = false := decide_eq_false g1
      have hN2 : N = none := by
        cases f with
        | zero => rw [untilE] at hrun; exact hrun.symm
        | succ f => rw [untilE, if_neg hlt] at hrun; exact hrun.symm
      subst hN2
      clear hrun
      go_wp2
      go_ret
      exact ⟨rfl, rfl⟩

/-- May a text be a name? -/
def nameB (b : Nat → Nat) (n : Nat) : Bool := decide (n ≠ 0 ∧ n ≤ 60 ∧ namedE b n = n)

set_option maxRecDepth 100000 in
theorem name_any (s : ByteArray) (hs : s.size ≤ 1000000) (w : World) : Calls Tryd.prog 31 #[.string s] w fun e w' => e = .returned (.tuple #[.bool (nameB (txt s).b s.size), .bool (nameB (txt s).b s.size && upperN ((txt s).b 0))]) ∧ w = w' := by
  have HNM := Lib.hid (named_any s hs w)
  unfold nameB
  by_cases h0 : s.size = 0
  · obtain rfl := empty_of h0
    rw [decide_eq_false (fun h => h.1 h0), Bool.false_and]
    clear h0 hs HNM
    go_enter Tryd.func31, Tryd.ntmps31
    go_wp2
    go_ret2
    exact ⟨rfl, rfl⟩
  · have n1 := some_of h0
    have h00 : 0 < s.size := by omega
    by_cases h6 : s.size ≤ 60
    · have d1 : ¬ (60 : Int) < (s.size : Int) := by omega
      have d2 : decide ((60 : Int) < (s.size : Int)) = false := decide_eq_false d1
      obtain ⟨N, hN⟩ : ∃ N, namedE (txt s).b s.size = N := ⟨_, rfl⟩
      rw [hN] at HNM ⊢
      by_cases hn : N = s.size
      · have hb0 : (s[0]'h00).toNat = (txt s).b 0 := by rw [get_bang]; rfl
        have HU := Lib.hid (upper_any ((txt s).b 0) w)
        rw [decide_eq_true ⟨h0, h6, hn⟩, Bool.true_and]
        obtain ⟨c, hc⟩ : ∃ c, (txt s).b 0 = c := ⟨_, rfl⟩
        rw [hc] at hb0 HU ⊢
        have e1 : ((N : Int) != (s.size : Int)) = false := by simpa using (by omega : (N : Int) = (s.size : Int))
        subst hn
        clear hN hc
        go_enter Tryd.func31, Tryd.ntmps31
        go_wp2_with (first
          | (go_at_call 55; refine HNM.out.mono ?_; rintro e w' ⟨rfl, rfl⟩)
          | (go_at_call 56; refine HU.out.mono ?_; rintro e w' ⟨rfl, rfl⟩))
        go_ret2
        exact ⟨rfl, rfl⟩
      · rw [decide_eq_false (fun h => hn h.2.2), Bool.false_and]
        have e1 : ((N : Int) != (s.size : Int)) = true := by simpa using (by omega : ¬ (N : Int) = (s.size : Int))
        clear hN
        go_enter Tryd.func31, Tryd.ntmps31
        go_wp2_with (go_at_call 55; refine HNM.out.mono ?_; rintro e w' ⟨rfl, rfl⟩)
        go_ret2
        exact ⟨rfl, rfl⟩
    · have d1 : (60 : Int) < (s.size : Int) := by omega
      have d2 : decide ((60 : Int) < (s.size : Int)) = true := decide_eq_true d1
      rw [decide_eq_false (fun h => h6 h.2.1), Bool.false_and]
      clear HNM
      go_enter Tryd.func31, Tryd.ntmps31
      go_wp2
      go_ret2
      exact ⟨rfl, rfl⟩

/-! The document's own words. -/
theorem rletter_any (c : Nat) (w : World) : Calls Tryd.prog 57 #[.int .u8 (c : Int)] w fun e w' => e = .returned (.bool (letterN c)) ∧ w = w' := by
  unfold letterN upperN
  by_cases h1 : 97 ≤ c
  · have d1 : (97 : Int) ≤ (c : Int) := by omega
    have e1 : decide ((97 : Int) ≤ (c : Int)) = true := decide_eq_true d1
    by_cases h2 : c ≤ 122
    · have d2 : (c : Int) ≤ 122 := by omega
      have e2 : decide ((c : Int) ≤ 122) = true := decide_eq_true d2
      rw [decide_eq_true ⟨h1, h2⟩, Bool.true_or]
      go_enter Tryd.func57, Tryd.ntmps57
      go_wp2
      go_ret
      exact ⟨rfl, rfl⟩
    · have d2 : ¬ (c : Int) ≤ 122 := by omega
      have e2 : decide ((c : Int) ≤ 122) = false := decide_eq_false d2
      have d3 : (65 : Int) ≤ (c : Int) := by omega
      have e3 : decide ((65 : Int) ≤ (c : Int)) = true := decide_eq_true d3
      have d4 : ¬ (c : Int) ≤ 90 := by omega
      have e4 : decide ((c : Int) ≤ 90) = false := decide_eq_false d4
      rw [decide_eq_false (fun h => h2 h.2), Bool.false_or, decide_eq_false (by omega)]
      go_enter Tryd.func57, Tryd.ntmps57
      go_wp2
      go_ret
      exact ⟨rfl, rfl⟩
  · have d1 : ¬ (97 : Int) ≤ (c : Int) := by omega
    have e1 : decide ((97 : Int) ≤ (c : Int)) = false := decide_eq_false d1
    rw [decide_eq_false (fun h => h1 h.1), Bool.false_or]
    by_cases h3 : 65 ≤ c
    · have d3 : (65 : Int) ≤ (c : Int) := by omega
      have e3 : decide ((65 : Int) ≤ (c : Int)) = true := decide_eq_true d3
      by_cases h4 : c ≤ 90
      · have d4 : (c : Int) ≤ 90 := by omega
        have e4 : decide ((c : Int) ≤ 90) = true := decide_eq_true d4
        rw [decide_eq_true ⟨h3, h4⟩]
        go_enter Tryd.func57, Tryd.ntmps57
        go_wp2
        go_ret
        exact ⟨rfl, rfl⟩
      · have d4 : ¬ (c : Int) ≤ 90 := by omega
        have e4 : decide ((c : Int) ≤ 90) = false := decide_eq_false d4
        rw [decide_eq_false (fun h => h4 h.2)]
        go_enter Tryd.func57, Tryd.ntmps57
        go_wp2
        go_ret
        exact ⟨rfl, rfl⟩
    · have d3 : ¬ (65 : Int) ≤ (c : Int) := by omega
      have e3 : decide ((65 : Int) ≤ (c : Int)) = false := decide_eq_false d3
      rw [decide_eq_false (fun h => h3 h.1)]
      go_enter Tryd.func57, Tryd.ntmps57
      go_wp2
      go_ret
      exact ⟨rfl, rfl⟩

theorem rpart_any (c : Nat) (w : World) : Calls Tryd.prog 58 #[.int .u8 (c : Int)] w fun e w' => e = .returned (.bool (partN c)) ∧ w = w' := by
  unfold partN
  have HL := Lib.hid (rletter_any c w)
  cases hl : letterN c with
  | true =>
    rw [hl] at HL
    rw [Bool.true_or, Bool.true_or]
    go_enter Tryd.func58, Tryd.ntmps58
    go_wp2_with (go_at_call 57; refine HL.out.mono ?_; rintro e w' ⟨rfl, rfl⟩)
    go_ret
    exact ⟨rfl, rfl⟩
  | false =>
    rw [hl] at HL
    rw [Bool.false_or]
    by_cases k1 : 48 ≤ c
    · have d1 : (48 : Int) ≤ (c : Int) := by omega
      have e1 : decide ((48 : Int) ≤ (c : Int)) = true := decide_eq_true d1
      by_cases k2 : c ≤ 57
      · have d2 : (c : Int) ≤ 57 := by omega
        have e2 : decide ((c : Int) ≤ 57) = true := decide_eq_true d2
        rw [decide_eq_true ⟨k1, k2⟩, Bool.true_or]
        go_enter Tryd.func58, Tryd.ntmps58
        go_wp2_with (go_at_call 57; refine HL.out.mono ?_; rintro e w' ⟨rfl, rfl⟩)
        go_ret
        exact ⟨rfl, rfl⟩
      · have d2 : ¬ (c : Int) ≤ 57 := by omega
        have e2 : decide ((c : Int) ≤ 57) = false := decide_eq_false d2
        rw [decide_eq_false (fun h => k2 h.2), Bool.false_or]
        by_cases k3 : c = 95
        · subst k3
          rw [decide_eq_true rfl]
          go_enter Tryd.func58, Tryd.ntmps58
          go_wp2_with (go_at_call 57; refine HL.out.mono ?_; rintro e w' ⟨rfl, rfl⟩)
          go_ret
          exact ⟨rfl, rfl⟩
        · have d3 : ((c : Int) == 95) = false := by simpa using (by omega : ¬ (c : Int) = 95)
          rw [decide_eq_false k3]
          go_enter Tryd.func58, Tryd.ntmps58
          go_wp2_with (go_at_call 57; refine HL.out.mono ?_; rintro e w' ⟨rfl, rfl⟩)
          go_ret
          exact ⟨rfl, rfl⟩
    · have d1 : ¬ (48 : Int) ≤ (c : Int) := by omega
      have e1 : decide ((48 : Int) ≤ (c : Int)) = false := decide_eq_false d1
      have d3 : ((c : Int) == 95) = false := by simpa using (by omega : ¬ (c : Int) = 95)
      rw [decide_eq_false (fun h => k1 h.1), Bool.false_or, decide_eq_false (by omega)]
      go_enter Tryd.func58, Tryd.ntmps58
      go_wp2_with (go_at_call 57; refine HL.out.mono ?_; rintro e w' ⟨rfl, rfl⟩)
      go_ret
      exact ⟨rfl, rfl⟩

theorem runP_all (b : Nat → Nat) (n : Nat) : ∀ f i, i ≤ n → n ≤ i + f → (runP b n f i = n ↔ ∀ j, i ≤ j → j < n → partN (b j) = true)
  | 0, i, h, h2 => by
    rw [runP]
    exact ⟨fun _ j h3 h4 => by omega, fun _ => by omega⟩
  | f + 1, i, h, h2 => by
    rw [runP]
    by_cases hc : i < n ∧ partN (b i) = true
    · rw [if_pos hc, runP_all b n f (i + 1) (by omega) (by omega)]
      exact ⟨fun hh j h3 h4 => if e : j = i then e ▸ hc.2 else hh j (by omega) h4, fun hh j h3 h4 => hh j (by omega) h4⟩
    · rw [if_neg hc]
      exact ⟨fun e j h3 h4 => by omega, fun hh => if e : i = n then e else absurd ⟨by omega, hh i (Nat.le_refl _) (by omega)⟩ hc⟩
theorem letter_part {c : Nat} (h : letterN c = true) : partN c = true := by unfold partN; rw [h]; rfl
theorem nameB_is (b : Nat → Nat) (n : Nat) : nameB b n = true ↔ n ≠ 0 ∧ n ≤ 60 ∧ letterN (b 0) = true ∧ ∀ j, j < n → partN (b j) = true := by
  unfold nameB
  rw [decide_eq_true_iff]
  constructor
  · rintro ⟨h1, h2, h3⟩
    unfold namedE at h3
    rw [if_neg h1] at h3
    split at h3
    · rename_i hl
      refine ⟨h1, h2, hl, fun j hj => ?_⟩
      by_cases e : j = 0
      · subst e; exact letter_part hl
      · exact (runP_all b n n 1 (by omega) (by omega)).1 h3 j (by omega) hj
    · exact absurd h3.symm h1
  · rintro ⟨h1, h2, h3, h4⟩
    refine ⟨h1, h2, ?_⟩
    unfold namedE
    rw [if_neg h1, if_pos h3]
    exact (runP_all b n n 1 (by omega) (by omega)).2 fun j _ hj => h4 j hj

set_option maxRecDepth 100000 in
theorem rname_any (s : ByteArray) (w : World) : Calls Tryd.prog 32 #[.string s] w fun e w' => e = .returned (.bool (nameB (txt s).b s.size)) ∧ w = w' := by
  by_cases h0 : s.size = 0
  · obtain rfl := empty_of h0
    have e : nameB (txt ⟨#[]⟩).b (⟨#[]⟩ : ByteArray).size = false := by
      unfold nameB
      exact decide_eq_false (fun h => h.1 h0)
    rw [e]
    clear h0 e
    go_enter Tryd.func32, Tryd.ntmps32
    go_wp2
    go_ret
    exact ⟨rfl, rfl⟩
  · have n1 := some_of h0
    have h00 : 0 < s.size := by omega
    by_cases h6 : s.size ≤ 60
    · have d1 : ¬ (60 : Int) < (s.size : Int) := by omega
      have d2 : decide ((60 : Int) < (s.size : Int)) = false := decide_eq_false d1
      have hb : ∀ i (h : i < s.size), (s[i]'h).toNat = (txt s).b i := fun i h => by rw [get_bang]; rfl
      obtain ⟨t, ht⟩ : ∃ t, nameB (txt s).b s.size = t := ⟨_, rfl⟩
      rw [ht]
      have his := nameB_is (txt s).b s.size
      rw [ht] at his
      obtain ⟨b, hbb⟩ : ∃ b, (txt s).b = b := ⟨_, rfl⟩
      rw [hbb] at his hb
      have hb0 := hb 0 h00
      have HB := Lib.hid hb
      have HI := Lib.hid his
      have HL := Lib.hid (rletter_any (b 0) w)
      clear hb his hbb ht
      cases hl : letterN (b 0) with
      | false =>
        rw [hl] at HL
        have ht : t = false := by
          cases t with
          | false => rfl
          | true => have := (HI.out.1 rfl).2.2.1; rw [hl] at this; cases this
        subst ht
        go_enter Tryd.func32, Tryd.ntmps32
        go_wp2_with (go_at_call 57; refine HL.out.mono ?_; rintro e w' ⟨rfl, rfl⟩)
        go_ret
        exact ⟨rfl, rfl⟩
      | true =>
        rw [hl] at HL
        have HLT := Lib.hid hl
        clear hl
        go_enter Tryd.func32, Tryd.ntmps32
        go_wp2_with (go_at_call 57; refine HL.out.mono ?_; rintro e w' ⟨rfl, rfl⟩)
        go_loopw [3] (fun x3 wx => ∃ i : Nat, i ≤ s.size ∧ x3 = .int .i64 (i : Int) ∧ (∀ j, j < i → partN (b j) = true) ∧ w = wx) (fun x3 _ => s.size - (intOf x3).toNat)
        case atStart => exact ⟨0, by omega, rfl, (fun j h => by omega), rfl⟩
        case round =>
          obtain ⟨i, hi, rfl, hall, rfl⟩ := hrel
          have HA := Lib.hid hall
          clear hall
          by_cases hlt : i < s.size
          · have g1 : (i : Int) < (s.size : Int) := by omega
            have g2 : decide ((i : Int) < (s.size : Int)) = true := decide_eq_true g1
            have hbi := HB.out i hlt
            have HP := Lib.hid (rpart_any (b i) w)
            cases hp : partN (b i) with
            | true =>
              rw [hp] at HP
              have HA2 : Hid (∀ j, j < i + 1 → partN (b j) = true) := Lib.hid fun j hj => if e : j = i then e ▸ hp else HA.out j (by omega)
              clear hp
              go_wp2_with (go_at_call 58; refine HP.out.mono ?_; rintro e w' ⟨rfl, rfl⟩)
              go_roundw
              case rel => exact ⟨i + 1, by omega, by go_num, HA2.out, trivial⟩
              case measure => simp [intOf]; omega
            | false =>
              rw [hp] at HP
              have ht : t = false := by
                cases t with
                | false => rfl
                | true => have := (HI.out.1 rfl).2.2.2 i hlt; rw [hp] at this; cases this
              subst ht
              clear hp
              go_wp2_with (go_at_call 58; refine HP.out.mono ?_; rintro e w' ⟨rfl, rfl⟩)
              go_ret
              exact ⟨rfl, rfl⟩
          · have g1 : ¬ (i : Int) < (s.size : Int) := by omega
            have g2 : decide ((i : Int) < (s.size : Int)) = false := decide_eq_false g1
            have ht : t = true := HI.out.2 ⟨h0, h6, HLT.out, fun j hj => HA.out j (by omega)⟩
            subst ht
            go_wp2
            go_ret
            exact ⟨rfl, rfl⟩
    · have d1 : (60 : Int) < (s.size : Int) := by omega
      have d2 : decide ((60 : Int) < (s.size : Int)) = true := decide_eq_true d1
      have e : nameB (txt s).b s.size = false := by
        unfold nameB
        exact decide_eq_false (fun h => h6 h.2.1)
      rw [e]
      clear e
      go_enter Tryd.func32, Tryd.ntmps32
      go_wp2
      go_ret
      exact ⟨rfl, rfl⟩

end Go.Proofs.YtfjlhfalnciamaaDoor.Lex
