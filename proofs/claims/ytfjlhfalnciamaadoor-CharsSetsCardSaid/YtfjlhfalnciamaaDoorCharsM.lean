/- Escapes, walked. -/
import Derived.Test.YtfjlhfalnciamaaDoorCharsL
import Derived.Test.YtfjlhfalnciamaaDoorUtfI
namespace Go.Proofs.YtfjlhfalnciamaaDoor.Chars
open Go Go.RowKit Go.Proofs.Chars
open Go.Proofs.YtfjlhfalnciamaaDoor.Utf

/-- What a digit of base 16 counts. -/
def digV (c : Nat) : Int := if 48 ≤ c ∧ c ≤ 57 then (c : Int) - 48 else if 97 ≤ c ∧ c ≤ 102 then (c : Int) - 87 else if 65 ≤ c ∧ c ≤ 70 then (c : Int) - 55 else -1
theorem digV_in (c : Nat) : -1 ≤ digV c ∧ digV c ≤ 15 := by
  unfold digV
  repeat' split
  all_goals omega
set_option maxRecDepth 100000 in
theorem digit_any (c : Nat) (hc : c < 256) (w : World) : Calls Tryd.prog 110 #[.int .u8 (c : Int)] w fun e w' => e = .returned (.int .i32 (digV c)) ∧ w = w' := by
  obtain ⟨d, hd⟩ : ∃ d, digV c = d := ⟨_, rfl⟩
  rw [hd]
  unfold digV at hd
  have HD := Lib.hid hd
  clear hd
  go_enter Tryd.func110, Tryd.ntmps110
  go_wp2
  all_goals go_ret
  all_goals refine ⟨?_, rfl⟩
  all_goals show Ending.returned (Value.int .i32 _) = Ending.returned (Value.int .i32 _)
  all_goals congr 2
  all_goals rw [← HD.out]
  all_goals ((repeat' split) <;> omega)

/-- The digits from a place on, up to f of them: where they end, and what they count. -/
def hexGo (b : Nat → Nat) (n : Nat) : Nat → Nat → Int → Nat × Int
  | 0, a, r => (a, r)
  | f + 1, a, r => if a < n ∧ 0 ≤ digV (b a) then hexGo b n f (a + 1) (r * 16 + digV (b a)) else (a, r)
theorem hexGo_in (b : Nat → Nat) (n : Nat) : ∀ f a r, 0 ≤ r → a ≤ n ∨ f = 0 ∨ True → a ≤ (hexGo b n f a r).1 ∧ (hexGo b n f a r).1 ≤ a + f ∧ 0 ≤ (hexGo b n f a r).2 ∧ (a ≤ n → (hexGo b n f a r).1 ≤ n)
  | 0, a, r, h, _ => ⟨Nat.le_refl _, Nat.le_refl _, h, fun h => h⟩
  | f + 1, a, r, h, _ => by
    rw [hexGo]
    split
    · rename_i hc
      have h1 := digV_in (b a)
      obtain ⟨h2, h3, h4, h5⟩ := hexGo_in b n f (a + 1) (r * 16 + digV (b a)) (by omega) (.inr (.inr trivial))
      exact ⟨by omega, by omega, h4, fun _ => h5 (by omega)⟩
    · exact ⟨Nat.le_refl _, by omega, h, fun h => h⟩
/-- The sign of an escape by its number, and its bytes. -/
def numE (b : Nat → Nat) (n : Nat) : Option (Int × Nat) :=
  if n < 2 ∨ b 1 ≠ 123 then none
  else if (hexGo b n 6 2 0).1 = 2 ∨ (hexGo b n 6 2 0).1 = n ∨ b (hexGo b n 6 2 0).1 ≠ 125 then none
  else if Lib.validRune (hexGo b n 6 2 0).2 then some ((hexGo b n 6 2 0).2, (hexGo b n 6 2 0).1 + 1) else none
def escV : Option (Int × Nat) → Value
  | none => .tuple #[.int .i32 0, .int .i64 0, .bool false]
  | some (r, n) => .tuple #[.int .i32 r, .int .i64 (n : Int), .bool true]

set_option maxRecDepth 100000 in
theorem num_any (s : ByteArray) (hs : s.size ≤ 1000000) (w : World) : Calls Tryd.prog 79 #[.string s] w fun e w' => e = .returned (escV (numE (txt s).b s.size)) ∧ w = w' := by
  obtain ⟨V, hV⟩ : ∃ V, escV (numE (txt s).b s.size) = V := ⟨_, rfl⟩
  rw [hV]
  have hb : ∀ i (h : i < s.size), (s[i]'h).toNat = (txt s).b i := fun i h => by rw [get_bang]; rfl
  unfold numE at hV
  by_cases h2 : s.size < 2
  · rw [if_pos (.inl h2)] at hV
    have d1 : (s.size : Int) < 2 := by omega
    have d2 : decide ((s.size : Int) < 2) = true := decide_eq_true d1
    have HV := Lib.hid hV
    clear hV hb
    go_enter Tryd.func79, Tryd.ntmps79
    go_wp2
    exact bodyPost_ret (results_tmp3 rfl _ _ _) rfl ⟨by rw [← HV.out]; rfl, rfl⟩
  · have d1 : ¬ (s.size : Int) < 2 := by omega
    have d2 : decide ((s.size : Int) < 2) = false := decide_eq_false d1
    have d3 : (1 : Nat) < s.size := by omega
    have hb1 := hb 1 d3
    by_cases h3 : (txt s).b 1 = 123
    · have d4 : (((s[1]'d3).toNat : Int) != 123) = false := by rw [hb1, h3]; rfl
      rw [if_neg (by omega)] at hV
      obtain ⟨b, hbb⟩ : ∃ b, (txt s).b = b := ⟨_, rfl⟩
      rw [hbb] at hV hb
      obtain ⟨E, hE⟩ : ∃ E, hexGo b s.size 6 2 0 = E := ⟨_, rfl⟩
      rw [hE] at hV
      have HV := Lib.hid hV
      have HE := Lib.hid hE
      have HBY := Lib.hid hb
      clear hV hE hb hb1 hbb h3
      go_enter Tryd.func79, Tryd.ntmps79
      go_wp2_with fail
      go_loop [5, 6] (fun r i => ∃ (k : Nat) (z : Int), k ≤ 6 ∧ 2 + k ≤ s.size ∧ i = .int .i64 ((2 + k : Nat) : Int) ∧ r = .int .i32 z ∧ 0 ≤ z ∧ z < ((16 ^ k : Nat) : Int) ∧ hexGo b s.size (6 - k) (2 + k) z = E) (fun _ i => 8 - (intOf i).toNat)
      case atStart => exact ⟨0, 0, by omega, by omega, rfl, rfl, by omega, by decide, HE.out⟩
      case round =>
        obtain ⟨k, z, hk, hks, rfl, rfl, hz0, hz1, hgo⟩ := hrel
        have HG := Lib.hid hgo
        obtain ⟨p, hp⟩ : ∃ p, 16 ^ k = p := ⟨_, rfl⟩
        have HP := Lib.hid hp
        rw [hp] at hz1
        obtain ⟨a, ha⟩ : ∃ a, 2 + k = a := ⟨_, rfl⟩
        rw [ha] at hks HG ⊢
        have HA := Lib.hid ha
        have ha8 : a ≤ 8 := by omega
        have ha2 : 2 ≤ a := by omega
        have hka : k = a - 2 := by omega
        have HKA := Lib.hid hka
        clear hgo hp ha hka
        have hdv := digV_in (b a)
        obtain ⟨dv, hdd⟩ : ∃ dv, digV (b a) = dv := ⟨_, rfl⟩
        rw [hdd] at hdv
        have HDD := Lib.hid hdd
        clear hdd
        go_upto_region 4 with fail
        go_cut [31] (fun t wx => t = .bool (decide (a < s.size ∧ a < 8 ∧ 0 ≤ dv)) ∧ w = wx)
        case first =>
          by_cases h1 : a < s.size
          · have f1 : decide ((a : Int) < (s.size : Int)) = true := decide_eq_true (by omega)
            have f1' : (a : Int) < (s.size : Int) := by omega
            by_cases h8 : a < 8
            · have f2 : decide ((a : Int) < 8) = true := decide_eq_true (by omega)
              have f2' : (a : Int) < 8 := by omega
              have hby := HBY.out a h1
              have HD := Lib.hid (digit_any (s[a]'h1).toNat (UInt8.toNat_lt _) w)
              rw [hby, HDD.out] at HD
              by_cases h0 : 0 ≤ dv
              · have f3 : decide (0 ≤ dv) = true := decide_eq_true h0
                go_wp2_with fail
                refine HD.out.mono ?_
                rintro e w1 ⟨rfl, rfl⟩
                go_wp2_with fail
                go_meet
                exact ⟨by simp [h1, h8, h0], rfl⟩
              · have f3 : decide (0 ≤ dv) = false := decide_eq_false h0
                go_wp2_with fail
                refine HD.out.mono ?_
                rintro e w1 ⟨rfl, rfl⟩
                go_wp2_with fail
                go_meet
                exact ⟨by simp [h1, h8, h0], rfl⟩
            · have f2 : decide ((a : Int) < 8) = false := decide_eq_false (by omega)
              go_wp2_with fail
              go_meet
              exact ⟨by simp [h1, h8], rfl⟩
          · have f1 : decide ((a : Int) < (s.size : Int)) = false := decide_eq_false (by omega)
            have f1' : ¬ (a : Int) < (s.size : Int) := by omega
            go_wp2_with fail
            go_meet
            exact ⟨by simp [h1], rfl⟩
        case rest =>
          obtain ⟨rfl, rfl⟩ := hcut
          by_cases hc : a < s.size ∧ a < 8 ∧ 0 ≤ dv
          · rw [decide_eq_true hc]
            obtain ⟨h1, h8, h0⟩ := hc
            have hby := HBY.out a h1
            have HD := Lib.hid (digit_any (s[a]'h1).toNat (UInt8.toNat_lt _) w)
            rw [hby, HDD.out] at HD
            have HG2 : Hid (hexGo b s.size (6 - (k + 1)) (a + 1) (z * 16 + digV (b a)) = E) := by
              have h := HG.out
              obtain ⟨f, hf⟩ : ∃ f, 6 - k = f + 1 := ⟨6 - k - 1, by have := HKA.out; omega⟩
              rw [hf, hexGo, if_pos ⟨h1, by rw [HDD.out]; exact h0⟩] at h
              rw [show 6 - (k + 1) = f by omega]
              exact Lib.hid h
            have HP2 : Hid (16 ^ (k + 1) = p * 16) := by rw [Nat.pow_succ, HP.out]; exact Lib.hid rfl
            have hp5 : p ≤ 1048576 := by
              rw [← HP.out]
              exact Nat.le_trans (Nat.pow_le_pow_right (by decide) (show k ≤ 5 by have := HKA.out; omega)) (by decide)
            rw [HDD.out] at HG2
            have HA2 : Hid (a = 2 + k) := Lib.hid HA.out.symm
            have hk6 : k + 1 ≤ 6 := by have := HKA.out; omega
            have g1 : (a : Int) < (s.size : Int) := by omega
            go_wp2_with fail
            refine HD.out.mono ?_
            rintro e w1 ⟨rfl, rfl⟩
            go_wp2
            go_round
            case rel => exact ⟨k + 1, _, hk6, by have := HA2.out; omega, by have := HA2.out; go_num, rfl, by omega, by rw [HP2.out]; push_cast; omega, by rw [show 2 + (k + 1) = a + 1 by have := HA2.out; omega]; exact HG2.out⟩
            case measure => simp [intOf]; omega
          · rw [decide_eq_false hc]
            have hEa : E = (a, z) := by
              have h := HG.out
              by_cases hk6 : k < 6
              · obtain ⟨f, hf⟩ : ∃ f, 6 - k = f + 1 := ⟨6 - k - 1, by omega⟩
                rw [hf, hexGo, if_neg (fun hh => hc ⟨hh.1, by have := HKA.out; omega, by have := hh.2; rw [HDD.out] at this; exact this⟩)] at h
                exact h.symm
              · rw [show 6 - k = 0 by omega, hexGo] at h
                exact h.symm
            have hVV := HV.out
            rw [hEa] at hVV
            have HV := Lib.hid hVV
            clear hVV hEa hc
            simp only [] at HV
            by_cases h2a : a = 2
            · have f1 : ((a : Int) == 2) = true := by simp; omega
              have hVV := HV.out
              rw [if_pos (.inl h2a)] at hVV
              have HV := Lib.hid hVV
              clear hVV h2a
              go_wp2
              exact bodyPost_ret (results_tmp3 rfl _ _ _) rfl ⟨by rw [← HV.out]; rfl, rfl⟩
            · have f1 : ((a : Int) == 2) = false := by simp; omega
              by_cases hn : a = s.size
              · have f2 : ((a : Int) == (s.size : Int)) = true := by simp; omega
                have hVV := HV.out
                rw [if_pos (.inr (.inl hn))] at hVV
                have HV := Lib.hid hVV
                clear hVV h2a hn
                go_wp2
                exact bodyPost_ret (results_tmp3 rfl _ _ _) rfl ⟨by rw [← HV.out]; rfl, rfl⟩
              · have f2 : ((a : Int) == (s.size : Int)) = false := by simp; omega
                have h1 : a < s.size := by omega
                have g1 : (a : Int) < (s.size : Int) := by omega
                have hby := HBY.out a h1
                by_cases hq : b a = 125
                · have f3 : (((b a : Nat) : Int) != 125) = false := by rw [hq]; rfl
                  have hVV := HV.out
                  rw [if_neg (by omega)] at hVV
                  have HEN := Lib.hid (enc_any z w)
                  cases hvr : Lib.validRune z with
                  | true =>
                    rw [hvr] at HEN
                    rw [if_pos hvr] at hVV
                    have HV := Lib.hid hVV
                    clear hVV h2a hn hq hvr
                    go_wp2_with fail
                    refine HEN.out.mono ?_
                    rintro e w1 ⟨rfl, rfl⟩
                    go_wp2
                    exact bodyPost_ret (results_tmp3 rfl _ _ _) rfl ⟨by rw [← HV.out]; rfl, rfl⟩
                  | false =>
                    rw [hvr] at HEN
                    rw [if_neg (by rw [hvr]; simp)] at hVV
                    have HV := Lib.hid hVV
                    clear hVV h2a hn hq hvr
                    go_wp2_with fail
                    refine HEN.out.mono ?_
                    rintro e w1 ⟨rfl, rfl⟩
                    go_wp2
                    exact bodyPost_ret (results_tmp3 rfl _ _ _) rfl ⟨by rw [← HV.out]; rfl, rfl⟩
                · have f3 : (((b a : Nat) : Int) != 125) = true := by simp; omega
                  have hVV := HV.out
                  rw [if_pos (.inr (.inr hq))] at hVV
                  have HV := Lib.hid hVV
                  clear hVV h2a hn hq
                  go_wp2
                  exact bodyPost_ret (results_tmp3 rfl _ _ _) rfl ⟨by rw [← HV.out]; rfl, rfl⟩
    · have d4 : (((s[1]'d3).toNat : Int) != 123) = true := by rw [hb1]; simp; omega
      rw [if_pos (.inr h3)] at hV
      have HV := Lib.hid hV
      clear hV hb hb1
      go_enter Tryd.func79, Tryd.ntmps79
      go_wp2
      exact bodyPost_ret (results_tmp3 rfl _ _ _) rfl ⟨by rw [← HV.out]; rfl, rfl⟩

end Go.Proofs.YtfjlhfalnciamaaDoor.Chars
