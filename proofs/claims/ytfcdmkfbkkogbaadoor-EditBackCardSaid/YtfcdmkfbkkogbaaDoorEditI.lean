/- Apply in one; Moved. -/
import Derived.Test.YtfcdmkfbkkogbaaDoorEditD
import Derived.BigQuiet
import Derived.Deep.RegionHeld3
namespace Go.Proofs.YtfcdmkfbkkogbaaDoor.Edit
open Go Go.RowKit Go.Proofs.YtfcdmkfbkkogbaaDoor.Utf

def appX (s : ByteArray) (a c : Int) (p : ByteArray) : ByteArray := if codeE s a c p = 0 then applS s a.toNat c.toNat p else ⟨#[]⟩
theorem apply_any (s : ByteArray) (a c : Int) (p : ByteArray) (W : World) (T : U8 W) (hs : s.size ≤ 1000000) (hp : p.size ≤ 1000000)
    (ha : -9223372036854775808 ≤ a ∧ a ≤ 9223372036854775807) (hc : -9223372036854775808 ≤ c ∧ c ≤ 9223372036854775807) :
    Calls Tryd.prog 26 #[.string s, editV a c p] W fun e w' => e = .returned (.tuple #[.string (appX s a c p), .int .i64 (codeE s a c p)]) ∧ Below W.heap.size W w' := by
  by_cases h : codeE s a c p = 0
  · obtain ⟨k, m, rfl, rfl, -, -, -, -⟩ := code_yes h
    have := apply_yes s k m p W T hs hp h
    unfold appX
    rw [if_pos h, h, Int.toNat_natCast, Int.toNat_natCast]
    exact this
  · have := apply_no s a c p W T hs hp ha hc h
    unfold appX
    rw [if_neg h]
    exact this
def backV (s : ByteArray) (a c : Int) (p : ByteArray) : Value := if codeE s a c p = 0 then editV a p.size (s.extract a.toNat (a.toNat + c.toNat)) else editV 0 0 ⟨#[]⟩

def clampI (n : Int) : Int := if n < 0 then 0 else if 1099511627776 < n then 1099511627776 else n
set_option maxRecDepth 100000 in
theorem clamp_any (n : Int) (W : World) (hn : -9223372036854775808 ≤ n ∧ n ≤ 9223372036854775807) :
    Calls Tryd.prog 66 #[.int .i64 n] W fun e w' => e = .returned (.int .i64 (clampI n)) ∧ w' = W := by
  by_cases h1 : n < 0
  · have HE : Hid (clampI n = 0) := if_pos h1
    have e1 : max n 0 = 0 := by omega
    have e2 : decide (n < 0) = true := decide_eq_true h1
    go_enter Tryd.func66, Tryd.ntmps66
    go_wp2
    go_ret
    exact ⟨by rw [HE.out]; rfl, rfl⟩
  by_cases h2 : 1099511627776 < n
  · have HE : Hid (clampI n = 1099511627776) := by unfold clampI; rw [if_neg h1]; exact if_pos h2
    have e1 : max n 0 = n := by omega
    have e2 : decide (n < 0) = false := decide_eq_false h1
    have e3 : min n 1099511627776 = 1099511627776 := by omega
    go_enter Tryd.func66, Tryd.ntmps66
    go_wp2
    go_ret
    exact ⟨by rw [HE.out]; rfl, rfl⟩
  · have HE : Hid (clampI n = n) := by unfold clampI; rw [if_neg h1]; exact if_neg h2
    have e1 : max n 0 = n := by omega
    have e2 : decide (n < 0) = false := decide_eq_false h1
    have e3 : min n 1099511627776 = n := by omega
    go_enter Tryd.func66, Tryd.ntmps66
    go_wp2
    go_ret
    exact ⟨by rw [HE.out]; rfl, rfl⟩

theorem clamp_in (n : Int) : 0 ≤ clampI n ∧ clampI n ≤ 1099511627776 := by unfold clampI; split <;> (try split) <;> omega
def movedI (a c : Int) (n : Nat) (at' : Int) : Int :=
  if clampI at' ≤ clampI a then clampI at' else if clampI at' ≤ clampI a + clampI c then clampI a + n else clampI at' - clampI c + n
set_option maxRecDepth 100000 in
theorem moved_any (a c : Int) (p : ByteArray) (q : Int) (W : World) (hp : p.size ≤ 1000000)
    (ha : -9223372036854775808 ≤ a ∧ a ≤ 9223372036854775807) (hc : -9223372036854775808 ≤ c ∧ c ≤ 9223372036854775807) (hq : -9223372036854775808 ≤ q ∧ q ≤ 9223372036854775807) :
    Calls Tryd.prog 38 #[editV a c p, .int .i64 q] W fun e w' => e = .returned (.int .i64 (movedI a c p.size q)) ∧ Below W.heap.size W w' := by
  have hB0 := (Below.refl W.heap.size W).alloc (Nat.le_refl _) (.cells #[.int .i64 a, .int .i64 c, .string p] 41)
  have HB0 := Lib.hid hB0
  have HQ := Lib.hid (fun w => clamp_any q w hq)
  have HA := Lib.hid (fun w => clamp_any a w ha)
  have HC := Lib.hid (fun w => clamp_any c w hc)
  have i1 := clamp_in q
  have i2 := clamp_in a
  have i3 := clamp_in c
  obtain ⟨m, hm⟩ : ∃ m, movedI a c p.size q = m := ⟨_, rfl⟩
  rw [hm]
  unfold movedI at hm
  unfold editV
  obtain ⟨x, hx⟩ : ∃ x, clampI q = x := ⟨_, rfl⟩
  obtain ⟨b, hb⟩ : ∃ x, clampI a = x := ⟨_, rfl⟩
  obtain ⟨g, hg⟩ : ∃ x, clampI c = x := ⟨_, rfl⟩
  rw [hx] at HQ i1 hm
  rw [hb] at HA i2 hm
  rw [hg] at HC i3 hm
  have HM := Lib.hid hm
  have hcs : (decide (x ≤ b) = true ∧ Hid (m = x)) ∨ (decide (x ≤ b) = false ∧ decide (x ≤ b + g) = true ∧ Hid (m = b + (p.size : Int))) ∨ (decide (x ≤ b) = false ∧ decide (x ≤ b + g) = false ∧ Hid (m = x - g + (p.size : Int))) := by
    by_cases h1 : x ≤ b
    · rw [if_pos h1] at hm
      exact .inl ⟨decide_eq_true h1, hm.symm⟩
    · rw [if_neg h1] at hm
      by_cases h2 : x ≤ b + g
      · rw [if_pos h2] at hm
        exact .inr (.inl ⟨decide_eq_false h1, decide_eq_true h2, hm.symm⟩)
      · rw [if_neg h2] at hm
        exact .inr (.inr ⟨decide_eq_false h1, decide_eq_false h2, hm.symm⟩)
  clear hB0 hm hx hb hg ha hc hq
  go_enter Tryd.func38, Tryd.ntmps38
  go_wp2_with fail
  go_region_held3 (fun w' => w'.cell? ⟨W.heap.size, 0, none⟩ = some (.int .i64 a) ∧ w'.cell? ⟨W.heap.size, 1, none⟩ = some (.int .i64 c) ∧ w'.cell? ⟨W.heap.size, 2, none⟩ = some (.string p))
    (first | go_keep)
    (first | (go_at_call 66; refine (HQ.out _).mono ?_; rintro e w' ⟨rfl, rfl⟩) | (go_at_call 66; refine (HA.out _).mono ?_; rintro e w' ⟨rfl, rfl⟩) | (go_at_call 66; refine (HC.out _).mono ?_; rintro e w' ⟨rfl, rfl⟩))
  rcases hcs with ⟨d1, hm⟩ | ⟨d1, d2, hm⟩ | ⟨d1, d2, hm⟩
  all_goals
    go_wp2
    go_ret
    exact ⟨by rw [hm.out]; rfl, below_drewNv HB0.out _⟩

end Go.Proofs.YtfcdmkfbkkogbaaDoor.Edit
