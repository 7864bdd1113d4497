/- How far two lists begin alike: alike, walked. -/
import Derived.Test.YtfcdmkfbkkogbaaDoorEditD
import Derived.BigQuiet
import Derived.Lib.ConvBytes
namespace Go.Proofs.YtfcdmkfbkkogbaaDoor.Edit
open Go Go.RowKit Go.Proofs.YtfcdmkfbkkogbaaDoor.Utf

/-- How far two lists begin alike. -/
def preN : List Nat → List Nat → Nat
  | x :: l, y :: m => if x = y then preN l m + 1 else 0
  | _, _ => 0
theorem preN_le : ∀ l m : List Nat, preN l m ≤ l.length ∧ preN l m ≤ m.length
  | [], m => by unfold preN; exact ⟨Nat.zero_le _, Nat.zero_le _⟩
  | x :: l, [] => by unfold preN; exact ⟨Nat.zero_le _, Nat.zero_le _⟩
  | x :: l, y :: m => by
    have := preN_le l m
    unfold preN
    split
    · simp; omega
    · simp
theorem preN_at : ∀ (l m : List Nat) (k : Nat), k ≤ preN l m → k < l.length → k < m.length → (l.getD k 0 = m.getD k 0 ↔ k < preN l m)
  | [], m, k, _, h1, _ => by simp at h1
  | x :: l, [], k, _, _, h2 => by simp at h2
  | x :: l, y :: m, k, h, h1, h2 => by
    cases k with
    | zero =>
      unfold preN
      by_cases e : x = y
      · rw [if_pos e]; simp [e]
      · rw [if_neg e]; simp [e]
    | succ k =>
      unfold preN at h ⊢
      by_cases e : x = y
      · rw [if_pos e] at h ⊢
        have := preN_at l m k (by omega) (by simpa using h1) (by simpa using h2)
        simp only [List.getD_cons_succ]
        rw [this]; omega
      · rw [if_neg e] at h; omega
/-- The highest number up to n of which P holds; 0, if of none. -/
def topP (P : Nat → Bool) : Nat → Nat
  | 0 => 0
  | n + 1 => if P (n + 1) then n + 1 else topP P n
theorem topP_le (P : Nat → Bool) (n : Nat) : topP P n ≤ n := by
  induction n with
  | zero => exact Nat.le_refl _
  | succ n ih => unfold topP; split <;> omega
theorem topP_yes {P : Nat → Bool} {n : Nat} (h : P n = true) : topP P n = n := by
  cases n with
  | zero => rfl
  | succ n => unfold topP; rw [if_pos h]
theorem topP_no {P : Nat → Bool} {n : Nat} (h : P (n + 1) = false) : topP P (n + 1) = topP P n := by
  rw [topP, h]; rfl
theorem topP_is {P : Nat → Bool} (h0 : P 0 = true) (n : Nat) : P (topP P n) = true := by
  induction n with
  | zero => exact h0
  | succ n ih =>
    unfold topP
    by_cases h : P (n + 1) = true
    · rw [if_pos h]; exact h
    · rw [if_neg h]; exact ih

/-- A row of bytes. -/
def Brow (w : World) (v : Value) (l : List Nat) : Prop := ∃ g cap : Nat, v = .slice (some ⟨g, 0, none⟩) l.length cap ∧ g < w.heap.size ∧ ∀ j, j < l.length → w.cell? ⟨g, j, none⟩ = some (.int .u8 (l.getD j 0 : Int))
theorem Brow.stay {w w' : World} {v : Value} {l : List Nat} (h : Brow w v l) (hb : Below w.heap.size w w') : Brow w' v l := by
  obtain ⟨g, cap, h1, h3, h4⟩ := h
  exact ⟨g, cap, h1, Nat.lt_of_lt_of_le h3 hb.size, fun j hj => by rw [hb.cell (p := ⟨g, j, none⟩) h3]; exact h4 j hj⟩

set_option maxRecDepth 100000 in
theorem alike_any (v1 v2 : Value) (l m : List Nat) (W : World) (h1 : Brow W v1 l) (h2 : Brow W v2 m) (hl : l.length ≤ 1000000) (_hm : m.length ≤ 1000000) :
    Calls Tryd.prog 60 #[v1, v2] W fun e w' => e = .returned (.int .i64 (preN l m : Int)) ∧ Below W.heap.size W w' := by
  obtain ⟨g1, c1, rfl, b1, r1⟩ := h1
  obtain ⟨g2, c2, rfl, b2, r2⟩ := h2
  have R1 := Lib.hid r1
  have R2 := Lib.hid r2
  have hp := preN_le l m
  have HP := Lib.hid (preN_at l m)
  obtain ⟨n, hn⟩ : ∃ n, l.length = n := ⟨_, rfl⟩
  obtain ⟨q, hq⟩ : ∃ n, m.length = n := ⟨_, rfl⟩
  obtain ⟨t, ht⟩ : ∃ n, preN l m = n := ⟨_, rfl⟩
  rw [hn] at R1 hl
  rw [hq] at R2 _hm
  rw [hn, hq, ht] at HP
  rw [hn, hq, ht] at hp
  rw [hn, hq, ht]
  clear r1 r2 hn hq ht
  go_enter Tryd.func60, Tryd.ntmps60
  go_wp2_with fail
  go_loopw [5] (fun i wx => ∃ k : Nat, k ≤ t ∧ i = .int .i64 (k : Int) ∧ (∀ p : Addr, wx.cell? p = W.cell? p) ∧ Below W.heap.size W wx) (fun i _ => t - (intOf i).toNat)
  case atStart => exact ⟨0, Nat.zero_le _, rfl, fun _ => rfl, Below.refl _ _⟩
  case round =>
    obtain ⟨k, hk, rfl, hc, hB⟩ := hrel
    have HC := Lib.hid hc
    have HB := Lib.hid hB
    clear hc hB
    by_cases hkn : k < n
    · by_cases hkq : k < q
      · have x1 : wr.cell? ⟨g1, k, none⟩ = some (.int .u8 (l.getD k 0 : Int)) := by rw [HC.out]; exact R1.out k hkn
        have x2 : wr.cell? ⟨g2, k, none⟩ = some (.int .u8 (m.getD k 0 : Int)) := by rw [HC.out]; exact R2.out k hkq
        have hiff := HP.out k hk hkn hkq
        obtain ⟨x, hx⟩ : ∃ x, l.getD k 0 = x := ⟨_, rfl⟩
        obtain ⟨y, hy⟩ : ∃ x, m.getD k 0 = x := ⟨_, rfl⟩
        rw [hx] at x1 hiff
        rw [hy] at x2 hiff
        have d1 : decide (k < n) = true := decide_eq_true hkn
        have d2 : decide (k < q) = true := decide_eq_true hkq
        have i1 : (k : Int) < (n : Int) := by omega
        have i2 : (k : Int) < (q : Int) := by omega
        by_cases hkt : k < t
        · have he := hiff.2 hkt
          have e1 : ((x : Int) == (y : Int)) = true := by rw [he]; exact beq_self_eq_true _
          have e2 : (x == y) = true := by rw [he]; exact beq_self_eq_true _
          clear hiff hx hy he
          go_wp2_with fail
          go_quiet (fail)
          go_wp2
          go_roundw
          case rel => exact ⟨k + 1, hkt, by go_num, fun p => HC.out p, below_drewNv HB.out _⟩
          case measure => simp [intOf]; omega
        · have hne : x ≠ y := fun h => hkt (hiff.1 h)
          have e1 : ((x : Int) == (y : Int)) = false := by rw [beq_eq_false_iff_ne]; omega
          have e2 : (x == y) = false := by rw [beq_eq_false_iff_ne]; exact hne
          have HT : Hid (k = t) := by show k = t; omega
          clear hiff hx hy hne hk hkt hp HP
          go_wp2_with fail
          go_quiet (fail)
          go_wp2
          go_ret
          exact ⟨by rw [HT.out]; rfl, below_drewNv HB.out _⟩
      · have d1 : decide (k < n) = true := decide_eq_true hkn
        have d2 : decide (k < q) = false := decide_eq_false hkq
        have HT : Hid (k = t) := by show k = t; omega
        clear hk hp HP
        go_wp2_with fail
        go_quiet (fail)
        go_wp2
        go_ret
        exact ⟨by rw [HT.out]; rfl, below_drewNv HB.out _⟩
    · have d1 : decide (k < n) = false := decide_eq_false hkn
      have HT : Hid (k = t) := by show k = t; omega
      clear hk hp HP
      go_wp2_with fail
      go_quiet (fail)
      go_wp2
      go_ret
      exact ⟨by rw [HT.out]; rfl, below_drewNv HB.out _⟩

end Go.Proofs.YtfcdmkfbkkogbaaDoor.Edit
