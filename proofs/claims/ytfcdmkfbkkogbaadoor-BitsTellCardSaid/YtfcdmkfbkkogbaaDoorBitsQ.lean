/- The numbers of a set, as a list that rises. -/
import Derived.Test.YtfcdmkfbkkogbaaDoorBitsM
import Derived.Lib.TrailingZeros
namespace Go.Proofs.YtfcdmkfbkkogbaaDoor.Bits
open Go Go.RowKit

/-- Those of n numbers from s on that are so. -/
def filt (p : Nat → Bool) : Nat → Nat → List Nat
  | 0, _ => []
  | n + 1, s => if p s then s :: filt p n (s + 1) else filt p n (s + 1)

theorem filt_append (p : Nat → Bool) : ∀ m n s, filt p (m + n) s = filt p m s ++ filt p n (s + m)
  | 0, n, s => by simp [filt]
  | m + 1, n, s => by
    rw [show m + 1 + n = (m + n) + 1 by omega, filt, filt, filt_append p m n (s + 1), show s + 1 + m = s + (m + 1) by omega]
    split <;> rfl
theorem filt_congr {p q : Nat → Bool} : ∀ n s, (∀ i, s ≤ i → i < s + n → p i = q i) → filt p n s = filt q n s
  | 0, _, _ => rfl
  | n + 1, s, h => by
    rw [filt, filt, h s (Nat.le_refl _) (by omega), filt_congr n (s + 1) fun i h1 h2 => h i (by omega) (by omega)]
theorem filt_none {p : Nat → Bool} : ∀ n s, (∀ i, s ≤ i → i < s + n → p i = false) → filt p n s = []
  | 0, _, _ => rfl
  | n + 1, s, h => by
    rw [filt, h s (Nat.le_refl _) (by omega), filt_none n (s + 1) fun i h1 h2 => h i (by omega) (by omega)]
    rfl
theorem filt_shift (p : Nat → Bool) (c : Nat) : ∀ n s, filt p n (c + s) = (filt (fun i => p (c + i)) n s).map (c + ·)
  | 0, _ => rfl
  | n + 1, s => by
    rw [filt, filt, show c + s + 1 = c + (s + 1) by omega, filt_shift p c n (s + 1)]
    split <;> simp
theorem mem_filt {p : Nat → Bool} {x : Nat} : ∀ n s, x ∈ filt p n s ↔ s ≤ x ∧ x < s + n ∧ p x = true
  | 0, s => by simp [filt]; omega
  | n + 1, s => by
    rw [filt]
    have ih := mem_filt (p := p) (x := x) n (s + 1)
    split
    · rename_i hp
      rw [List.mem_cons, ih]
      constructor
      · rintro (rfl | h)
        · exact ⟨Nat.le_refl _, by omega, hp⟩
        · exact ⟨by omega, by omega, h.2.2⟩
      · rintro ⟨h1, h2, h3⟩
        by_cases e : x = s
        · exact .inl e
        · exact .inr ⟨by omega, by omega, h3⟩
    · rename_i hp
      rw [ih]
      constructor
      · rintro ⟨h1, h2, h3⟩
        exact ⟨by omega, by omega, h3⟩
      · rintro ⟨h1, h2, h3⟩
        have : x ≠ s := fun e => hp (e ▸ h3)
        exact ⟨by omega, by omega, h3⟩
theorem filt_head {p q : Nat → Bool} {t : Nat} (ht : p t = true) (hq : q t = false) (hpq : ∀ i, i ≠ t → q i = p i) : ∀ n s, s ≤ t → t < s + n → (∀ i, s ≤ i → i < t → p i = false) → filt p n s = t :: filt q n s
  | 0, s, h1, h2, _ => by omega
  | n + 1, s, h1, h2, h3 => by
    rw [filt, filt]
    by_cases e : s = t
    · subst e
      rw [if_pos ht, hq, filt_congr (p := p) (q := q) n (s + 1) fun i h1 h2 => (hpq i (by omega)).symm]
      rfl
    · have h0 := h3 s (Nat.le_refl _) (by omega)
      rw [h0, hpq s e, h0]
      exact filt_head ht hq hpq n (s + 1) (by omega) (by omega) fun i h1 h2 => h3 i (by omega) h2
theorem filt_after (p : Nat → Bool) : ∀ n s i m, (filt p n s)[i]? = some m → filt p (n + s - (m + 1)) (m + 1) = (filt p n s).drop (i + 1)
  | 0, s, i, m, h => by simp [filt] at h
  | n + 1, s, i, m, h => by
    rw [filt] at h ⊢
    split
    · rename_i hp
      rw [if_pos hp] at h
      cases i with
      | zero =>
        simp at h
        subst h
        rw [show n + 1 + s - (s + 1) = n by omega]
        rfl
      | succ i =>
        have := filt_after p n (s + 1) i m h
        rw [show n + (s + 1) - (m + 1) = n + 1 + s - (m + 1) by omega] at this
        rw [this]; rfl
    · rename_i hp
      rw [if_neg hp] at h
      have := filt_after p n (s + 1) i m h
      rw [show n + (s + 1) - (m + 1) = n + 1 + s - (m + 1) by omega] at this
      exact this
theorem filt_length_le (p : Nat → Bool) : ∀ n s, (filt p n s).length ≤ n
  | 0, _ => Nat.le_refl _
  | n + 1, s => by
    have := filt_length_le p n (s + 1)
    rw [filt]
    split <;> simp <;> omega
theorem filt_rise (p : Nat → Bool) : ∀ n s, (filt p n s).Pairwise (· < ·)
  | 0, _ => List.Pairwise.nil
  | n + 1, s => by
    rw [filt]
    split
    · refine List.pairwise_cons.2 ⟨fun x hx => ?_, filt_rise p n (s + 1)⟩
      have := ((mem_filt n (s + 1)).1 hx).1
      omega
    · exact filt_rise p n (s + 1)

/-- Whether a number is in a set. -/
def mem (l : List Nat) (n : Nat) : Bool := (wd l (n / 64)).testBit (n % 64)

theorem mem_word (l : List Nat) (i b : Nat) (hb : b < 64) : mem l (64 * i + b) = (wd l i).testBit b := by
  unfold mem
  rw [show (64 * i + b) / 64 = i by omega, show (64 * i + b) % 64 = b by omega]
theorem mem_high {l : List Nat} {n : Nat} (h : 64 * tl l ≤ n) : mem l n = false := by
  unfold mem
  rw [wd_ge (by omega), Nat.zero_testBit]
theorem filt_word (l : List Nat) (i : Nat) : filt (mem l) 64 (64 * i) = (filt (wd l i).testBit 64 0).map (64 * i + ·) := by
  have := filt_shift (mem l) (64 * i) 64 0
  rw [Nat.add_zero] at this
  rw [this, filt_congr (p := fun j => mem l (64 * i + j)) (q := (wd l i).testBit) 64 0 fun b _ hb => mem_word l i b (by omega)]
theorem filt_words (l : List Nat) (j : Nat) : filt (mem l) (64 * (j + 1)) 0 = filt (mem l) (64 * j) 0 ++ (filt (wd l j).testBit 64 0).map (64 * j + ·) := by
  rw [show 64 * (j + 1) = 64 * j + 64 by omega, filt_append, Nat.zero_add, filt_word]
/-- All numbers of a set. -/
def allOf (l : List Nat) : List Nat := filt (mem l) 65536 0
theorem allOf_eq (l : List Nat) : allOf l = filt (mem l) (64 * tl l) 0 := by
  have := (tl_le l).2
  unfold allOf
  rw [show 65536 = 64 * tl l + (65536 - 64 * tl l) by omega, filt_append, filt_none (p := mem l) (65536 - 64 * tl l) (0 + 64 * tl l) fun i h1 _ => mem_high (by omega), List.append_nil]

theorem low_bit {x : Nat} (h0 : x ≠ 0) (h : x < 18446744073709551616) : Lib.ctz 64 x < 64 ∧ x.testBit (Lib.ctz 64 x) = true ∧ (∀ i, i < Lib.ctz 64 x → x.testBit i = false) ∧ ∀ i, (x &&& (x - 1)).testBit i = (x.testBit i && decide (i ≠ Lib.ctz 64 x)) := by
  have e : Lib.ctz 64 x = Lib.ctzFrom 64 x := by simp [Lib.ctz, h0]
  obtain ⟨m, hm, hk⟩ := Lib.ctzFrom_spec 64 x (by omega) h
  rw [e]
  obtain ⟨t, ht⟩ : ∃ t, t = Lib.ctzFrom 64 x := ⟨_, rfl⟩
  rw [← ht] at hm hk ⊢
  have hp : 0 < 2 ^ t := Nat.two_pow_pos t
  have b1 : ∀ i, x.testBit i = if i < t then false else (2 * m + 1).testBit (i - t) := fun i => by
    have := Nat.testBit_two_pow_mul_add (2 * m + 1) hp i
    rw [Nat.add_zero, ← hm] at this
    rw [this]
    split <;> simp
  have b2 : ∀ i, (x - 1).testBit i = if i < t then (2 ^ t - 1).testBit i else (2 * m).testBit (i - t) := fun i => by
    have := Nat.testBit_two_pow_mul_add (2 * m) (show 2 ^ t - 1 < 2 ^ t by omega) i
    rw [← this]
    congr 1
    rw [hm, Nat.mul_add, Nat.mul_one]
    omega
  refine ⟨hk, ?_, fun i hi => ?_, fun i => ?_⟩
  · rw [b1, if_neg (by omega), Nat.sub_self]; simp
  · rw [b1, if_pos hi]
  · rw [Nat.testBit_and, b1, b2]
    by_cases h1 : i < t
    · rw [if_pos h1]; simp
    · rw [if_neg h1, if_neg h1]
      by_cases h2 : i = t
      · subst h2; simp
      · rw [decide_eq_true h2, Bool.and_true]
        obtain ⟨d, hd⟩ : ∃ d, i - t = d + 1 := ⟨i - t - 1, by omega⟩
        rw [hd, Nat.testBit_succ, Nat.testBit_succ, show (2 * m + 1) / 2 = m by omega, show 2 * m / 2 = m by omega, Bool.and_self]

theorem filt_low {x : Nat} (h0 : x ≠ 0) (h : x < 18446744073709551616) : filt x.testBit 64 0 = Lib.ctz 64 x :: filt (x &&& (x - 1)).testBit 64 0 := by
  obtain ⟨h1, h2, h3, h4⟩ := low_bit h0 h
  refine filt_head h2 ?_ (fun i hi => ?_) 64 0 (Nat.zero_le _) (by omega) fun i _ hi => h3 i hi
  · rw [h4]; simp
  · rw [h4]; simp [hi]
theorem filt_zero : filt (0 : Nat).testBit 64 0 = [] := filt_none _ _ fun i _ _ => Nat.zero_testBit i

theorem filt_pc (x : Nat) : ∀ n s, (filt x.testBit n s).length = pcN n (x / 2 ^ s)
  | 0, _ => rfl
  | n + 1, s => by
    rw [filt, pcN, Nat.testBit_eq_decide_div_mod_eq, Nat.div_div_eq_div_mul, ← Nat.pow_succ, ← filt_pc x n (s + 1)]
    by_cases h : x / 2 ^ s % 2 = 1
    · rw [h]; simp; omega
    · rw [show x / 2 ^ s % 2 = 0 by omega]; simp
theorem count_filt (l : List Nat) : ∀ j, (filt (mem l) (64 * j) 0).length = cntTo (wd l) j
  | 0 => rfl
  | j + 1 => by
    rw [filt_words, List.length_append, count_filt l j, List.length_map, filt_pc, cntTo, Nat.pow_zero, Nat.div_one]
theorem count_all (l : List Nat) : (allOf l).length = count l := count_filt l 1024

end Go.Proofs.YtfcdmkfbkkogbaaDoor.Bits
