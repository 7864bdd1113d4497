/- Plain mathematics of UTF-8 texts: items, starts, carets. No program's run in this text. -/
import Derived.Lib.DecodeN
import Derived.Lib.DecodeNEq
import Derived.Lib.RuneCountTail
import Derived.Lib.ValidLaws
namespace Go.Proofs.YtfjlhfalnciamaaDoor.Utf
open Go

/-- A text: how many bytes, and which; behind its end all are 0. -/
structure Txt where
  n : Nat
  b : Nat → Nat
  lt : ∀ i, b i < 256
  out : ∀ i, n ≤ i → b i = 0

def Txt.dc (t : Txt) (i : Nat) : Nat × Nat := Lib.decodeN (t.n - i) (t.b i) (t.b (i + 1)) (t.b (i + 2)) (t.b (i + 3))
/-- The sign that stands at a place, its width; is it one. -/
def Txt.r (t : Txt) (i : Nat) : Nat := (t.dc i).1
def Txt.w (t : Txt) (i : Nat) : Nat := (t.dc i).2
def Txt.ok (t : Txt) (i : Nat) : Bool := decide (t.r i ≠ 65533) || decide (1 < t.w i)

/-- What a decoded place is: one byte below 128; no sign; or a sign of two, three, four bytes. -/
inductive Kind (n b0 b1 b2 b3 : Nat) : Nat × Nat → Prop
  | one : b0 < 128 → Kind n b0 b1 b2 b3 (b0, 1)
  | bad : 128 ≤ b0 → Kind n b0 b1 b2 b3 (65533, 1)
  | two : 194 ≤ b0 → b0 < 224 → 1 < n → 128 ≤ b1 → b1 < 192 → Kind n b0 b1 b2 b3 (b0 % 32 * 64 + b1 % 64, 2)
  | three : 224 ≤ b0 → b0 < 240 → 2 < n → 128 ≤ b1 → b1 < 192 → 128 ≤ b2 → b2 < 192 → 2048 ≤ b0 % 16 * 4096 + b1 % 64 * 64 + b2 % 64 →
      (b0 % 16 * 4096 + b1 % 64 * 64 + b2 % 64 < 55296 ∨ 57344 ≤ b0 % 16 * 4096 + b1 % 64 * 64 + b2 % 64) → Kind n b0 b1 b2 b3 (b0 % 16 * 4096 + b1 % 64 * 64 + b2 % 64, 3)
  | four : 240 ≤ b0 → b0 < 248 → 3 < n → 128 ≤ b1 → b1 < 192 → 128 ≤ b2 → b2 < 192 → 128 ≤ b3 → b3 < 192 → 65536 ≤ b0 % 8 * 262144 + b1 % 64 * 4096 + b2 % 64 * 64 + b3 % 64 →
      b0 % 8 * 262144 + b1 % 64 * 4096 + b2 % 64 * 64 + b3 % 64 ≤ 1114111 → Kind n b0 b1 b2 b3 (b0 % 8 * 262144 + b1 % 64 * 4096 + b2 % 64 * 64 + b3 % 64, 4)

theorem kind_of {n b0 b1 b2 b3 : Nat} (h0 : b0 < 256) (h1 : b1 < 256) (h2 : b2 < 256) (h3 : b3 < 256) : Kind n b0 b1 b2 b3 (Lib.decodeN n b0 b1 b2 b3) := by
  unfold Lib.decodeN
  by_cases c0 : b0 < 128
  · rw [if_pos c0]; exact .one c0
  rw [if_neg c0]
  by_cases c1 : b0 / 32 = 6 ∧ (1 < n ∧ b1 / 64 = 2)
  · rw [if_pos c1]
    by_cases d : b0 % 32 * 64 + b1 % 64 ≥ 128
    · rw [if_pos d]; exact .two (by omega) (by omega) (by omega) (by omega) (by omega)
    · rw [if_neg d]; exact .bad (by omega)
  rw [if_neg c1]
  by_cases c2 : b0 / 16 = 14 ∧ (1 < n ∧ b1 / 64 = 2) ∧ (2 < n ∧ b2 / 64 = 2)
  · rw [if_pos c2]
    by_cases d : b0 % 16 * 4096 + b1 % 64 * 64 + b2 % 64 ≥ 2048 ∧ (b0 % 16 * 4096 + b1 % 64 * 64 + b2 % 64 < 55296 ∨ (57344 ≤ b0 % 16 * 4096 + b1 % 64 * 64 + b2 % 64 ∧ b0 % 16 * 4096 + b1 % 64 * 64 + b2 % 64 ≤ 1114111))
    · rw [if_pos d]; exact .three (by omega) (by omega) (by omega) (by omega) (by omega) (by omega) (by omega) (by omega) (by omega)
    · rw [if_neg d]; exact .bad (by omega)
  rw [if_neg c2]
  by_cases c3 : b0 / 8 = 30 ∧ (1 < n ∧ b1 / 64 = 2) ∧ (2 < n ∧ b2 / 64 = 2) ∧ (3 < n ∧ b3 / 64 = 2)
  · rw [if_pos c3]
    by_cases d : b0 % 8 * 262144 + b1 % 64 * 4096 + b2 % 64 * 64 + b3 % 64 ≥ 65536 ∧ (b0 % 8 * 262144 + b1 % 64 * 4096 + b2 % 64 * 64 + b3 % 64 < 55296 ∨ (57344 ≤ b0 % 8 * 262144 + b1 % 64 * 4096 + b2 % 64 * 64 + b3 % 64 ∧ b0 % 8 * 262144 + b1 % 64 * 4096 + b2 % 64 * 64 + b3 % 64 ≤ 1114111))
    · rw [if_pos d]; exact .four (by omega) (by omega) (by omega) (by omega) (by omega) (by omega) (by omega) (by omega) (by omega) (by omega) (by omega)
    · rw [if_neg d]; exact .bad (by omega)
  rw [if_neg c3]; exact .bad (by omega)

theorem Txt.kind (t : Txt) (i : Nat) : Kind (t.n - i) (t.b i) (t.b (i + 1)) (t.b (i + 2)) (t.b (i + 3)) (t.dc i) := kind_of (t.lt _) (t.lt _) (t.lt _) (t.lt _)

theorem Txt.w_pos (t : Txt) (i : Nat) : 1 ≤ t.w i := by
  have h := t.kind i; unfold Txt.w; generalize t.dc i = d at h; cases h <;> simp
theorem Txt.w_le (t : Txt) (i : Nat) : t.w i ≤ 4 := by
  have h := t.kind i; unfold Txt.w; generalize t.dc i = d at h; cases h <;> simp
theorem Txt.w_in (t : Txt) (i : Nat) (hi : i < t.n) : i + t.w i ≤ t.n := by
  have h := t.kind i; unfold Txt.w; generalize t.dc i = d at h; cases h <;> simp <;> omega
/-- Of a sign of more bytes than one the first is none below 192, the others are from 128 to 191. -/
theorem Txt.w_lead (t : Txt) (i : Nat) (h2 : 2 ≤ t.w i) : 192 ≤ t.b i := by
  have h := t.kind i; unfold Txt.w at h2; generalize t.dc i = d at h h2; cases h <;> simp at h2 <;> omega
theorem Txt.w_cont (t : Txt) (i k : Nat) (h1 : i < k) (h2 : k < i + t.w i) : 128 ≤ t.b k ∧ t.b k < 192 := by
  have h := t.kind i; unfold Txt.w at h2; generalize t.dc i = d at h h2
  obtain ⟨j, rfl⟩ : ∃ j, k = i + j := ⟨k - i, by omega⟩
  cases h <;> simp at h2
  · omega
  · omega
  · obtain rfl : j = 1 := by omega
    omega
  · have : j = 1 ∨ j = 2 := by omega
    rcases this with rfl | rfl <;> omega
  · have : j = 1 ∨ j = 2 ∨ j = 3 := by omega
    rcases this with rfl | rfl | rfl <;> omega

/-- Where item k begins. -/
def Txt.pos (t : Txt) : Nat → Nat
  | 0 => 0
  | k + 1 => t.pos k + t.w (t.pos k)
theorem Txt.pos_lt (t : Txt) {j k : Nat} (h : j < k) : t.pos j < t.pos k := by
  induction k with
  | zero => omega
  | succ k ih =>
    have := t.w_pos (t.pos k)
    rw [Txt.pos]
    by_cases e : j = k
    · subst e; omega
    · have := ih (by omega); omega
theorem Txt.pos_ge (t : Txt) (k : Nat) : k ≤ t.pos k := by
  induction k with
  | zero => exact Nat.zero_le _
  | succ k ih => have := t.pos_lt (show k < k + 1 by omega); omega
/-- Any place is at a start, or within an item. -/
theorem Txt.between (t : Txt) (p : Nat) : ∃ k, t.pos k ≤ p ∧ p < t.pos (k + 1) := by
  have key : ∀ m, p < t.pos m → ∃ k, t.pos k ≤ p ∧ p < t.pos (k + 1) := by
    intro m
    induction m with
    | zero => intro h; simp [Txt.pos] at h
    | succ m ih =>
      intro h
      by_cases c : p < t.pos m
      · exact ih c
      · exact ⟨m, by omega, h⟩
  have := t.pos_ge (p + 1)
  exact key (p + 1) (by omega)
def Txt.start (t : Txt) (p : Nat) : Prop := ∃ k, t.pos k = p
/-- Just the starts are such that no few bytes ahead begin what goes beyond them. -/
theorem Txt.start_iff (t : Txt) (p : Nat) : t.start p ↔ ∀ q, q < p → p < q + 4 → q + t.w q ≤ p := by
  constructor
  · rintro ⟨k, rfl⟩ q h1 h2
    apply Nat.le_of_not_lt
    intro h3
    have hw : 2 ≤ t.w q := by omega
    have hl := t.w_lead q hw
    obtain ⟨j, hj1, hj2⟩ := t.between q
    have hq : t.pos j = q := by
      apply Nat.le_antisymm hj1
      apply Nat.le_of_not_lt
      intro hlt
      rw [Txt.pos] at hj2
      have := (t.w_cont (t.pos j) q hlt hj2).2
      omega
    have hjk : j < k := by
      apply Nat.lt_of_not_le
      intro hle
      rcases Nat.lt_or_eq_of_le hle with h | h
      · have := t.pos_lt h; omega
      · subst h; omega
    have h4 : t.pos (j + 1) ≤ t.pos k := by
      by_cases e : j + 1 = k
      · rw [e]; exact Nat.le_refl _
      · exact Nat.le_of_lt (t.pos_lt (by omega))
    rw [Txt.pos, hq] at h4
    omega
  · intro h
    obtain ⟨k, h1, h2⟩ := t.between p
    refine ⟨k, ?_⟩
    apply Nat.le_antisymm h1
    apply Nat.le_of_not_lt
    intro hlt
    rw [Txt.pos] at h2
    have := h (t.pos k) hlt (by have := t.w_le (t.pos k); omega)
    omega

/-- How many items: the first k whose place is none of the text. -/
theorem Txt.count_ex (t : Txt) : ∃ k, t.pos k = t.n ∧ ∀ j, j < k → t.pos j < t.n := by
  obtain ⟨k, h1, h2⟩ := t.between t.n
  have hk : t.pos k = t.n := by
    apply Nat.le_antisymm h1
    cases k with
    | zero =>
      rw [Txt.pos]
      simp [Txt.pos] at h2
      apply Nat.le_of_not_lt
      intro h
      have := t.w_in 0 h
      omega
    | succ k =>
      apply Nat.le_of_not_lt
      intro h
      have := t.w_in _ h
      rw [show t.pos (k + 1 + 1) = t.pos (k + 1) + t.w (t.pos (k + 1)) from rfl] at h2
      omega
  exact ⟨k, hk, fun j hj => by have := t.pos_lt hj; omega⟩
noncomputable def Txt.cnt (t : Txt) : Nat := Classical.choose t.count_ex
theorem Txt.pos_cnt (t : Txt) : t.pos t.cnt = t.n := (Classical.choose_spec t.count_ex).1
theorem Txt.pos_of_lt (t : Txt) {j : Nat} (h : j < t.cnt) : t.pos j < t.n := (Classical.choose_spec t.count_ex).2 j h
theorem Txt.cnt_le (t : Txt) : t.cnt ≤ t.n := by have := t.pos_ge t.cnt; rw [t.pos_cnt] at this; exact this
theorem Txt.lt_cnt (t : Txt) {j : Nat} (h : t.pos j < t.n) : j < t.cnt := by
  apply Nat.lt_of_not_le
  intro hle
  rcases Nat.lt_or_eq_of_le hle with h1 | h1
  · have := t.pos_lt h1; rw [t.pos_cnt] at this; omega
  · subst h1; rw [t.pos_cnt] at h; omega

end Go.Proofs.YtfjlhfalnciamaaDoor.Utf
