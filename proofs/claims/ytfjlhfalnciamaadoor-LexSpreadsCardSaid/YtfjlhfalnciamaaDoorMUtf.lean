/- Package texts, merged: UtfA, UtfB, UtfC, UtfD, UtfE, UtfF, UtfJ, UtfI. -/
import Derived.Lib.DecodeN
import Derived.Lib.DecodeNEq
import Derived.Lib.RuneCountTail
import Derived.Lib.ValidLaws
import Derived.Test.YtfjlhfalnciamaaDoorRows
import Derived.Test.YtfjlhfalnciamaaDoorShelf
import Derived.Deep.CutBlock
import Derived.Deep.DeepCutAuto
import Derived.WalkKit
import Derived.BigRegion
import Derived.WalkSpells
import Derived.Lib.Hide
import Derived.Deep.QuietTactic
import Derived.BigQuiet
import Derived.Deep.LoopGhost
import Derived.Lib.BufferRead
import Derived.Lib.OthersKept

namespace Go.Proofs.YtfjlhfalnciamaaDoor.Utf
open Go

/-- A text: how many bytes, and which; behind its end all are 0. -/
structure Txt where
  n : Nat
  b : Nat → Nat
  lt : ∀ i, b i < 256
  out : ∀ i, n ≤ i → b i = 0

def Txt.dc (t : Txt) (i : Nat) : Nat × Nat := Lib.decodeN (t.n - i) (t.b i) (t.b (i + 1)) (t.b (i + 2)) (t.b (i + 3))
/-- The sign that stands at a place, its width; is it one. -/
def Txt.r (t : Txt) (i : Nat) : Nat := (t.dc i).1
def Txt.w (t : Txt) (i : Nat) : Nat := (t.dc i).2
def Txt.ok (t : Txt) (i : Nat) : Bool := decide (t.r i ≠ 65533) || decide (1 < t.w i)

/-- What a decoded place is: one byte below 128; no sign; or a sign of two, three, four bytes. -/
inductive Kind (n b0 b1 b2 b3 : Nat) : Nat × Nat → Prop
  | one : b0 < 128 → Kind n b0 b1 b2 b3 (b0, 1)
  | bad : 128 ≤ b0 → Kind n b0 b1 b2 b3 (65533, 1)
  | two : 194 ≤ b0 → b0 < 224 → 1 < n → 128 ≤ b1 → b1 < 192 → Kind n b0 b1 b2 b3 (b0 % 32 * 64 + b1 % 64, 2)
  | three : 224 ≤ b0 → b0 < 240 → 2 < n → 128 ≤ b1 → b1 < 192 → 128 ≤ b2 → b2 < 192 → 2048 ≤ b0 % 16 * 4096 + b1 % 64 * 64 + b2 % 64 →
      (b0 % 16 * 4096 + b1 % 64 * 64 + b2 % 64 < 55296 ∨ 57344 ≤ b0 % 16 * 4096 + b1 % 64 * 64 + b2 % 64) → Kind n b0 b1 b2 b3 (b0 % 16 * 4096 + b1 % 64 * 64 + b2 % 64, 3)
  | four : 240 ≤ b0 → b0 < 248 → 3 < n → 128 ≤ b1 → b1 < 192 → 128 ≤ b2 → b2 < 192 → 128 ≤ b3 → b3 < 192 → 65536 ≤ b0 % 8 * 262144 + b1 % 64 * 4096 + b2 % 64 * 64 + b3 % 64 →
      b0 % 8 * 262144 + b1 % 64 * 4096 + b2 % 64 * 64 + b3 % 64 ≤ 1114111 → Kind n b0 b1 b2 b3 (b0 % 8 * 262144 + b1 % 64 * 4096 + b2 % 64 * 64 + b3 % 64, 4)

theorem kind_of {n b0 b1 b2 b3 : Nat} (h0 : b0 < 256) (h1 : b1 < 256) (h2 : b2 < 256) (h3 : b3 < 256) : Kind n b0 b1 b2 b3 (Lib.decodeN n b0 b1 b2 b3) := by
  unfold Lib.decodeN
  by_cases c0 : b0 < 128
  · rw [if_pos c0]; exact .one c0
  rw [if_neg c0]
  by_cases c1 : b0 / 32 = 6 ∧ (1 < n ∧ b1 / 64 = 2)
  · rw [if_pos c1]
    by_cases d : b0 % 32 * 64 + b1 % 64 ≥ 128
    · rw [if_pos d]; exact .two (by omega) (by omega) (by omega) (by omega) (by omega)
    · rw [if_neg d]; exact .bad (by omega)
  rw [if_neg c1]
  by_cases c2 : b0 / 16 = 14 ∧ (1 < n ∧ b1 / 64 = 2) ∧ (2 < n ∧ b2 / 64 = 2)
  · rw [if_pos c2]
    by_cases d : b0 % 16 * 4096 + b1 % 64 * 64 + b2 % 64 ≥ 2048 ∧ (b0 % 16 * 4096 + b1 % 64 * 64 + b2 % 64 < 55296 ∨ (57344 ≤ b0 % 16 * 4096 + b1 % 64 * 64 + b2 % 64 ∧ b0 % 16 * 4096 + b1 % 64 * 64 + b2 % 64 ≤ 1114111))
    · rw [if_pos d]; exact .three (by omega) (by omega) (by omega) (by omega) (by omega) (by omega) (by omega) (by omega) (by omega)
    · rw [if_neg d]; exact .bad (by omega)
  rw [if_neg c2]
  by_cases c3 : b0 / 8 = 30 ∧ (1 < n ∧ b1 / 64 = 2) ∧ (2 < n ∧ b2 / 64 = 2) ∧ (3 < n ∧ b3 / 64 = 2)
  · rw [if_pos c3]
    by_cases d : b0 % 8 * 262144 + b1 % 64 * 4096 + b2 % 64 * 64 + b3 % 64 ≥ 65536 ∧ (b0 % 8 * 262144 + b1 % 64 * 4096 + b2 % 64 * 64 + b3 % 64 < 55296 ∨ (57344 ≤ b0 % 8 * 262144 + b1 % 64 * 4096 + b2 % 64 * 64 + b3 % 64 ∧ b0 % 8 * 262144 + b1 % 64 * 4096 + b2 % 64 * 64 + b3 % 64 ≤ 1114111))
    · rw [if_pos d]; exact .four (by omega) (by omega) (by omega) (by omega) (by omega) (by omega) (by omega) (by omega) (by omega) (by omega) (by omega)
    · rw [if_neg d]; exact .bad (by omega)
  rw [if_neg c3]; exact .bad (by omega)

theorem Txt.kind (t : Txt) (i : Nat) : Kind (t.n - i) (t.b i) (t.b (i + 1)) (t.b (i + 2)) (t.b (i + 3)) (t.dc i) := kind_of (t.lt _) (t.lt _) (t.lt _) (t.lt _)

theorem Txt.w_pos (t : Txt) (i : Nat) : 1 ≤ t.w i := by
  have h := t.kind i; unfold Txt.w; generalize t.dc i = d at h; cases h <;> simp
theorem Txt.w_le (t : Txt) (i : Nat) : t.w i ≤ 4 := by
  have h := t.kind i; unfold Txt.w; generalize t.dc i = d at h; cases h <;> simp
theorem Txt.w_in (t : Txt) (i : Nat) (hi : i < t.n) : i + t.w i ≤ t.n := by
  have h := t.kind i; unfold Txt.w; generalize t.dc i = d at h; cases h <;> simp <;> omega
/-- Of a sign of more bytes than one the first is none below 192, the others are from 128 to 191. -/
theorem Txt.w_lead (t : Txt) (i : Nat) (h2 : 2 ≤ t.w i) : 192 ≤ t.b i := by
  have h := t.kind i; unfold Txt.w at h2; generalize t.dc i = d at h h2; cases h <;> simp at h2 <;> omega
theorem Txt.w_cont (t : Txt) (i k : Nat) (h1 : i < k) (h2 : k < i + t.w i) : 128 ≤ t.b k ∧ t.b k < 192 := by
  have h := t.kind i; unfold Txt.w at h2; generalize t.dc i = d at h h2
  obtain ⟨j, rfl⟩ : ∃ j, k = i + j := ⟨k - i, by omega⟩
  cases h <;> simp at h2
  · omega
  · omega
  · obtain rfl : j = 1 := by omega
    omega
  · have : j = 1 ∨ j = 2 := by omega
    rcases this with rfl | rfl <;> omega
  · have : j = 1 ∨ j = 2 ∨ j = 3 := by omega
    rcases this with rfl | rfl | rfl <;> omega

/-- Where item k begins. -/
def Txt.pos (t : Txt) : Nat → Nat
  | 0 => 0
  | k + 1 => t.pos k + t.w (t.pos k)
theorem Txt.pos_lt (t : Txt) {j k : Nat} (h : j < k) : t.pos j < t.pos k := by
  induction k with
  | zero => omega
  | succ k ih =>
    have := t.w_pos (t.pos k)
    rw [Txt.pos]
    by_cases e : j = k
    · subst e; omega
    · have := ih (by omega); omega
theorem Txt.pos_ge (t : Txt) (k : Nat) : k ≤ t.pos k := by
  induction k with
  | zero => exact Nat.zero_le _
  | succ k ih => have := t.pos_lt (show k < k + 1 by omega); omega
/-- Any place is at a start, or within an item. -/
theorem Txt.between (t : Txt) (p : Nat) : ∃ k, t.pos k ≤ p ∧ p < t.pos (k + 1) := by
  have key : ∀ m, p < t.pos m → ∃ k, t.pos k ≤ p ∧ p < t.pos (k + 1) := by
    intro m
    induction m with
    | zero => intro h; simp [Txt.pos] at h
    | succ m ih =>
      intro h
      by_cases c : p < t.pos m
      · exact ih c
      · exact ⟨m, by omega, h⟩
  have := t.pos_ge (p + 1)
  exact key (p + 1) (by omega)
def Txt.start (t : Txt) (p : Nat) : Prop := ∃ k, t.pos k = p
/-- Just the starts are such that no few bytes ahead begin what goes beyond them. -/
theorem Txt.start_iff (t : Txt) (p : Nat) : t.start p ↔ ∀ q, q < p → p < q + 4 → q + t.w q ≤ p := by
  constructor
  · rintro ⟨k, rfl⟩ q h1 h2
    apply Nat.le_of_not_lt
    intro h3
    have hw : 2 ≤ t.w q := by omega
    have hl := t.w_lead q hw
    obtain ⟨j, hj1, hj2⟩ := t.between q
    have hq : t.pos j = q := by
      apply Nat.le_antisymm hj1
      apply Nat.le_of_not_lt
      intro hlt
      rw [Txt.pos] at hj2
      have := (t.w_cont (t.pos j) q hlt hj2).2
      omega
    have hjk : j < k := by
      apply Nat.lt_of_not_le
      intro hle
      rcases Nat.lt_or_eq_of_le hle with h | h
      · have := t.pos_lt h; omega
      · subst h; omega
    have h4 : t.pos (j + 1) ≤ t.pos k := by
      by_cases e : j + 1 = k
      · rw [e]; exact Nat.le_refl _
      · exact Nat.le_of_lt (t.pos_lt (by omega))
    rw [Txt.pos, hq] at h4
    omega
  · intro h
    obtain ⟨k, h1, h2⟩ := t.between p
    refine ⟨k, ?_⟩
    apply Nat.le_antisymm h1
    apply Nat.le_of_not_lt
    intro hlt
    rw [Txt.pos] at h2
    have := h (t.pos k) hlt (by have := t.w_le (t.pos k); omega)
    omega

/-- How many items: the first k whose place is none of the text. -/
theorem Txt.count_ex (t : Txt) : ∃ k, t.pos k = t.n ∧ ∀ j, j < k → t.pos j < t.n := by
  obtain ⟨k, h1, h2⟩ := t.between t.n
  have hk : t.pos k = t.n := by
    apply Nat.le_antisymm h1
    cases k with
    | zero =>
      rw [Txt.pos]
      simp [Txt.pos] at h2
      apply Nat.le_of_not_lt
      intro h
      have := t.w_in 0 h
      omega
    | succ k =>
      apply Nat.le_of_not_lt
      intro h
      have := t.w_in _ h
      rw [show t.pos (k + 1 + 1) = t.pos (k + 1) + t.w (t.pos (k + 1)) from rfl] at h2
      omega
  exact ⟨k, hk, fun j hj => by have := t.pos_lt hj; omega⟩
noncomputable def Txt.cnt (t : Txt) : Nat := Classical.choose t.count_ex
theorem Txt.pos_cnt (t : Txt) : t.pos t.cnt = t.n := (Classical.choose_spec t.count_ex).1
theorem Txt.pos_of_lt (t : Txt) {j : Nat} (h : j < t.cnt) : t.pos j < t.n := (Classical.choose_spec t.count_ex).2 j h
theorem Txt.cnt_le (t : Txt) : t.cnt ≤ t.n := by have := t.pos_ge t.cnt; rw [t.pos_cnt] at this; exact this
theorem Txt.lt_cnt (t : Txt) {j : Nat} (h : t.pos j < t.n) : j < t.cnt := by
  apply Nat.lt_of_not_le
  intro hle
  rcases Nat.lt_or_eq_of_le hle with h1 | h1
  · have := t.pos_lt h1; rw [t.pos_cnt] at this; omega
  · subst h1; rw [t.pos_cnt] at h; omega

end Go.Proofs.YtfjlhfalnciamaaDoor.Utf

namespace Go.Proofs.YtfjlhfalnciamaaDoor.Utf
open Go

theorem dec_one {n b0 b1 b2 b3 : Nat} (h : b0 < 128) : Lib.decodeN n b0 b1 b2 b3 = (b0, 1) := by unfold Lib.decodeN; rw [if_pos h]
theorem dec_two {n b0 b1 b2 b3 : Nat} (h1 : 194 ≤ b0) (h2 : b0 < 224) (h3 : 1 < n) (h4 : 128 ≤ b1) (h5 : b1 < 192) : Lib.decodeN n b0 b1 b2 b3 = (b0 % 32 * 64 + b1 % 64, 2) := by
  unfold Lib.decodeN; rw [if_neg (by omega), if_pos (by omega), if_pos (by omega)]
theorem dec_three {n b0 b1 b2 b3 : Nat} (h1 : 224 ≤ b0) (h2 : b0 < 240) (h3 : 2 < n) (h4 : 128 ≤ b1) (h5 : b1 < 192) (h6 : 128 ≤ b2) (h7 : b2 < 192) (h8 : 2048 ≤ b0 % 16 * 4096 + b1 % 64 * 64 + b2 % 64)
    (h9 : b0 % 16 * 4096 + b1 % 64 * 64 + b2 % 64 < 55296 ∨ 57344 ≤ b0 % 16 * 4096 + b1 % 64 * 64 + b2 % 64) : Lib.decodeN n b0 b1 b2 b3 = (b0 % 16 * 4096 + b1 % 64 * 64 + b2 % 64, 3) := by
  unfold Lib.decodeN; rw [if_neg (by omega), if_neg (by omega), if_pos (by omega), if_pos (by omega)]
theorem dec_four {n b0 b1 b2 b3 : Nat} (h1 : 240 ≤ b0) (h2 : b0 < 248) (h3 : 3 < n) (h4 : 128 ≤ b1) (h5 : b1 < 192) (h6 : 128 ≤ b2) (h7 : b2 < 192) (h8 : 128 ≤ b3) (h9 : b3 < 192)
    (h10 : 65536 ≤ b0 % 8 * 262144 + b1 % 64 * 4096 + b2 % 64 * 64 + b3 % 64) (h11 : b0 % 8 * 262144 + b1 % 64 * 4096 + b2 % 64 * 64 + b3 % 64 ≤ 1114111) :
    Lib.decodeN n b0 b1 b2 b3 = (b0 % 8 * 262144 + b1 % 64 * 4096 + b2 % 64 * 64 + b3 % 64, 4) := by
  unfold Lib.decodeN; rw [if_neg (by omega), if_neg (by omega), if_neg (by omega), if_pos (by omega), if_pos (by omega)]

/-- Is there a sign? -/
def Txt.sign (t : Txt) (i : Nat) : Prop := t.b i < 128 ∨ 2 ≤ t.w i
theorem Txt.bad (t : Txt) (i : Nat) (h : ¬ t.sign i) : t.dc i = (65533, 1) ∧ 128 ≤ t.b i := by
  have hk := t.kind i; unfold Txt.sign Txt.w at h; generalize t.dc i = d at h hk
  cases hk with
  | one c => exact absurd (.inl c) h
  | bad c => exact ⟨rfl, c⟩
  | two => exact absurd (.inr (by simp)) h
  | three => exact absurd (.inr (by simp)) h
  | four => exact absurd (.inr (by simp)) h
theorem Txt.ok_iff (t : Txt) (i : Nat) : t.ok i = true ↔ t.sign i := by
  have hk := t.kind i; unfold Txt.sign Txt.ok Txt.r Txt.w; generalize t.dc i = d at hk
  cases hk <;> simp <;> omega
/-- A sign is one wherever its bytes stand. -/
theorem Txt.moved (t u : Txt) (i j : Nat) (hs : t.sign i) (hn : j + t.w i ≤ u.n) (h : ∀ k, k < t.w i → u.b (j + k) = t.b (i + k)) : u.dc j = t.dc i := by
  have hk := t.kind i; unfold Txt.sign at hs; unfold Txt.w at hn hs h
  generalize t.dc i = d at hk hs hn h ⊢
  unfold Txt.dc
  cases hk with
  | one c => simp at h; exact (by rw [h]; exact dec_one c)
  | bad c => simp at hs; omega
  | two =>
    have e0 := h 0 (by simp); have e1 := h 1 (by simp)
    simp at e0
    rw [e0, e1]; simp at hn
    exact dec_two (by omega) (by omega) (by omega) (by omega) (by omega)
  | three =>
    have e0 := h 0 (by simp); have e1 := h 1 (by simp); have e2 := h 2 (by simp)
    simp at e0
    rw [e0, e1, e2]; simp at hn
    exact dec_three (by omega) (by omega) (by omega) (by omega) (by omega) (by omega) (by omega) (by omega) (by omega)
  | four =>
    have e0 := h 0 (by simp); have e1 := h 1 (by simp); have e2 := h 2 (by simp); have e3 := h 3 (by simp)
    simp at e0
    rw [e0, e1, e2, e3]; simp at hn
    exact dec_four (by omega) (by omega) (by omega) (by omega) (by omega) (by omega) (by omega) (by omega) (by omega) (by omega) (by omega)

/-- ab is a, and b behind it. -/
structure Joined (a b ab : Txt) : Prop where
  n : ab.n = a.n + b.n
  l : ∀ i, i < a.n → ab.b i = a.b i
  r : ∀ i, ab.b (a.n + i) = b.b i

theorem Joined.behind {a b ab : Txt} (h : Joined a b ab) (i : Nat) : ab.dc (a.n + i) = b.dc i := by
  unfold Txt.dc
  rw [h.n, show a.n + i + 1 = a.n + (i + 1) by omega, show a.n + i + 2 = a.n + (i + 2) by omega, show a.n + i + 3 = a.n + (i + 3) by omega, h.r, h.r, h.r, h.r]
  congr 1; omega
/-- What ends within a is what it is in a. -/
theorem Joined.ahead {a b ab : Txt} (h : Joined a b ab) {i : Nat} (hi : i + ab.w i ≤ a.n) : a.dc i = ab.dc i := by
  have hp := ab.w_pos i
  by_cases hs : ab.sign i
  · exact Txt.moved ab a i i hs hi fun k hk => (h.l _ (by omega)).symm
  · have h1 := ab.bad i hs
    rw [h1.1]
    by_cases ha : a.sign i
    · exfalso
      have hw := a.w_in i (by omega)
      have h2 := Txt.moved a ab i i ha (by have := h.n; omega) fun k hk => h.l _ (by omega)
      apply hs
      unfold Txt.sign at ha ⊢
      unfold Txt.w at ha ⊢
      rw [h2, h.l i (by omega)]; exact ha
    · exact (a.bad i ha).1
/-- What goes beyond a is no sign in a. -/
theorem Joined.beyond {a b ab : Txt} (h : Joined a b ab) {i : Nat} (hi : i < a.n) (hg : a.n < i + ab.w i) : a.dc i = (65533, 1) := by
  by_cases ha : a.sign i
  · exfalso
    have hw := a.w_in i hi
    have h2 := Txt.moved a ab i i ha (by have := h.n; omega) fun k hk => h.l _ (by omega)
    unfold Txt.w at hw hg
    rw [h2] at hg
    omega
  · exact (a.bad i ha).1
/-- A byte from 128 to 191 begins no sign. -/
theorem Txt.cont_bad (t : Txt) (i : Nat) (h1 : 128 ≤ t.b i) (h2 : t.b i < 192) : t.dc i = (65533, 1) := by
  by_cases hs : t.sign i
  · rcases hs with h | h
    · omega
    · have := t.w_lead i h; omega
  · exact (t.bad i hs).1

/-- Items of ab as long as they end within a are a's. -/
theorem Joined.pos_ahead {a b ab : Txt} (h : Joined a b ab) : ∀ k, ab.pos k ≤ a.n → a.pos k = ab.pos k
  | 0, _ => rfl
  | k + 1, hk => by
    have hlt := ab.pos_lt (show k < k + 1 by omega)
    have ih := h.pos_ahead k (by omega)
    rw [Txt.pos] at hk
    rw [Txt.pos, Txt.pos, ih]
    unfold Txt.w at hk ⊢
    rw [h.ahead (by unfold Txt.w; exact hk)]
theorem Joined.pos_behind {a b ab : Txt} (h : Joined a b ab) {m j : Nat} (hm : ab.pos m = a.n + b.pos j) : ∀ k, ab.pos (m + k) = a.n + b.pos (j + k)
  | 0 => hm
  | k + 1 => by
    rw [← Nat.add_assoc, ← Nat.add_assoc, Txt.pos, Txt.pos, h.pos_behind hm k]
    unfold Txt.w
    rw [h.behind]; omega
theorem Txt.cnt_of (t : Txt) {k : Nat} (h : t.pos k = t.n) : t.cnt = k := by
  rcases Nat.lt_trichotomy t.cnt k with h1 | h1 | h1
  · have := t.pos_lt h1; rw [t.pos_cnt] at this; omega
  · exact h1
  · have := t.pos_of_lt h1; omega
theorem Joined.cnt_yes {a b ab : Txt} (h : Joined a b ab) (hs : ab.start a.n) : ab.cnt = a.cnt + b.cnt ∧ ab.pos a.cnt = a.n := by
  obtain ⟨k, hk⟩ := hs
  have h1 := h.pos_ahead k (by omega)
  have hc : a.cnt = k := a.cnt_of (by rw [h1]; exact hk)
  refine ⟨ab.cnt_of ?_, by rw [hc]; exact hk⟩
  rw [hc]
  have := h.pos_behind (m := k) (j := 0) (by rw [hk]; simp [Txt.pos]) b.cnt
  rw [this, Nat.zero_add, b.pos_cnt, h.n]
/-- k bytes from p on, none of which begins a sign, are k items. -/
theorem Txt.run (t : Txt) {m p : Nat} (hm : t.pos m = p) : ∀ k, (∀ j, j < k → t.w (p + j) = 1) → t.pos (m + k) = p + k
  | 0, _ => hm
  | k + 1, h => by
    rw [← Nat.add_assoc, Txt.pos, t.run hm k (fun j hj => h j (by omega)), h k (by omega)]; omega
theorem Joined.cnt_no {a b ab : Txt} (h : Joined a b ab) (hs : ¬ ab.start a.n) : ab.cnt < a.cnt + b.cnt := by
  obtain ⟨k, h1, h2⟩ := ab.between a.n
  have h1' : ab.pos k < a.n := Nat.lt_of_le_of_ne h1 fun e => hs ⟨k, e⟩
  rw [Txt.pos] at h2
  have hka := h.pos_ahead k h1
  obtain ⟨p, hp⟩ : ∃ p, p = ab.pos k := ⟨_, rfl⟩
  rw [← hp] at h1' h2 hka
  have hwi := ab.w_in p (by have := h.n; omega)
  rw [h.n] at hwi
  have ca : a.pos (k + (a.n - p)) = p + (a.n - p) := a.run hka (a.n - p) fun j hj => by
    unfold Txt.w
    by_cases e : j = 0
    · subst e; rw [Nat.add_zero, h.beyond h1' h2]
    · have := ab.w_cont p (p + j) (by omega) (by omega)
      rw [h.l _ (by omega)] at this
      rw [a.cont_bad _ this.1 this.2]
  have cb : b.pos (0 + (p + ab.w p - a.n)) = 0 + (p + ab.w p - a.n) := b.run (m := 0) (p := 0) rfl _ fun j hj => by
    have := ab.w_cont p (a.n + j) (by omega) (by omega)
    rw [h.r] at this
    unfold Txt.w
    rw [Nat.zero_add, b.cont_bad _ this.1 this.2]
  rw [Nat.zero_add] at cb
  have ea := a.cnt_of (k := k + (a.n - p)) (by omega)
  have hn1 : ab.pos (k + 1) = a.n + b.pos (p + ab.w p - a.n) := by rw [Txt.pos, ← hp]; omega
  have hbc : p + ab.w p - a.n ≤ b.cnt := by
    apply Nat.le_of_not_lt
    intro hlt
    have := b.pos_lt hlt
    rw [b.pos_cnt] at this; omega
  have key := h.pos_behind hn1 (b.cnt - (p + ab.w p - a.n))
  rw [show p + ab.w p - a.n + (b.cnt - (p + ab.w p - a.n)) = b.cnt by omega, b.pos_cnt, ← h.n] at key
  have ec := ab.cnt_of key
  omega

end Go.Proofs.YtfjlhfalnciamaaDoor.Utf

namespace Go.Proofs.YtfjlhfalnciamaaDoor.Utf
open Go

theorem get_out (s : ByteArray) (i : Nat) (h : s.size ≤ i) : s.get! i = 0 := by
  rw [← Lib.getD_get!', List.getD_eq_getElem?_getD, List.getElem?_eq_none (by rw [← Lib.size_eq]; exact h)]; rfl
def txt (s : ByteArray) : Txt where
  n := s.size
  b i := (s.get! i).toNat
  lt i := (s.get! i).toNat_lt
  out i h := by rw [get_out s i h]; rfl
theorem decode_txt (s : ByteArray) (i : Nat) : Utf8.decode s i = (txt s).dc i := Lib.decode_at s i
theorem txt_tail (s : ByteArray) (p i : Nat) : (txt (s.extract p s.size)).dc i = (txt s).dc (p + i) := by
  rw [← decode_txt, ← decode_txt, Lib.tail_decode]

theorem count_from (s : ByteArray) : ∀ (fuel k : Nat), s.size ≤ (txt s).pos k + fuel → k ≤ (txt s).cnt → Lib.runeCountFrom s fuel ((txt s).pos k) = (txt s).cnt - k
  | 0, k, h, hk => by
    have : (txt s).pos k = (txt s).n := by
      rcases Nat.lt_or_eq_of_le hk with h1 | h1
      · have := (txt s).pos_of_lt h1
        show _ = s.size
        have h2 : (txt s).n = s.size := rfl
        omega
      · rw [h1]; exact (txt s).pos_cnt
    have := (txt s).cnt_of this
    rw [this, Nat.sub_self]; rfl
  | fuel + 1, k, h, hk => by
    unfold Lib.runeCountFrom
    have hn : (txt s).n = s.size := rfl
    by_cases hlt : (txt s).pos k < s.size
    · have hc := (txt s).lt_cnt (show (txt s).pos k < (txt s).n from hlt)
      rw [if_pos hlt, decode_txt]
      have hp := (txt s).pos_lt (show k < k + 1 by omega)
      have ih := count_from s fuel (k + 1) (by omega) (by omega)
      rw [show (txt s).pos (k + 1) = (txt s).pos k + ((txt s).dc ((txt s).pos k)).2 from rfl] at ih
      rw [ih]; omega
    · rw [if_neg hlt]
      have : (txt s).cnt = k := by
        rcases Nat.lt_or_eq_of_le hk with h1 | h1
        · have := (txt s).pos_of_lt h1; omega
        · exact h1.symm
      omega
theorem count_txt (s : ByteArray) : Lib.runeCount s = (txt s).cnt := count_from s s.size 0 (by simp [Txt.pos]) (Nat.zero_le _)

/-- All items are signs. -/
def Txt.right (t : Txt) : Prop := ∀ k, k < t.cnt → t.ok (t.pos k) = true

theorem drop_decode (s : ByteArray) (p : Nat) : Lib.decodeL (s.data.toList.drop p) = (txt s).dc p := by
  unfold Lib.decodeL
  have e : (⟨(s.data.toList.drop p).toArray⟩ : ByteArray) = s.extract p s.size := by
    apply ByteArray.ext
    apply Array.ext'
    rw [Lib.extract_data]
    show s.data.toList.drop p = _
    rw [List.take_of_length_le (by rw [List.length_drop, ← Lib.size_eq]; exact Nat.le_refl _)]
  rw [e, Lib.tail_decode, Nat.add_zero, decode_txt]
theorem valid_from (s : ByteArray) : ∀ (m k : Nat), (txt s).cnt = k + m → (Lib.validD (s.data.toList.drop ((txt s).pos k)) = true ↔ ∀ j, k ≤ j → j < (txt s).cnt → (txt s).ok ((txt s).pos j) = true)
  | 0, k, h => by
    have : (txt s).pos k = s.size := by rw [← show (txt s).cnt = k from h]; exact (txt s).pos_cnt
    rw [this, List.drop_eq_nil_of_le (by rw [Lib.size_eq]; exact Nat.le_refl _)]
    constructor
    · intro _ j h1 h2; omega
    · intro _; rfl
  | m + 1, k, h => by
    have hlt := (txt s).pos_of_lt (show k < (txt s).cnt by omega)
    have hne : s.data.toList.drop ((txt s).pos k) ≠ [] := by
      intro e
      have := congrArg List.length e
      rw [List.length_drop, ← Lib.size_eq] at this
      simp at this
      have hn : (txt s).n = s.size := rfl
      omega
    rw [Lib.validD_step _ hne, drop_decode]
    have ih := valid_from s m (k + 1) (by omega)
    by_cases hb : (txt s).ok ((txt s).pos k) = true
    · have h1 : ¬ (((txt s).dc ((txt s).pos k)).1 = 65533 ∧ ((txt s).dc ((txt s).pos k)).2 = 1) := by
        unfold Txt.ok Txt.r Txt.w at hb; simp at hb; omega
      rw [if_neg h1, List.drop_drop, show (txt s).pos k + ((txt s).dc ((txt s).pos k)).2 = (txt s).pos (k + 1) from rfl, ih]
      constructor
      · intro hh j h1 h2
        by_cases e : j = k
        · subst e; exact hb
        · exact hh j (by omega) h2
      · intro hh j h1 h2; exact hh j (by omega) h2
    · have h1 : ((txt s).dc ((txt s).pos k)).1 = 65533 ∧ ((txt s).dc ((txt s).pos k)).2 = 1 := by
        have hw := (txt s).w_pos ((txt s).pos k)
        unfold Txt.ok Txt.r Txt.w at hb; unfold Txt.w at hw; simp at hb; omega
      rw [if_pos h1]
      constructor
      · intro hh; cases hh
      · intro hh; exact absurd (hh k (Nat.le_refl _) (by omega)) hb
theorem valid_txt (s : ByteArray) : Lib.validD s.data.toList = true ↔ (txt s).right := by
  have := valid_from s (txt s).cnt 0 (by omega)
  simp only [Txt.pos, List.drop_zero] at this
  rw [this]
  exact ⟨fun h j hj => h j (Nat.zero_le _) hj, fun h j _ hj => h j hj⟩

theorem txt_append (a b : ByteArray) : Joined (txt a) (txt b) (txt (a ++ b)) where
  n := by show (a ++ b).size = a.size + b.size; simp
  l i hi := by
    show ((a ++ b).get! i).toNat = (a.get! i).toNat
    rw [← Lib.getD_get!', ← Lib.getD_get!', show (a ++ b).data.toList = a.data.toList ++ b.data.toList by simp, List.getD_eq_getElem?_getD, List.getD_eq_getElem?_getD, List.getElem?_append_left (by rw [← Lib.size_eq]; exact hi)]
  r i := by
    show ((a ++ b).get! (a.size + i)).toNat = (b.get! i).toNat
    rw [← Lib.getD_get!', ← Lib.getD_get!', show (a ++ b).data.toList = a.data.toList ++ b.data.toList by simp, List.getD_eq_getElem?_getD, List.getD_eq_getElem?_getD, List.getElem?_append_right (by rw [← Lib.size_eq]; omega), ← Lib.size_eq, Nat.add_sub_cancel_left]

/-! ### The bytes of a sign -/
def signR (r : Int) : Bool := (0 ≤ r && r < 55296) || (57344 ≤ r && r ≤ 1114111)
/-- The bytes of a sign; of what is none: none. -/
def encN (r : Nat) : List Nat :=
  if ¬ (r < 55296 ∨ (57344 ≤ r ∧ r ≤ 1114111)) then []
  else if r < 128 then [r]
  else if r < 2048 then [192 + r / 64, 128 + r % 64]
  else if r < 65536 then [224 + r / 4096, 128 + r / 64 % 64, 128 + r % 64]
  else [240 + r / 262144, 128 + r / 4096 % 64, 128 + r / 64 % 64, 128 + r % 64]
/-- What ref.At makes of the first n bytes. -/
def packN (b0 b1 b2 b3 : Nat) : Nat → Nat
  | 1 => b0
  | 2 => 64 * (b0 % 32) + b1 % 64
  | 3 => 64 * (64 * (b0 % 16) + b1 % 64) + b2 % 64
  | _ => 64 * (64 * (64 * (b0 % 8) + b1 % 64) + b2 % 64) + b3 % 64
def firstN (b0 b1 b2 b3 : Nat) : Nat → List Nat
  | 1 => [b0]
  | 2 => [b0, b1]
  | 3 => [b0, b1, b2]
  | _ => [b0, b1, b2, b3]
theorem pack_one {b0 b1 b2 b3 : Nat} (h0 : b0 < 256) : encN (packN b0 b1 b2 b3 1) = firstN b0 b1 b2 b3 1 ↔ b0 < 128 := by
  show encN (b0) = [b0] ↔ _
  unfold encN
  repeat' split
  all_goals simp
  all_goals omega
theorem pack_two {b0 b1 b2 b3 : Nat} (h0 : b0 < 256) (h1 : b1 < 256) : encN (packN b0 b1 b2 b3 2) = firstN b0 b1 b2 b3 2 ↔ (194 ≤ b0 ∧ b0 < 224 ∧ 128 ≤ b1 ∧ b1 < 192) := by
  show encN (64 * (b0 % 32) + b1 % 64) = [b0, b1] ↔ _
  unfold encN
  repeat' split
  all_goals simp
  all_goals omega
theorem pack_three {b0 b1 b2 b3 : Nat} (h0 : b0 < 256) (h1 : b1 < 256) (h2 : b2 < 256) : encN (packN b0 b1 b2 b3 3) = firstN b0 b1 b2 b3 3 ↔
    (224 ≤ b0 ∧ b0 < 240 ∧ 128 ≤ b1 ∧ b1 < 192 ∧ 128 ≤ b2 ∧ b2 < 192 ∧ 2048 ≤ b0 % 16 * 4096 + b1 % 64 * 64 + b2 % 64 ∧ (b0 % 16 * 4096 + b1 % 64 * 64 + b2 % 64 < 55296 ∨ 57344 ≤ b0 % 16 * 4096 + b1 % 64 * 64 + b2 % 64)) := by
  show encN (64 * (64 * (b0 % 16) + b1 % 64) + b2 % 64) = [b0, b1, b2] ↔ _
  unfold encN
  repeat' split
  all_goals simp
  all_goals omega
theorem pack_four {b0 b1 b2 b3 : Nat} (h0 : b0 < 256) (h1 : b1 < 256) (h2 : b2 < 256) (h3 : b3 < 256) : encN (packN b0 b1 b2 b3 4) = firstN b0 b1 b2 b3 4 ↔
    (240 ≤ b0 ∧ b0 < 248 ∧ 128 ≤ b1 ∧ b1 < 192 ∧ 128 ≤ b2 ∧ b2 < 192 ∧ 128 ≤ b3 ∧ b3 < 192 ∧ 65536 ≤ b0 % 8 * 262144 + b1 % 64 * 4096 + b2 % 64 * 64 + b3 % 64 ∧ b0 % 8 * 262144 + b1 % 64 * 4096 + b2 % 64 * 64 + b3 % 64 ≤ 1114111) := by
  show encN (64 * (64 * (64 * (b0 % 8) + b1 % 64) + b2 % 64) + b3 % 64) = [b0, b1, b2, b3] ↔ _
  unfold encN
  repeat' split
  all_goals simp
  all_goals omega

/-- A sign of n bytes: just where the bytes are those of what they make. -/
theorem Txt.pack_iff (t : Txt) (i n : Nat) (h1 : 1 ≤ n) (h4 : n ≤ 4) (hn : n ≤ t.n - i) :
    encN (packN (t.b i) (t.b (i + 1)) (t.b (i + 2)) (t.b (i + 3)) n) = firstN (t.b i) (t.b (i + 1)) (t.b (i + 2)) (t.b (i + 3)) n ↔ (t.sign i ∧ t.w i = n) := by
  have l0 := t.lt i; have l1 := t.lt (i + 1); have l2 := t.lt (i + 2); have l3 := t.lt (i + 3)
  have hk := t.kind i
  unfold Txt.sign Txt.w
  have hd : t.dc i = Lib.decodeN (t.n - i) (t.b i) (t.b (i + 1)) (t.b (i + 2)) (t.b (i + 3)) := rfl
  generalize t.dc i = d at hk hd ⊢
  have : n = 1 ∨ n = 2 ∨ n = 3 ∨ n = 4 := by omega
  rcases this with rfl | rfl | rfl | rfl
  · rw [pack_one l0]
    cases hk <;> simp <;> omega
  · rw [pack_two l0 l1]
    constructor
    · rintro ⟨a1, a2, a3, a4⟩
      rw [hd, dec_two a1 a2 (by omega) a3 a4]; simp
    · cases hk <;> simp <;> omega
  · rw [pack_three l0 l1 l2]
    constructor
    · rintro ⟨a1, a2, a3, a4, a5, a6, a7, a8⟩
      rw [hd, dec_three a1 a2 (by omega) a3 a4 a5 a6 a7 a8]; simp
    · cases hk <;> simp <;> omega
  · rw [pack_four l0 l1 l2 l3]
    constructor
    · rintro ⟨a1, a2, a3, a4, a5, a6, a7, a8, a9, a10⟩
      rw [hd, dec_four a1 a2 (by omega) a3 a4 a5 a6 a7 a8 a9 a10]; simp
    · cases hk <;> simp <;> omega
theorem Txt.pack_r (t : Txt) (i : Nat) (hs : t.sign i) : packN (t.b i) (t.b (i + 1)) (t.b (i + 2)) (t.b (i + 3)) (t.w i) = t.r i := by
  have hk := t.kind i
  unfold Txt.sign Txt.w at hs
  unfold Txt.w Txt.r
  generalize t.dc i = d at hk hs ⊢
  cases hk <;> simp [packN] at hs ⊢ <;> omega
/-- A text that begins with a sign's bytes begins with it. -/
theorem Txt.enc (t : Txt) (i r : Nat) (hr : encN r ≠ []) (hl : i + (encN r).length ≤ t.n) (h : ∀ k x, (encN r)[k]? = some x → t.b (i + k) = x) : t.dc i = (r, (encN r).length) := by
  have hv : r < 55296 ∨ (57344 ≤ r ∧ r ≤ 1114111) := by
    unfold encN at hr
    by_cases hv : r < 55296 ∨ (57344 ≤ r ∧ r ≤ 1114111)
    · exact hv
    · rw [if_pos hv] at hr; exact absurd rfl hr
  unfold encN at hl h ⊢
  rw [if_neg (fun hh => hh hv)] at hl h ⊢
  unfold Txt.dc
  by_cases c1 : r < 128
  · rw [if_pos c1] at hl h ⊢
    have e0 := h 0 r rfl
    rw [Nat.add_zero] at e0
    rw [e0]; exact dec_one c1
  rw [if_neg c1] at hl h ⊢
  by_cases c2 : r < 2048
  · rw [if_pos c2] at hl h ⊢
    have e0 := h 0 _ rfl; have e1 := h 1 _ rfl
    rw [Nat.add_zero] at e0
    simp at hl
    rw [dec_two (by omega) (by omega) (by omega) (by omega) (by omega), e0, e1]
    simp; omega
  rw [if_neg c2] at hl h ⊢
  by_cases c3 : r < 65536
  · rw [if_pos c3] at hl h ⊢
    have e0 := h 0 _ rfl; have e1 := h 1 _ rfl; have e2 := h 2 _ rfl
    rw [Nat.add_zero] at e0
    simp at hl
    have key : t.b i % 16 * 4096 + t.b (i + 1) % 64 * 64 + t.b (i + 2) % 64 = r := by omega
    rw [dec_three (by omega) (by omega) (by omega) (by omega) (by omega) (by omega) (by omega) (by omega) (by omega), key]
    rfl
  · rw [if_neg c3] at hl h ⊢
    have e0 := h 0 _ rfl; have e1 := h 1 _ rfl; have e2 := h 2 _ rfl; have e3 := h 3 _ rfl
    rw [Nat.add_zero] at e0
    simp at hl
    have key : t.b i % 8 * 262144 + t.b (i + 1) % 64 * 4096 + t.b (i + 2) % 64 * 64 + t.b (i + 3) % 64 = r := by omega
    rw [dec_four (by omega) (by omega) (by omega) (by omega) (by omega) (by omega) (by omega) (by omega) (by omega) (by omega) (by omega), key]
    rfl

end Go.Proofs.YtfjlhfalnciamaaDoor.Utf

namespace Go.Proofs.YtfjlhfalnciamaaDoor.Utf
open Go

def digH (d : Nat) : UInt8 := UInt8.ofNat (if d < 10 then 48 + d else 87 + d)
/-- A byte's number in digits of base 16. -/
def hexL (n : Nat) : List UInt8 := if n < 16 then [digH n] else [digH (n / 16), digH (n % 16)]
def numb (n : Nat) : List UInt8 := [92, 117, 123] ++ hexL n ++ [125]
/-- How the first item of a text is shown. -/
def piece (l : List UInt8) : List UInt8 :=
  if (Lib.decodeL l).1 = 65533 ∧ (Lib.decodeL l).2 = 1 then numb (l.getD 0 0).toNat
  else if (Lib.decodeL l).1 = 92 then [92, 92]
  else if (Lib.decodeL l).1 < 32 ∨ (Lib.decodeL l).1 = 127 then numb (Lib.decodeL l).1
  else l.take (Lib.decodeL l).2
def showG : Nat → List UInt8 → List UInt8
  | 0, _ => []
  | n + 1, l => if l = [] then [] else piece l ++ showG n (l.drop (Lib.decodeL l).2)
def showL (l : List UInt8) : List UInt8 := showG l.length l

theorem decodeL_txt (l : List UInt8) : Lib.decodeL l = (txt ⟨l.toArray⟩).dc 0 := decode_txt _ 0
theorem txt_n (l : List UInt8) : (txt ⟨l.toArray⟩).n = l.length := rfl
theorem txt_b (l : List UInt8) (i : Nat) : (txt ⟨l.toArray⟩).b i = (l.getD i 0).toNat := by
  show ((⟨l.toArray⟩ : ByteArray).get! i).toNat = _
  rw [← Lib.getD_get!']

theorem decL_pos (l : List UInt8) : 1 ≤ (Lib.decodeL l).2 := by rw [decodeL_txt]; exact (txt _).w_pos 0
theorem decL_le (l : List UInt8) (h : l ≠ []) : (Lib.decodeL l).2 ≤ l.length := by
  rw [decodeL_txt]
  have := (txt ⟨l.toArray⟩).w_in 0 (by rw [txt_n]; exact List.length_pos_iff.2 h)
  rw [txt_n, Nat.zero_add] at this
  exact this

theorem showG_fuel : ∀ (n m : Nat) (l : List UInt8), l.length ≤ n → l.length ≤ m → showG n l = showG m l
  | 0, m, l, hn, _ => by
    have : l = [] := List.eq_nil_of_length_eq_zero (by omega)
    subst this
    cases m <;> simp [showG]
  | n + 1, 0, l, _, hm => by
    have : l = [] := List.eq_nil_of_length_eq_zero (by omega)
    subst this
    simp [showG]
  | n + 1, m + 1, l, hn, hm => by
    unfold showG
    by_cases hne : l = []
    · rw [if_pos hne, if_pos hne]
    · have hp := decL_pos l
      rw [if_neg hne, if_neg hne, showG_fuel n m _ (by rw [List.length_drop]; omega) (by rw [List.length_drop]; omega)]
theorem showL_nil : showL [] = [] := rfl
theorem showL_step (l : List UInt8) (h : l ≠ []) : showL l = piece l ++ showL (l.drop (Lib.decodeL l).2) := by
  have hl := List.length_pos_iff.2 h
  have hp := decL_pos l
  unfold showL
  obtain ⟨n, hn⟩ : ∃ n, l.length = n + 1 := ⟨l.length - 1, by omega⟩
  rw [hn]
  show (if l = [] then [] else _) = _
  rw [if_neg h, showG_fuel n (l.drop (Lib.decodeL l).2).length _ (by rw [List.length_drop]; omega) (Nat.le_refl _)]

/-! ### The first item -/
inductive Head (l : List UInt8) : Prop
  | plain : piece l = l.take (Lib.decodeL l).2 → 32 ≤ (Lib.decodeL l).1 → (Lib.decodeL l).1 ≠ 127 → (Lib.decodeL l).1 ≠ 92 → (txt ⟨l.toArray⟩).sign 0 → Head l
  | back : piece l = [92, 92] → l = 92 :: l.drop (Lib.decodeL l).2 → Head l
  | num (n : Nat) : n < 256 → (n < 32 ∨ 127 ≤ n) → piece l = numb n → l = UInt8.ofNat n :: l.drop (Lib.decodeL l).2 → Head l

theorem cons_of {l : List UInt8} (h : l ≠ []) : l = l.getD 0 0 :: l.drop 1 := by
  cases l with
  | nil => exact absurd rfl h
  | cons a r => rfl
theorem head_of (l : List UInt8) (h : l ≠ []) : Head l := by
  have hl := List.length_pos_iff.2 h
  have hk := (txt ⟨l.toArray⟩).kind 0
  have hc := cons_of h
  have e0 := txt_b l 0
  have hs : (txt ⟨l.toArray⟩).sign 0 ↔ ((txt ⟨l.toArray⟩).b 0 < 128 ∨ 2 ≤ (Lib.decodeL l).2) := by unfold Txt.sign Txt.w; rw [decodeL_txt]
  rw [← decodeL_txt] at hk
  simp only [Nat.zero_add] at hk
  have hp : piece l = if (Lib.decodeL l).1 = 65533 ∧ (Lib.decodeL l).2 = 1 then numb (l.getD 0 0).toNat
    else if (Lib.decodeL l).1 = 92 then [92, 92]
    else if (Lib.decodeL l).1 < 32 ∨ (Lib.decodeL l).1 = 127 then numb (Lib.decodeL l).1
    else l.take (Lib.decodeL l).2 := rfl
  obtain ⟨X, hX⟩ : ∃ X, Lib.decodeL l = X := ⟨_, rfl⟩
  rw [hX] at hk hp hs
  have hb : (txt ⟨l.toArray⟩).b 0 = (l.getD 0 0).toNat := e0
  have hlt := (txt ⟨l.toArray⟩).lt 0
  have hof : UInt8.ofNat (l.getD 0 0).toNat = l.getD 0 0 := by simp
  have big : (2 ≤ X.2) → 128 ≤ X.1 → ¬ (X.1 = 65533 ∧ X.2 = 1) → Head l := fun a1 a2 a3 => by
    rw [if_neg a3, if_neg (by omega), if_neg (by omega)] at hp
    exact .plain (by rw [hX]; exact hp) (by rw [hX]; omega) (by rw [hX]; omega) (by rw [hX]; omega) (hs.2 (.inr a1))
  cases hk with
  | one c =>
    rw [hb] at hp c hX
    have hno : ¬ (((l.getD 0 0).toNat, 1).1 = 65533 ∧ ((l.getD 0 0).toNat, 1).2 = 1) := fun hh => by
      have h9 : (l.getD 0 0).toNat = 65533 := hh.1
      omega
    rw [if_neg hno] at hp
    by_cases c1 : (l.getD 0 0).toNat = 92
    · rw [if_pos c1] at hp
      refine .back hp ?_
      rw [hX]
      conv => lhs; rw [hc]
      rw [← hof, c1]; rfl
    rw [if_neg c1] at hp
    by_cases c2 : (l.getD 0 0).toNat < 32 ∨ (l.getD 0 0).toNat = 127
    · rw [if_pos c2] at hp
      refine .num _ (by omega) (by omega) hp ?_
      rw [hX]
      conv => lhs; rw [hc]
      rw [hof]
    · rw [if_neg c2] at hp
      exact .plain (by rw [hX]; exact hp) (by rw [hX]; show 32 ≤ (l.getD 0 0).toNat; omega) (by rw [hX]; show (l.getD 0 0).toNat ≠ 127; omega) (by rw [hX]; exact c1) (hs.2 (.inl (by rw [hb]; exact c)))
  | bad c =>
    rw [hb] at c hlt
    rw [if_pos ⟨rfl, rfl⟩] at hp
    refine .num _ hlt (by omega) hp ?_
    rw [hX]
    conv => lhs; rw [hc]
    rw [hof]
  | two => exact big (by simp) (by simp; omega) (by simp)
  | three => exact big (by simp) (by simp; omega) (by simp)
  | four => exact big (by simp) (by simp; omega) (by simp)

/-- A sign that stands first stands first whatever is behind it. -/
theorem plain_first {l r : List UInt8} (h : l ≠ []) (hs : (txt ⟨l.toArray⟩).sign 0) : Lib.decodeL (l.take (Lib.decodeL l).2 ++ r) = Lib.decodeL l := by
  have hle := decL_le l h
  rw [decodeL_txt (_ ++ r)]
  conv => rhs; rw [decodeL_txt]
  have hw : (txt ⟨l.toArray⟩).w 0 = (Lib.decodeL l).2 := by unfold Txt.w; rw [← decodeL_txt]
  refine Txt.moved _ _ 0 0 hs ?_ fun k hk => ?_
  · rw [txt_n, hw, List.length_append, List.length_take]; omega
  · rw [hw] at hk
    rw [txt_b, txt_b]
    rw [List.getD_eq_getElem?_getD, List.getD_eq_getElem?_getD, List.getElem?_append_left (by rw [List.length_take]; omega), List.getElem?_take_of_lt (by omega)]

/-! ### What is shown is right, and can be seen -/
theorem dig_of {d : Nat} (h : d < 16) : (digH d).toNat = if d < 10 then 48 + d else 87 + d := by
  unfold digH
  rw [UInt8.toNat_ofNat']
  split <;> omega
theorem dig_lo {d : Nat} (h : d < 16) : 48 ≤ (digH d).toNat ∧ (digH d).toNat < 104 := by
  rw [dig_of h]; split <;> omega
theorem dig_inj {a b : Nat} (ha : a < 16) (hb : b < 16) (h : digH a = digH b) : a = b := by
  have := congrArg UInt8.toNat h
  rw [dig_of ha, dig_of hb] at this
  split at this <;> split at this <;> omega
theorem hex_seen {n : Nat} (hn : n < 256) : ∀ c ∈ hexL n, 48 ≤ c.toNat ∧ c.toNat < 104 := by
  unfold hexL
  split
  · intro c hc; simp at hc; subst hc; exact dig_lo (by omega)
  · intro c hc; simp at hc; rcases hc with rfl | rfl
    · exact dig_lo (by omega)
    · exact dig_lo (by omega)
theorem numb_seen {n : Nat} (hn : n < 256) : ∀ c ∈ numb n, 32 ≤ c.toNat ∧ c.toNat < 127 := by
  intro c hc
  unfold numb at hc
  simp at hc
  rcases hc with rfl | rfl | rfl | hc | rfl
  · decide
  · decide
  · decide
  · have := hex_seen hn c hc; omega
  · decide
theorem plain_seen {l : List UInt8} (h1 : 32 ≤ (Lib.decodeL l).1) (h2 : (Lib.decodeL l).1 ≠ 127) (hs : (txt ⟨l.toArray⟩).sign 0) : ∀ c ∈ l.take (Lib.decodeL l).2, 32 ≤ c.toNat ∧ c.toNat ≠ 127 := by
  intro c hc
  obtain ⟨i, hi⟩ := List.getElem?_of_mem hc
  have hil := (List.getElem?_eq_some_iff.1 hi).1
  rw [List.length_take] at hil
  rw [List.getElem?_take_of_lt (by omega)] at hi
  have hb : (txt ⟨l.toArray⟩).b i = c.toNat := by rw [txt_b, List.getD_eq_getElem?_getD, hi]; rfl
  have hw : (txt ⟨l.toArray⟩).w 0 = (Lib.decodeL l).2 := by unfold Txt.w; rw [← decodeL_txt]
  rw [← hb]
  by_cases h0 : i = 0
  · subst h0
    rcases hs with hs | hs
    · have hk := (txt ⟨l.toArray⟩).kind 0
      rw [← decodeL_txt] at hk
      generalize Lib.decodeL l = X at hk h1 h2
      cases hk <;> simp at h1 h2 <;> omega
    · have := (txt ⟨l.toArray⟩).w_lead 0 hs; omega
  · have := (txt ⟨l.toArray⟩).w_cont 0 i (by omega) (by omega); omega
theorem valid_asc : ∀ (p r : List UInt8), (∀ c ∈ p, c.toNat < 128) → Lib.validD (p ++ r) = Lib.validD r
  | [], r, _ => rfl
  | c :: p, r, h => by
    rw [List.cons_append, Lib.validD_cons c _ (h c (by simp))]
    exact valid_asc p r fun x hx => h x (by simp [hx])

theorem show_ind {P : List UInt8 → Prop} (h0 : P []) (h1 : ∀ l, l ≠ [] → P (l.drop (Lib.decodeL l).2) → P l) : ∀ (n : Nat) (l : List UInt8), l.length ≤ n → P l
  | 0, l, h => by
    have : l = [] := List.eq_nil_of_length_eq_zero (by omega)
    rw [this]; exact h0
  | n + 1, l, h => by
    by_cases hne : l = []
    · rw [hne]; exact h0
    · exact h1 l hne (show_ind h0 h1 n _ (by have := decL_pos l; rw [List.length_drop]; omega))

theorem show_seen (l : List UInt8) : ∀ c ∈ showL l, 32 ≤ c.toNat ∧ c.toNat ≠ 127 := by
  refine show_ind (P := fun l => ∀ c ∈ showL l, 32 ≤ c.toNat ∧ c.toNat ≠ 127) (by simp [showL_nil]) ?_ l.length l (Nat.le_refl _)
  intro l hne ih c hc
  rw [showL_step l hne, List.mem_append] at hc
  rcases hc with hc | hc
  · cases head_of l hne with
    | plain a b c' d e => rw [a] at hc; exact plain_seen b c' e c hc
    | back a b => rw [a] at hc; simp at hc; subst hc; decide
    | num n a b c' d => rw [c'] at hc; have := numb_seen a c hc; omega
  · exact ih c hc
theorem show_valid (l : List UInt8) : Lib.validD (showL l) = true := by
  refine show_ind (P := fun l => Lib.validD (showL l) = true) rfl ?_ l.length l (Nat.le_refl _)
  intro l hne ih
  rw [showL_step l hne]
  cases head_of l hne with
  | plain a b c d e =>
    rw [a]
    have hf := plain_first (r := showL (l.drop (Lib.decodeL l).2)) hne e
    have hle := decL_le l hne
    have hp := decL_pos l
    have hlen : (l.take (Lib.decodeL l).2).length = (Lib.decodeL l).2 := by rw [List.length_take]; omega
    have hne2 : l.take (Lib.decodeL l).2 ++ showL (l.drop (Lib.decodeL l).2) ≠ [] := by
      intro h0
      have := congrArg List.length h0
      rw [List.length_append, hlen] at this
      simp at this; omega
    rw [Lib.validD_step _ hne2, hf]
    have hno : ¬ ((Lib.decodeL l).1 = 65533 ∧ (Lib.decodeL l).2 = 1) := by
      have := (txt ⟨l.toArray⟩).ok_iff 0
      have h3 := this.2 e
      unfold Txt.ok Txt.r Txt.w at h3
      rw [← decodeL_txt] at h3
      simp at h3; omega
    rw [if_neg hno, List.drop_append_of_le_length (by omega), List.drop_of_length_le (by omega), List.nil_append]
    exact ih
  | back a b => rw [a, valid_asc _ _ (by decide)]; exact ih
  | num n a b c d => rw [c, valid_asc _ _ (fun c hc => by have := numb_seen a c hc; omega)]; exact ih

theorem numb_inj {n m : Nat} {x y : List UInt8} (hn : n < 256) (hm : m < 256) (h : numb n ++ x = numb m ++ y) : n = m ∧ x = y := by
  have key : ∀ {d : Nat}, d < 16 → digH d ≠ 125 := fun hd e => by
    have := dig_lo hd; rw [e] at this; simp at this
  unfold numb hexL at h
  by_cases c1 : n < 16 <;> by_cases c2 : m < 16
  · rw [if_pos c1, if_pos c2] at h
    simp at h
    exact ⟨dig_inj c1 c2 h.1, h.2⟩
  · rw [if_pos c1, if_neg c2] at h
    simp at h
    exact absurd h.2.1.symm (key (by omega))
  · rw [if_neg c1, if_pos c2] at h
    simp at h
    exact absurd h.2.1 (key (by omega))
  · rw [if_neg c1, if_neg c2] at h
    simp at h
    have e1 := dig_inj (by omega) (by omega) h.1
    have e2 := dig_inj (by omega) (by omega) h.2.1
    exact ⟨by omega, h.2.2⟩
theorem plain_ne {l r : List UInt8} (h : l ≠ []) (h1 : (Lib.decodeL l).1 ≠ 92) (hs : (txt ⟨l.toArray⟩).sign 0) : ∃ c q, l.take (Lib.decodeL l).2 ++ r = c :: q ∧ c ≠ 92 := by
  have hp := decL_pos l
  cases l with
  | nil => exact absurd rfl h
  | cons c q =>
    obtain ⟨k, hk⟩ : ∃ k, (Lib.decodeL (c :: q)).2 = k + 1 := ⟨(Lib.decodeL (c :: q)).2 - 1, by omega⟩
    rw [hk]
    refine ⟨c, _, rfl, fun e => ?_⟩
    subst e
    have hk := (txt ⟨((92 : UInt8) :: q).toArray⟩).kind 0
    rw [← decodeL_txt] at hk
    have hb := txt_b ((92 : UInt8) :: q) 0
    have hb' : (txt ⟨((92 : UInt8) :: q).toArray⟩).b 0 = 92 := hb
    rw [hb'] at hk
    generalize Lib.decodeL ((92 : UInt8) :: q) = X at hk h1
    cases hk <;> simp at h1 <;> omega
theorem piece_ne (l : List UInt8) (h : l ≠ []) : piece l ≠ [] := by
  cases head_of l h with
  | plain a b c d e =>
    rw [a]; intro h0
    have := congrArg List.length h0
    rw [List.length_take, List.length_nil] at this
    have h1 := decL_pos l; have h2 := decL_le l h
    omega
  | back a b => rw [a]; simp
  | num n a b c d => rw [c]; simp [numb]
theorem show_inj : ∀ (n : Nat) (l m : List UInt8), l.length ≤ n → showL l = showL m → l = m
  | n, l, m, hn, h => by
    by_cases hl : l = []
    · subst hl
      by_cases hm : m = []
      · exact hm.symm
      · rw [showL_nil, showL_step m hm] at h
        exact absurd (List.append_eq_nil_iff.1 h.symm).1 (piece_ne m hm)
    by_cases hm : m = []
    · subst hm
      rw [showL_nil, showL_step l hl] at h
      exact absurd (List.append_eq_nil_iff.1 h).1 (piece_ne l hl)
    have hp := decL_pos l
    have hll := List.length_pos_iff.2 hl
    obtain ⟨k, rfl⟩ : ∃ k, n = k + 1 := ⟨n - 1, by omega⟩
    have ih := show_inj k (l.drop (Lib.decodeL l).2) (m.drop (Lib.decodeL m).2) (by rw [List.length_drop]; omega)
    rw [showL_step l hl, showL_step m hm] at h
    cases head_of l hl with
    | plain a1 b1 c1 d1 e1 =>
      rw [a1] at h
      cases head_of m hm with
      | plain a2 b2 c2 d2 e2 =>
        rw [a2] at h
        have f1 := plain_first (r := showL (l.drop (Lib.decodeL l).2)) hl e1
        have f2 := plain_first (r := showL (m.drop (Lib.decodeL m).2)) hm e2
        rw [h, f2] at f1
        have g1 := decL_le l hl; have g2 := decL_le m hm
        have hi := List.append_inj h (by rw [List.length_take, List.length_take, f1]; rw [f1] at g2; omega)
        have hd := ih hi.2
        rw [← List.take_append_drop (Lib.decodeL l).2 l, ← List.take_append_drop (Lib.decodeL m).2 m, hi.1, hd]
      | back a2 b2 =>
        obtain ⟨c, q, hc, hcn⟩ := plain_ne (r := showL (l.drop (Lib.decodeL l).2)) hl d1 e1
        rw [a2, hc] at h; simp at h; exact absurd h.1 hcn
      | num n2 a2 b2 c2 d2 =>
        obtain ⟨c, q, hc, hcn⟩ := plain_ne (r := showL (l.drop (Lib.decodeL l).2)) hl d1 e1
        rw [c2, hc] at h; simp [numb] at h; exact absurd h.1 hcn
    | back a1 b1 =>
      rw [a1] at h
      cases head_of m hm with
      | plain a2 b2 c2 d2 e2 =>
        obtain ⟨c, q, hc, hcn⟩ := plain_ne (r := showL (m.drop (Lib.decodeL m).2)) hm d2 e2
        rw [a2, hc] at h; simp at h; exact absurd h.1.symm hcn
      | back a2 b2 =>
        rw [a2] at h; simp at h
        rw [b1, b2, ih h]
      | num n2 a2 b2 c2 d2 => rw [c2] at h; simp [numb] at h
    | num n1 a1 b1 c1 d1 =>
      rw [c1] at h
      cases head_of m hm with
      | plain a2 b2 c2 d2 e2 =>
        obtain ⟨c, q, hc, hcn⟩ := plain_ne (r := showL (m.drop (Lib.decodeL m).2)) hm d2 e2
        rw [a2, hc] at h; simp [numb] at h; exact absurd h.1.symm hcn
      | back a2 b2 => rw [a2] at h; simp [numb] at h
      | num n2 a2 b2 c2 d2 =>
        rw [c2] at h
        have hi := numb_inj a1 a2 h
        rw [d1, d2, hi.1, ih hi.2]

end Go.Proofs.YtfjlhfalnciamaaDoor.Utf

namespace Go.Proofs.YtfjlhfalnciamaaDoor.Utf
open Go Go.RowKit

def U8 (w : World) : Prop := Lib.Utf8Tabs 0 1 w
theorem U8.stay {w w' : World} (h : U8 w) (hb : Below w.heap.size w w') : U8 w' := Utf8Tabs_below h hb

/-- An item, as a value. -/
def itemV (t : Txt) (k : Nat) : Value := .agg #[.int .i64 (k : Int), .int .i64 (t.w k : Int), .int .i32 (t.r k : Int), .bool (t.ok k)]
def noItem : Value := .agg #[.int .i64 0, .int .i64 0, .int .i32 0, .bool false]

theorem Txt.r_lt (t : Txt) (i : Nat) : t.r i < 1114112 := by
  have h := t.kind i; have h0 := t.lt i; unfold Txt.r; generalize t.dc i = d at h
  cases h <;> simp <;> omega

theorem go_dec (s : ByteArray) (k : Nat) (hk : k < s.size) : Lib.decodeGo (s.extract k s.size) = ((txt s).r k, (txt s).w k) := by
  unfold Lib.decodeGo
  have hz : (s.extract k s.size).size = s.size - k := Lib.tail_size s k
  rw [if_neg (by omega), Lib.tail_decode, Nat.add_zero, decode_txt]; rfl

set_option maxRecDepth 100000 in
theorem at_in (s : ByteArray) (k : Nat) (W : World) (T : U8 W) (hk : k < s.size) :
    Calls Tryd.prog 84 #[.string s, .int .i64 (k : Int)] W fun e W' => e = .returned (itemV (txt s) k) ∧ Below W.heap.size W W' := by
  have hr := (txt s).r_lt k
  have hw := (txt s).w_pos k
  have hw4 := (txt s).w_le k
  have hok : (txt s).ok k = (decide ((txt s).r k ≠ 65533) || decide (1 < (txt s).w k)) := rfl
  have hd := go_dec s k hk
  unfold itemV
  obtain ⟨R, hR⟩ : ∃ R, (txt s).r k = R := ⟨_, rfl⟩
  obtain ⟨K, hK⟩ : ∃ K, (txt s).w k = K := ⟨_, rfl⟩
  obtain ⟨O, hO⟩ : ∃ O, (txt s).ok k = O := ⟨_, rfl⟩
  rw [hR, hK] at hok hd
  rw [hR] at hr
  rw [hK] at hw hw4
  rw [hR, hK, hO]
  rw [hO] at hok
  have HO := Lib.hid hok
  have HD := Lib.hid hd
  have hB0 : Below W.heap.size W (W.alloc (.cells #[.int .i64 0, .int .i64 0, .int .i32 0, .bool false] 110)) := (Below.refl _ _).alloc (Nat.le_refl _) _
  have HC := Lib.hid (Tryd.utf8_DecodeRuneInString (s.extract k s.size) _ (T.stay hB0))
  rw [HD.out] at HC
  have h0 : ¬ (k : Int) < 0 := by omega
  have h0d : decide ((k : Int) < 0) = false := decide_eq_false h0
  have h1 : ¬ (s.size : Int) ≤ k := by omega
  have h1d : decide ((s.size : Int) ≤ (k : Int)) = false := decide_eq_false h1
  clear hR hK hO hok hd hB0 T
  go_enter Tryd.func84, Tryd.ntmps84
  go_wp2_with fail
  refine HC.out.mono ?_
  rintro e w1 ⟨rfl, hb⟩
  have hc : w1.cell? ⟨W.heap.size, 0, none⟩ = some (.int .i64 0) := (hb.cell (p := ⟨W.heap.size, 0, none⟩) (by simp)).trans (by simp)
  have hB0 : Below W.heap.size W (W.alloc (.cells #[.int .i64 0, .int .i64 0, .int .i32 0, .bool false] 110)) := (Below.refl _ _).alloc (Nat.le_refl _) _
  have hbl : w1.heap[W.heap.size]? = some (.cells #[.int .i64 0, .int .i64 0, .int .i32 0, .bool false] 110 (0, 0)) := (hb.block _ (by simp)).trans (heap_alloc_new W _)
  have hl1 : W.heap.size < w1.heap.size := Nat.lt_of_lt_of_le (by simp) hb.size
  have c0 : w1.cell? ⟨W.heap.size, 0, none⟩ = some (.int .i64 0) := by rw [Lib.cell_of_heap hbl]; rfl
  have c1 : w1.cell? ⟨W.heap.size, 1, none⟩ = some (.int .i64 0) := by rw [Lib.cell_of_heap hbl]; rfl
  have c2 : w1.cell? ⟨W.heap.size, 2, none⟩ = some (.int .i32 0) := by rw [Lib.cell_of_heap hbl]; rfl
  have c3 : w1.cell? ⟨W.heap.size, 3, none⟩ = some (.bool false) := by rw [Lib.cell_of_heap hbl]; rfl
  have f0 := Lib.frozen_of_heap hbl 0
  have f1 := Lib.frozen_of_heap hbl 1
  have f2 := Lib.frozen_of_heap hbl 2
  have f3 := Lib.frozen_of_heap hbl 3
  have hB1 := Lib.hid (hB0.trans (hb.mono (by simp)))
  have key : ∀ v0 v1 v2 v3, Below W.heap.size W ((((w1.setCell ⟨W.heap.size, 0, none⟩ v0).setCell ⟨W.heap.size, 1, none⟩ v1).setCell ⟨W.heap.size, 2, none⟩ v2).setCell ⟨W.heap.size, 3, none⟩ v3) := fun v0 v1 v2 v3 =>
    (((hB1.out.setCell (p := ⟨W.heap.size, 0, none⟩) (Nat.le_refl _) _).setCell (p := ⟨W.heap.size, 1, none⟩) (Nat.le_refl _) _).setCell (p := ⟨W.heap.size, 2, none⟩) (Nat.le_refl _) _).setCell (p := ⟨W.heap.size, 3, none⟩) (Nat.le_refl _) _
  have KEY := Lib.hid key
  clear hb HD HC hbl hB0 hc key
  by_cases hr1 : R = 65533
  · have e1 : ((R : Int) != 65533) = false := by rw [hr1]; rfl
    by_cases hk1 : 1 < K
    · have e2 : decide ((1 : Int) < K) = true := decide_eq_true (by omega)
      have HT : Hid (O = true) := by rw [HO.out, decide_eq_true hk1, Bool.or_true]; exact rfl
      clear hr1
      go_wp2
      refine bodyPost_ret (v := .agg #[.int .i64 (k : Int), .int .i64 (K : Int), .int .i32 (R : Int), .bool true]) (by simp [results, Tryd.results84, go_sem, c0, c1, c2, c3]) rfl ⟨by rw [HT.out], KEY.out _ _ _ _⟩
    · have e2 : decide ((1 : Int) < K) = false := decide_eq_false (by omega)
      have HT : Hid (O = false) := by rw [HO.out, decide_eq_false hk1, decide_eq_false (by omega)]; exact rfl
      clear hr1
      go_wp2
      refine bodyPost_ret (v := .agg #[.int .i64 (k : Int), .int .i64 (K : Int), .int .i32 (R : Int), .bool false]) (by simp [results, Tryd.results84, go_sem, c0, c1, c2, c3]) rfl ⟨by rw [HT.out], KEY.out _ _ _ _⟩
  · have e1 : ((R : Int) != 65533) = true := by rw [bne_iff_ne]; omega
    have HT : Hid (O = true) := by rw [HO.out, decide_eq_true hr1]; exact rfl
    clear hr1
    go_wp2
    refine bodyPost_ret (v := .agg #[.int .i64 (k : Int), .int .i64 (K : Int), .int .i32 (R : Int), .bool true]) (by simp [results, Tryd.results84, go_sem, c0, c1, c2, c3]) rfl ⟨by rw [HT.out], KEY.out _ _ _ _⟩

set_option maxRecDepth 100000 in
theorem at_out (s : ByteArray) (a : Int) (W : World) (h : a < 0 ∨ (s.size : Int) ≤ a) :
    Calls Tryd.prog 84 #[.string s, .int .i64 a] W fun e W' => e = .returned noItem ∧ Below W.heap.size W W' := by
  unfold noItem
  have hB0 : Below W.heap.size W (W.alloc (.cells #[.int .i64 0, .int .i64 0, .int .i32 0, .bool false] 110)) := (Below.refl _ _).alloc (Nat.le_refl _) _
  have key : ∀ v0 v1 v2 v3, Below W.heap.size W (((((W.alloc (.cells #[.int .i64 0, .int .i64 0, .int .i32 0, .bool false] 110)).setCell ⟨W.heap.size, 0, none⟩ v0).setCell ⟨W.heap.size, 1, none⟩ v1).setCell ⟨W.heap.size, 2, none⟩ v2).setCell ⟨W.heap.size, 3, none⟩ v3) := fun v0 v1 v2 v3 =>
    (((hB0.setCell (p := ⟨W.heap.size, 0, none⟩) (Nat.le_refl _) _).setCell (p := ⟨W.heap.size, 1, none⟩) (Nat.le_refl _) _).setCell (p := ⟨W.heap.size, 2, none⟩) (Nat.le_refl _) _).setCell (p := ⟨W.heap.size, 3, none⟩) (Nat.le_refl _) _
  have KEY := Lib.hid key
  have HB := Lib.hid hB0
  clear hB0 key
  by_cases h0 : a < 0
  · have e1 : decide (a < 0) = true := decide_eq_true h0
    clear h
    go_enter Tryd.func84, Tryd.ntmps84
    go_wp2
    refine bodyPost_ret (v := .agg #[.int .i64 0, .int .i64 0, .int .i32 0, .bool false]) (by simp [results, Tryd.results84, go_sem]) rfl ⟨rfl, ?_⟩
    first | exact KEY.out _ _ _ _ | exact HB.out
  · have e1 : decide (a < 0) = false := decide_eq_false h0
    have h1 : (s.size : Int) ≤ a := by omega
    have e2 : decide ((s.size : Int) ≤ a) = true := decide_eq_true h1
    clear h
    go_enter Tryd.func84, Tryd.ntmps84
    go_wp2
    refine bodyPost_ret (v := .agg #[.int .i64 0, .int .i64 0, .int .i32 0, .bool false]) (by simp [results, Tryd.results84, go_sem]) rfl ⟨rfl, ?_⟩
    first | exact KEY.out _ _ _ _ | exact HB.out

end Go.Proofs.YtfjlhfalnciamaaDoor.Utf

namespace Go.Proofs.YtfjlhfalnciamaaDoor.Utf
open Go Go.RowKit

/-- A sign's bytes, as a string; of what is none: the empty one. -/
def encB (r : Int) : ByteArray := if Lib.validRune r then Utf8.encode r else ⟨#[]⟩
theorem valid_iff (r : Int) : Lib.validRune r = true ↔ (0 ≤ r ∧ r < 55296) ∨ (57343 < r ∧ r ≤ 1114111) := by
  unfold Lib.validRune; rw [decide_eq_true_eq]

def ofInts (ns : List Int) : ByteArray := ⟨(ns.map fun n => UInt8.ofNat n.toNat).toArray⟩
/-- The bytes of a sign are the document's. -/
theorem enc_bytes (r : Nat) (hv : Lib.validRune (r : Int) = true) : encB (r : Int) = ofInts ((encN r).map Int.ofNat) := by
  have h := (valid_iff _).1 hv
  unfold encB Utf8.encode encN
  rw [hv]
  have : Utf8.valid (r : Int) = true := by unfold Utf8.valid; simp; omega
  simp only [this, if_true, Int.toNat_natCast]
  rw [if_neg (by omega : ¬ ¬ (r < 55296 ∨ (57344 ≤ r ∧ r ≤ 1114111)))]
  repeat' split
  all_goals first | rfl | omega

set_option maxRecDepth 100000 in
theorem enc_any (r : Int) (W : World) : Calls Tryd.prog 80 #[.int .i32 r] W fun e W' => e = .returned (.tuple #[.string (encB r), .bool (Lib.validRune r)]) ∧ W = W' := by
  have HV := Lib.hid (Tryd.utf8_ValidRune r W)
  unfold encB
  cases hv : Lib.validRune r with
  | true =>
    rw [hv] at HV
    clear hv
    go_enter Tryd.func80, Tryd.ntmps80
    go_wp2_with fail
    refine HV.out.mono ?_
    rintro e w1 ⟨rfl, rfl⟩
    go_wp2
    go_ret2
    exact ⟨rfl, rfl⟩
  | false =>
    rw [hv] at HV
    clear hv
    go_enter Tryd.func80, Tryd.ntmps80
    go_wp2_with fail
    refine HV.out.mono ?_
    rintro e w1 ⟨rfl, rfl⟩
    go_wp2
    go_ret2
    exact ⟨rfl, rfl⟩

end Go.Proofs.YtfjlhfalnciamaaDoor.Utf

namespace Go.Proofs.YtfjlhfalnciamaaDoor.Utf
open Go Go.RowKit

/-! ### The builder: what it holds, written on -/
theorem sizeB : (Tryd.prog.info? 99).map (·.size) = some 2 := by kernel_rfl
theorem liesB : liesAt Tryd.prog Tryd.prog.depth 99 (2 / Tryd.prog.cellsOf 99) 0 99 1 = true := by kernel_rfl
theorem infoU8 : (Tryd.prog.info? 5).map (fun i => (i.zero, i.size, i.bytes)) = some (some (.int .u8 0), 1, 1) := by kernel_rfl

set_option maxRecDepth 100000 in
theorem check_used (b : Nat) (w : World) (h0 : w.cell? ⟨b, 0, none⟩ = some (.pointer (some ⟨b, 0, none⟩))) :
    Calls Tryd.prog 85 #[.pointer (some ⟨b, 0, none⟩)] w fun e w' => e = .returned (.tuple #[]) ∧ w = w' := by
  obtain ⟨j, hj, _⟩ := Option.map_eq_some_iff.1 sizeB
  go_enter Tryd.func85, Tryd.ntmps85
  go_wp2
  rw [Lib.run_neq_ptr_same w _ Tryd.underlying96 hj]
  go_wp2
  go_end0
  exact ⟨rfl, rfl⟩
set_option maxRecDepth 100000 in
theorem check_fresh (b : Nat) (w : World) (h0 : w.cell? ⟨b, 0, none⟩ = some (.pointer none)) (hsh : w.shape? b = some (99, 2)) (hfz : w.frozen? ⟨b, 0, none⟩ = false) :
    Calls Tryd.prog 85 #[.pointer (some ⟨b, 0, none⟩)] w fun e w' => e = .returned (.tuple #[]) ∧ w' = w.setCell ⟨b, 0, none⟩ (.pointer (some ⟨b, 0, none⟩)) := by
  obtain ⟨j, hj, hjs⟩ := Option.map_eq_some_iff.1 sizeB
  go_enter Tryd.func85, Tryd.ntmps85
  go_wp2
  rw [Lib.run_to_unsafe w ⟨b, 0, none⟩ Tryd.underlying96 Tryd.underlying176 hj (by rw [hjs]; decide) hsh (Nat.zero_lt_succ 1)]
  simp only [Result.andThen]
  rw [Oper.upon_value]
  go_wp2
  rw [run_callFunc_extern Tryd.func123 (by kernel_rfl) (by kernel_rfl) (by kernel_rfl) (e := Extern.AbiNoEscape.same) (by kernel_rfl)]
  rw [Lib.run_noEscape]
  simp only [Result.andThen]
  rw [Oper.upon_value]
  go_wp2
  rw [Lib.run_from_unsafe w ⟨b, 0, none⟩ Tryd.underlying176 Tryd.underlying96 hj hsh liesB]
  simp only [Result.andThen]
  rw [Oper.upon_value]
  go_wp2
  go_end0
  exact ⟨rfl, rfl⟩
theorem check_any (B b : Nat) (bs : List Value) (w : World) (h : Lib.IsBuilder 99 5 B b bs w) :
    Calls Tryd.prog 85 #[.pointer (some ⟨b, 0, none⟩)] w fun e w' => e = .returned (.tuple #[]) ∧ (Lib.BuilderAt 99 5 B b (.pointer (some ⟨b, 0, none⟩)) bs w' ∧ Below B w w') ∧ Lib.OthersKept 5 (some b) w w' := by
  rcases h with h | h
  · refine (check_fresh b w h.cell0 h.shape h.frozen0).mono ?_
    rintro e w' ⟨rfl, rfl⟩
    exact ⟨rfl, ⟨h.used _, (Below.refl B w).setCell (p := ⟨b, 0, none⟩) h.1 _⟩, (Lib.OthersKept.refl 5 (some b) w).setCell ⟨b, 0, none⟩ rfl _⟩
  · refine (check_used b w h.cell0).mono ?_
    rintro e w' ⟨rfl, rfl⟩
    exact ⟨rfl, ⟨h, Below.refl B _⟩, Lib.OthersKept.refl _ _ _⟩

set_option maxRecDepth 100000 in
theorem write_any (B b : Nat) (bs : List Value) (s : ByteArray) (w : World) (h : Lib.IsBuilder 99 5 B b bs w) (hlen : bs.length + s.size ≤ 100000000) (hBw : B ≤ w.heap.size) :
    Calls Tryd.prog 52 #[.pointer (some ⟨b, 0, none⟩), .string s] w fun e w' => e = .returned (.tuple #[.int .i64 s.size, .nilIface]) ∧ (Lib.BuilderAt 99 5 B b (.pointer (some ⟨b, 0, none⟩)) (bs ++ Lib.strCells s) w' ∧ Below B w w') ∧ Lib.OthersKept 5 (some b) w w' := by
  obtain ⟨i0, hi, hz0, hz1, hz2⟩ := info_parts infoU8
  have HC := Lib.hid (check_any B b bs w h)
  have nb5 : (99 : TypeId) ≠ 5 := by decide
  clear h
  go_enter Tryd.func52, Tryd.ntmps52
  go_wp2_with fail
  refine HC.out.mono ?_
  rintro e w1 ⟨rfl, ⟨⟨hB, v, hbk, hown, hne⟩, hb1⟩, hok⟩
  have c0 : w1.cell? ⟨b, 0, none⟩ = some (.pointer (some ⟨b, 0, none⟩)) := by rw [Lib.cell_of_heap hbk]; rfl
  have c1 : w1.cell? ⟨b, 1, none⟩ = some v := by rw [Lib.cell_of_heap hbk]; rfl
  have hlt : b < w1.heap.size := by
    rcases Nat.lt_or_ge b w1.heap.size with h' | h'
    · exact h'
    · simp [Array.getElem?_eq_none h'] at hbk
  have hsz1 := hb1.size
  have HBK := Lib.hid hbk
  have HNE := Lib.hid hne
  have HB1 := Lib.hid hb1
  have HOK := Lib.hid hok
  clear hbk hne hb1 hok
  go_wp2_with (at_builtin; refine Lib.wpList_append_own_string _ rfl _ _ 97 9 rfl B 5 i0 Tryd.underlying97 Tryd.underlying9 hi hz0 hz1 hz2 _ _ _ rfl hown s rfl (by unfold maxLen; omega) (by omega) (by omega) ?_)
  intro v' w2 hown' hgrow _
  have hb2 : w2.heap[b]? = some (.cells #[.pointer (some ⟨b, 0, none⟩), v] 99 (0, 0)) := by
    rw [hgrow.block b hlt (fun e => HNE.out e.symm)]
    exact HBK.out
  have d0 : w2.cell? ⟨b, 0, none⟩ = some (.pointer (some ⟨b, 0, none⟩)) := by rw [Lib.cell_of_heap hb2]; rfl
  have d1 : w2.cell? ⟨b, 1, none⟩ = some v := by rw [Lib.cell_of_heap hb2]; rfl
  have f1 : w2.frozen? ⟨b, 1, none⟩ = false := Lib.frozen_of_heap hb2 1
  obtain ⟨ao, n', cap, rfl⟩ : ∃ ao n' cap, v' = .slice ao n' cap := by
    rcases hown'.2 with ⟨hv, _⟩ | ⟨g, cap, cur, hv, _⟩
    · exact ⟨_, _, _, hv⟩
    · exact ⟨_, _, _, hv⟩
  have P1 := Lib.hid (Lib.BuilderAt.put (T := 99) (e := 5) hB hb2 (bs' := bs ++ Lib.strCells s) (by simpa [Lib.strCells_length] using hown') nb5)
  have P2 := Lib.hid ((HB1.out.grown hgrow (by omega) (fun k hk => (hown.lt k hk).1)).setCell (p := ⟨b, 1, none⟩) hB (.slice ao n' cap))
  have P3 := Lib.hid ((HOK.out.grown hgrow (fun g hg => by
    rcases hown.2 with ⟨hv, _⟩ | ⟨g', cap', cur, hv, _, h3, _⟩
    · rw [hv] at hg; cases hg
    · rw [hv] at hg; cases hg; exact ⟨_, _, h3⟩)).setCell ⟨b, 1, none⟩ rfl (.slice ao n' cap))
  clear hb2 hown' hgrow hown
  go_wp2
  go_ret2
  exact ⟨rfl, ⟨P1.out, P2.out⟩, P3.out⟩

set_option maxRecDepth 100000 in
theorem byte_any (B b : Nat) (bs : List Value) (c : Nat) (w : World) (h : Lib.IsBuilder 99 5 B b bs w) (hlen : bs.length ≤ 100000000) (hBw : B ≤ w.heap.size) :
    Calls Tryd.prog 53 #[.pointer (some ⟨b, 0, none⟩), .int .u8 (c : Int)] w fun e w' => e = .returned .nilIface ∧ (Lib.BuilderAt 99 5 B b (.pointer (some ⟨b, 0, none⟩)) (bs ++ [.int .u8 (c : Int)]) w' ∧ Below B w w') ∧ Lib.OthersKept 5 (some b) w w' := by
  obtain ⟨i0, hi, hz0, hz1, hz2⟩ := info_parts infoU8
  have HC := Lib.hid (check_any B b bs w h)
  have nb5 : (99 : TypeId) ≠ 5 := by decide
  clear h
  go_enter Tryd.func53, Tryd.ntmps53
  go_wp2_with fail
  refine HC.out.mono ?_
  rintro e w1 ⟨rfl, ⟨⟨hB, v, hbk, hown, hne⟩, hb1⟩, hok⟩
  have c0 : w1.cell? ⟨b, 0, none⟩ = some (.pointer (some ⟨b, 0, none⟩)) := by rw [Lib.cell_of_heap hbk]; rfl
  have c1 : w1.cell? ⟨b, 1, none⟩ = some v := by rw [Lib.cell_of_heap hbk]; rfl
  have hlt : b < w1.heap.size := by
    rcases Nat.lt_or_ge b w1.heap.size with h' | h'
    · exact h'
    · simp [Array.getElem?_eq_none h'] at hbk
  have hsz1 := hb1.size
  have HBK := Lib.hid hbk
  have HNE := Lib.hid hne
  have HB1 := Lib.hid hb1
  have HOK := Lib.hid hok
  clear hbk hne hb1 hok
  go_wp2_with (at_builtin; refine wpList_append_own _ rfl _ _ 97 rfl B 5 i0 (.int .u8 0) 1 1 Tryd.underlying97 hi hz0 hz1 hz2 rfl (by decide) _ _ _ rfl (hown.alloc _) ⟨w1.heap.size, 0, none⟩ 1 1 [.int .u8 (c : Int)] rfl rfl ?c1 ?c2 ?c3 ?c4 ?c5 ?_)
  case c1 =>
    intro j u hj
    match j, hj with
    | 0, hj => simp at hj; subst hj; simp [Addr.add]
  case c2 => intro u hu; simp at hu; subst hu; rfl
  case c3 => unfold maxLen; omega
  case c4 => omega
  case c5 => simp; omega
  intro v' w2 hown' hgrow _
  have hb2 : w2.heap[b]? = some (.cells #[.pointer (some ⟨b, 0, none⟩), v] 99 (0, 0)) := by
    rw [hgrow.block b (by simp; omega) (fun e => HNE.out e.symm)]
    exact (Below.heap_alloc w1 _ b hlt).trans HBK.out
  have d0 : w2.cell? ⟨b, 0, none⟩ = some (.pointer (some ⟨b, 0, none⟩)) := by rw [Lib.cell_of_heap hb2]; rfl
  have d1 : w2.cell? ⟨b, 1, none⟩ = some v := by rw [Lib.cell_of_heap hb2]; rfl
  have f1 : w2.frozen? ⟨b, 1, none⟩ = false := Lib.frozen_of_heap hb2 1
  obtain ⟨ao, n', cap, rfl⟩ : ∃ ao n' cap, v' = .slice ao n' cap := by
    rcases hown'.2 with ⟨hv, _⟩ | ⟨g, cap, cur, hv, _⟩
    · exact ⟨_, _, _, hv⟩
    · exact ⟨_, _, _, hv⟩
  have P1 := Lib.hid (Lib.BuilderAt.put (T := 99) (e := 5) hB hb2 (bs' := bs ++ [.int .u8 (c : Int)]) (by simpa using hown') nb5)
  have P2 := Lib.hid (((HB1.out.alloc (by omega) _).grown hgrow (by simp; omega) (fun k hk => (hown.lt k hk).1)).setCell (p := ⟨b, 1, none⟩) hB (.slice ao n' cap))
  have P3 := Lib.hid (((HOK.out.alloc _).grown hgrow (fun g hg => by
    rcases hown.2 with ⟨hv, _⟩ | ⟨g', cap', cur, hv, _, h3, _⟩
    · rw [hv] at hg; cases hg
    · rw [hv] at hg; cases hg; exact ⟨_, _, (Below.heap_alloc w1 _ g' (Array.getElem?_eq_some_iff.1 h3).1).trans h3⟩)).setCell ⟨b, 1, none⟩ rfl (.slice ao n' cap))
  clear hb2 hown' hgrow hown
  go_wp2
  go_ret
  exact ⟨rfl, ⟨P1.out, P2.out⟩, P3.out⟩

/-- A builder stays while only new memory is made. -/
theorem builder_stay {B b : Nat} {bs : List Value} {w w' : World} (h : Lib.IsBuilder 99 5 B b bs w) (hb : Below w.heap.size w w') : Lib.IsBuilder 99 5 B b bs w' := by
  have key : ∀ p, Lib.BuilderAt 99 5 B b p bs w → Lib.BuilderAt 99 5 B b p bs w' := by
    rintro p ⟨hB, v, hbk, hown, hne⟩
    have hlt : b < w.heap.size := (Array.getElem?_eq_some_iff.1 hbk).1
    refine ⟨hB, v, (hb.block b hlt).trans hbk, ⟨hown.1, ?_⟩, hne⟩
    rcases hown.2 with h0 | ⟨g, cap, cur, e1, e2, e3, e4⟩
    · exact .inl h0
    · exact .inr ⟨g, cap, cur, e1, e2, (hb.block g (Array.getElem?_eq_some_iff.1 e3).1).trans e3, e4⟩
  exact h.imp (key _) (key _)

end Go.Proofs.YtfjlhfalnciamaaDoor.Utf

namespace Go.Proofs.YtfjlhfalnciamaaDoor.Utf
open Go Go.RowKit

theorem ext_list (s : ByteArray) (i j : Nat) : (s.extract i j).data.toList = (s.data.toList.drop i).take (j - i) := Lib.extract_data s i j
theorem ext_size (s : ByteArray) {i j : Nat} (h : j ≤ s.size) : (s.extract i j).size = j - i := by
  rw [Lib.size_eq, ext_list, List.length_take, List.length_drop, ← Lib.size_eq]; omega
theorem ext_byte (s : ByteArray) {i j k : Nat} (hk : i + k < j) : (s.extract i j).get! k = s.get! (i + k) := by
  rw [← Lib.getD_get!', ← Lib.getD_get!', ext_list, List.getD_eq_getElem?_getD, List.getD_eq_getElem?_getD, List.getElem?_take_of_lt (by omega), List.getElem?_drop]
theorem get_bang (s : ByteArray) (k : Nat) (h : k < s.size) : s[k] = s.get! k := by
  rw [← Lib.getD_get!', List.getD_eq_getElem?_getD, List.getElem?_eq_getElem (by rw [← Lib.size_eq]; exact h)]; rfl
theorem ext_at (s : ByteArray) {i j k : Nat} (h : k < (s.extract i j).size) (hk : i + k < j) : ((s.extract i j)[k]'h).toNat = (txt s).b (i + k) := by
  rw [get_bang, ext_byte s hk]; rfl

theorem nat_inj {a b : List UInt8} (h : a.map UInt8.toNat = b.map UInt8.toNat) : a = b := by
  induction a generalizing b with
  | nil => cases b with
    | nil => rfl
    | cons y s => cases h
  | cons x r ih =>
    cases b with
    | nil => cases h
    | cons y s =>
      simp only [List.map_cons, List.cons.injEq] at h
      rw [UInt8.toNat_inj.1 h.1, ih h.2]
theorem encN_lt (r : Nat) : ∀ x ∈ encN r, x < 256 := by
  unfold encN
  intro x hx
  repeat' split at hx
  all_goals (simp at hx; try omega)
theorem encB_nat (r : Nat) : (encB (r : Int)).data.toList.map UInt8.toNat = encN r := by
  cases hv : Lib.validRune (r : Int) with
  | true =>
    rw [enc_bytes r hv]
    unfold ofInts
    have : ∀ l : List Nat, (∀ x ∈ l, x < 256) → (((l.map Int.ofNat).map fun n : Int => UInt8.ofNat n.toNat).map UInt8.toNat) = l := fun l hl => by
      induction l with
      | nil => rfl
      | cons x r ih =>
        simp only [List.map_cons]
        rw [ih fun y hy => hl y (by simp [hy])]
        have hx := hl x (by simp)
        have : (UInt8.ofNat (Int.ofNat x).toNat).toNat = x := by
          rw [show (Int.ofNat x).toNat = x from rfl, UInt8.toNat_ofNat']; omega
        rw [this]
    exact this _ (encN_lt r)
  | false =>
    have hn : ¬ (r < 55296 ∨ (57344 ≤ r ∧ r ≤ 1114111)) := fun h => by
      rw [(valid_iff (r : Int)).2 (by omega)] at hv; cases hv
    unfold encB encN
    rw [hv, if_neg (by simp), if_pos hn]; rfl
theorem drop_getD (l : List UInt8) (k : Nat) (h : k < l.length) : l.drop k = l.getD k 0 :: l.drop (k + 1) := by
  rw [List.drop_eq_getElem_cons h, List.getD_eq_getElem?_getD, List.getElem?_eq_getElem h]; rfl
theorem ext_first (s : ByteArray) (k n : Nat) (h1 : 1 ≤ n) (h4 : n ≤ 4) (hn : k + n ≤ s.size) :
    (s.extract k (k + n)).data.toList.map UInt8.toNat = firstN ((txt s).b k) ((txt s).b (k + 1)) ((txt s).b (k + 2)) ((txt s).b (k + 3)) n := by
  have hb : ∀ i, (txt s).b i = (s.data.toList.getD i 0).toNat := fun i => by rw [Lib.getD_get!']; rfl
  rw [ext_list, show k + n - k = n by omega, hb, hb, hb, hb]
  rw [Lib.size_eq] at hn
  have : n = 1 ∨ n = 2 ∨ n = 3 ∨ n = 4 := by omega
  rcases this with rfl | rfl | rfl | rfl
  · rw [drop_getD _ k (by omega)]; rfl
  · rw [drop_getD _ k (by omega), drop_getD _ (k + 1) (by omega)]; rfl
  · rw [drop_getD _ k (by omega), drop_getD _ (k + 1) (by omega), drop_getD _ (k + 1 + 1) (by omega)]; rfl
  · rw [drop_getD _ k (by omega), drop_getD _ (k + 1) (by omega), drop_getD _ (k + 1 + 1) (by omega), drop_getD _ (k + 1 + 1 + 1) (by omega)]; rfl

def u8s (ns : List Int) : List Value := ns.map (Value.int .u8)
/-- What the number of zeros behind 16 is looked up by. -/
def Z16 (w : World) : Prop := w.cell? ⟨5, 15, none⟩ = some (.int .u8 4)
theorem Z16.stay {w w' : World} (h : Z16 w) (hb : Below w.heap.size w w') : Z16 w' := by
  have hlt : 5 < w.heap.size := by
    rcases Nat.lt_or_ge 5 w.heap.size with h' | h'
    · exact h'
    · unfold Z16 at h; simp [World.cell?, Array.getElem?_eq_none h'] at h
  exact (hb.cell (p := ⟨5, 15, none⟩) hlt).trans h

set_option maxRecDepth 100000 in
theorem tz16 (W : World) (h : Z16 W) : Calls Tryd.prog 165 #[.int .u64 16] W fun e w' => e = .returned (.int .i64 4) ∧ W = w' := by
  unfold Z16 at h
  have e : IntKind.u64.wrap (bits BinOp.and IntKind.u64 16 (IntKind.u64.wrap (-16)) * 285870213051353865) / 288230376151711744 = 15 := by kernel_rfl
  go_enter Tryd.func165, Tryd.ntmps165
  go_wp2
  go_ret
  exact ⟨rfl, rfl⟩

set_option maxRecDepth 100000 in
theorem tzu16 (W : World) (h : Z16 W) : Calls Tryd.prog 159 #[.int .u64 16] W fun e w' => e = .returned (.int .i64 4) ∧ W = w' := by
  have HH := Lib.hid (tz16 W h)
  clear h
  go_enter Tryd.func159, Tryd.ntmps159
  go_wp2_with fail
  refine HH.out.mono ?_
  rintro e w1 ⟨rfl, rfl⟩
  go_wp2
  go_ret
  exact ⟨rfl, rfl⟩

set_option maxRecDepth 100000 in
theorem pow16 (W : World) : Calls Tryd.prog 158 #[.int .i64 16] W fun e w' => e = .returned (.bool true) ∧ W = w' := by
  go_enter Tryd.func158, Tryd.ntmps158
  go_wp2
  go_ret
  exact ⟨rfl, rfl⟩

def digitsC : ByteArray := ⟨#[48, 49, 50, 51, 52, 53, 54, 55, 56, 57, 97, 98, 99, 100, 101, 102, 103, 104, 105, 106, 107, 108, 109, 110, 111, 112, 113, 114, 115, 116, 117, 118, 119, 120, 121, 122]⟩
theorem digit_at : ∀ k : Fin 16, (digitsC.get! k.val).toNat = (digH k.val).toNat := by decide
theorem digit_is (k : Nat) (hk : k < 16) (h : k < digitsC.size) : ((digitsC[k]'h)).toNat = (digH k).toNat := by
  rw [get_bang]; exact digit_at ⟨k, hk⟩
/-- Bytes that lie anywhere, made a string. -/
theorem conv_at (w : World) (b off : Nat) (ns : List Int) (n c : Nat) (hl : ns.length = n) (h : ∀ j u, (u8s ns)[j]? = some u → w.cell? ⟨b, off + j, none⟩ = some u) :
    (convert 97 9 (.slice (some ⟨b, off, none⟩) n c)).run Tryd.prog w = .ok (.string (ofInts ns)) w := by
  subst hl
  rw [run_convert_bytes_string _ 97 9 5 _ _ _ Tryd.underlying97 Tryd.underlying5 Tryd.underlying9]
  have hc : ∀ j u, (u8s ns)[j]? = some u → w.cell? ((⟨b, off, none⟩ : Addr).add j) = some u := fun j u hu => by
    have e : (⟨b, off, none⟩ : Addr).add j = ⟨b, off + j, none⟩ := by
      by_cases e : j = 0
      · subst e; simp [Addr.add]
      · simp [Addr.add, e]
    rw [e]; exact h j u hu
  have hrun := run_loadCells_list (P := Tryd.prog) w ⟨b, off, none⟩ (u8s ns) hc
  rw [show (u8s ns).length = ns.length from List.length_map _] at hrun
  rw [run_bytesToString _ _ ns.length c ns hrun, foldl_push_bytes]
  simp [ofInts]

theorem hex_ofInts (l : List UInt8) : ofInts (l.map fun b => (b.toNat : Int)) = ⟨l.toArray⟩ := by
  unfold ofInts
  congr 1
  rw [List.map_map]
  have : ((fun n : Int => UInt8.ofNat n.toNat) ∘ fun b : UInt8 => (b.toNat : Int)) = id := by
    funext b; simp
  rw [this, List.map_id]

set_option maxRecDepth 100000 in
theorem bits_one (n : Nat) (hn : n < 16) (W : World) (h : Z16 W) : Calls Tryd.prog 143 #[.slice none 0 0, .int .u64 (n : Int), .int .i64 16, .bool false, .bool false] W fun e w' => e = .returned (.tuple #[.slice none 0 0, .string ⟨(hexL n).toArray⟩]) ∧ Below W.heap.size W w' := by
  have HP := Lib.hid (fun w => pow16 w)
  have HZ := Lib.hid h
  have g1 : decide ((16 : Int) ≤ (n : Int)) = false := decide_eq_false (by omega)
  have hd := digit_is n hn
  have hhex : hexL n = [digH n] := by unfold hexL; rw [if_pos hn]
  rw [hhex, ← hex_ofInts]
  simp only [List.map_cons, List.map_nil]
  obtain ⟨d, hdd⟩ : ∃ d, (digH n).toNat = d := ⟨_, rfl⟩
  rw [hdd] at hd ⊢
  unfold digitsC at hd
  have h36 : (n : Int) < 36 := by omega
  have kc := conv_at (W.alloc (.cells (Tryd.zeroCells206.setIfInBounds 64 (.int .u8 (d : Int))) 206)) W.heap.size 64 [(d : Int)] 1 1 rfl (fun j u hu => by
    cases j with
    | zero =>
      simp [u8s] at hu; subst hu
      rw [Lib.cell_of_heap (heap_alloc_new W _)]
      simp
    | succ j => simp [u8s] at hu)
  obtain ⟨X, hX⟩ : ∃ X, ofInts [(d : Int)] = X := ⟨_, rfl⟩
  rw [hX] at kc ⊢
  clear h hdd hhex hX
  go_enter Tryd.func143, Tryd.ntmps143
  go_wp2_with fail
  refine (HP.out _).mono ?_
  rintro e w1 ⟨rfl, rfl⟩
  go_wp2_with fail
  refine (tzu16 _ (HZ.out.stay ((Below.refl _ _).alloc (Nat.le_refl _) _))).mono ?_
  rintro e w2 ⟨rfl, rfl⟩
  go_wp2_with fail
  go_loopw [1, 13] (fun u i wx => u = .int .u64 (n : Int) ∧ i = .int .i64 65 ∧ W.alloc (.cells Tryd.zeroCells206 206) = wx) (fun _ _ _ => 0)
  case atStart => exact ⟨rfl, rfl, rfl⟩
  case round =>
    obtain ⟨rfl, rfl, rfl⟩ := hrel
    go_wp2
    go_ret2
    exact ⟨rfl, (Below.refl _ _).alloc (Nat.le_refl _) _⟩

set_option maxRecDepth 100000 in
theorem and15 : ∀ n : Fin 256, bits .and .u64 ((n.val : Nat) : Int) 15 = ((n.val % 16 : Nat) : Int) := by decide

def TwoAt (W : World) (n q d : Nat) (u i : Value) (wx : World) : Prop := (u = .int .u64 (n : Int) ∧ i = .int .i64 65 ∧ W.alloc (.cells Tryd.zeroCells206 206) = wx) ∨ (u = .int .u64 (q : Int) ∧ i = .int .i64 64 ∧ W.alloc (.cells (Tryd.zeroCells206.setIfInBounds 64 (.int .u8 (d : Int))) 206) = wx)

set_option maxRecDepth 100000 in
theorem bits_two (n : Nat) (hn : ¬ n < 16) (hn2 : n < 256) (W : World) (h : Z16 W) : Calls Tryd.prog 143 #[.slice none 0 0, .int .u64 (n : Int), .int .i64 16, .bool false, .bool false] W fun e w' => e = .returned (.tuple #[.slice none 0 0, .string ⟨(hexL n).toArray⟩]) ∧ Below W.heap.size W w' := by
  have HP := Lib.hid (fun w => pow16 w)
  have HZ := Lib.hid h
  have hd := digit_is (n % 16) (by omega)
  have hd2 := digit_is (n / 16) (by omega)
  have hhex : hexL n = [digH (n / 16), digH (n % 16)] := by unfold hexL; rw [if_neg hn]
  rw [hhex, ← hex_ofInts]
  simp only [List.map_cons, List.map_nil]
  have ha : bits .and .u64 (n : Int) 15 = ((n % 16 : Nat) : Int) := and15 ⟨n, hn2⟩
  obtain ⟨d, hdd⟩ : ∃ d, (digH (n % 16)).toNat = d := ⟨_, rfl⟩
  obtain ⟨d2, hdd2⟩ : ∃ d, (digH (n / 16)).toNat = d := ⟨_, rfl⟩
  rw [hdd] at hd ⊢
  rw [hdd2] at hd2 ⊢
  obtain ⟨m, hm⟩ : ∃ m, n % 16 = m := ⟨_, rfl⟩
  obtain ⟨q, hq⟩ : ∃ q, n / 16 = q := ⟨_, rfl⟩
  have hm16 : m < 16 := by omega
  have hq16 : q < 16 := by omega
  rw [hm] at hd ha
  rw [hq] at hd2
  have hqd : (n : Int) / 16 = (q : Int) := by omega
  unfold digitsC at hd hd2
  have kc := conv_at (W.alloc (.cells ((Tryd.zeroCells206.setIfInBounds 64 (.int .u8 (d : Int))).setIfInBounds 63 (.int .u8 (d2 : Int))) 206)) W.heap.size 63 [(d2 : Int), (d : Int)] 2 2 rfl (fun j u hu => by
    match j, hu with
    | 0, hu =>
      simp [u8s] at hu; subst hu
      rw [Lib.cell_of_heap (heap_alloc_new W _)]
      simp
    | 1, hu =>
      simp [u8s] at hu; subst hu
      rw [Lib.cell_of_heap (heap_alloc_new W _)]
      simp
    | j + 2, hu => simp [u8s] at hu)
  obtain ⟨X, hX⟩ : ∃ X, ofInts [(d2 : Int), (d : Int)] = X := ⟨_, rfl⟩
  rw [hX] at kc ⊢
  have HQD := Lib.hid hqd
  have HA := Lib.hid ha
  clear h hdd hdd2 hhex hX hm hq hqd ha
  go_enter Tryd.func143, Tryd.ntmps143
  go_wp2_with fail
  refine (HP.out _).mono ?_
  rintro e w1 ⟨rfl, rfl⟩
  go_wp2_with fail
  refine (tzu16 _ (HZ.out.stay ((Below.refl _ _).alloc (Nat.le_refl _) _))).mono ?_
  rintro e w2 ⟨rfl, rfl⟩
  go_wp2_with fail
  go_loopw [1, 13] (fun u i wx => TwoAt W n q d u i wx) (fun _ i _ => (intOf i).toNat)
  case atStart => exact .inl ⟨rfl, rfl, rfl⟩
  case round =>
    rcases hrel with ⟨rfl, rfl, rfl⟩ | ⟨rfl, rfl, rfl⟩
    · have g1 : decide ((16 : Int) ≤ (n : Int)) = true := decide_eq_true (by omega)
      have g2 := HQD.out
      have g3 := HA.out
      go_wp2
      go_roundw
      case rel => exact .inr ⟨rfl, rfl, rfl⟩
      case measure => simp [intOf]
    · have g1 : decide ((16 : Int) ≤ (q : Int)) = false := decide_eq_false (by omega)
      go_wp2
      go_ret2
      exact ⟨rfl, (Below.refl _ _).alloc (Nat.le_refl _) _⟩

/-- strconv.FormatInt of a byte, of base 16. -/
theorem bits_any (n : Nat) (hn : n < 256) (W : World) (h : Z16 W) : Calls Tryd.prog 143 #[.slice none 0 0, .int .u64 (n : Int), .int .i64 16, .bool false, .bool false] W fun e w' => e = .returned (.tuple #[.slice none 0 0, .string ⟨(hexL n).toArray⟩]) ∧ Below W.heap.size W w' := by
  by_cases h1 : n < 16
  · exact bits_one n h1 W h
  · exact bits_two n h1 hn W h

set_option maxRecDepth 100000 in
theorem format_i (n : Nat) (hn : n < 256) (W : World) (h : Z16 W) : Calls Tryd.prog 113 #[.int .i64 (n : Int), .int .i64 16] W fun e w' => e = .returned (.string ⟨(hexL n).toArray⟩) ∧ Below W.heap.size W w' := by
  have HH := Lib.hid (bits_any n hn W h)
  have g1 : decide ((n : Int) < 0) = false := decide_eq_false (by omega)
  obtain ⟨X, hX⟩ : ∃ X : ByteArray, ⟨(hexL n).toArray⟩ = X := ⟨_, rfl⟩
  rw [hX] at HH ⊢
  clear h hX
  go_enter Tryd.func113, Tryd.ntmps113
  go_wp2_with fail
  refine HH.out.mono ?_
  rintro e w1 ⟨rfl, hb⟩
  have HB := Lib.hid hb
  clear hb
  go_wp2
  go_ret
  exact ⟨rfl, HB.out⟩
set_option maxRecDepth 100000 in
theorem format_any (n : Nat) (hn : n < 256) (W : World) (h : Z16 W) : Calls Tryd.prog 82 #[.int .i64 (n : Int), .int .i64 16] W fun e w' => e = .returned (.string ⟨(hexL n).toArray⟩) ∧ Below W.heap.size W w' := by
  have HH := Lib.hid (format_i n hn W h)
  obtain ⟨X, hX⟩ : ∃ X : ByteArray, ⟨(hexL n).toArray⟩ = X := ⟨_, rfl⟩
  rw [hX] at HH ⊢
  clear h hX
  go_enter Tryd.func82, Tryd.ntmps82
  go_wp2_with fail
  refine HH.out.mono ?_
  rintro e w1 ⟨rfl, hb⟩
  have HB := Lib.hid hb
  clear hb
  go_wp2
  go_ret
  exact ⟨rfl, HB.out⟩

theorem hexL_len (n : Nat) : (hexL n).length ≤ 2 := by unfold hexL; split <;> simp
theorem numb_bytes (n : Nat) : ((⟨#[92, 117, 123]⟩ : ByteArray) ++ ⟨(hexL n).toArray⟩ ++ ⟨#[125]⟩) = ⟨(numb n).toArray⟩ := by
  apply ByteArray.ext
  apply Array.toList_inj.1
  simp [numb]

end Go.Proofs.YtfjlhfalnciamaaDoor.Utf
