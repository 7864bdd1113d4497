/- Plain mathematics of UTF-8 texts: a sign where else it may stand; two texts together. -/
import Derived.Test.YtfjlhfalnciamaaDoorUtfA
namespace Go.Proofs.YtfjlhfalnciamaaDoor.Utf
open Go

theorem dec_one {n b0 b1 b2 b3 : Nat} (h : b0 < 128) : Lib.decodeN n b0 b1 b2 b3 = (b0, 1) := by unfold Lib.decodeN; rw [if_pos h]
theorem dec_two {n b0 b1 b2 b3 : Nat} (h1 : 194 ≤ b0) (h2 : b0 < 224) (h3 : 1 < n) (h4 : 128 ≤ b1) (h5 : b1 < 192) : Lib.decodeN n b0 b1 b2 b3 = (b0 % 32 * 64 + b1 % 64, 2) := by
  unfold Lib.decodeN; rw [if_neg (by omega), if_pos (by omega), if_pos (by omega)]
theorem dec_three {n b0 b1 b2 b3 : Nat} (h1 : 224 ≤ b0) (h2 : b0 < 240) (h3 : 2 < n) (h4 : 128 ≤ b1) (h5 : b1 < 192) (h6 : 128 ≤ b2) (h7 : b2 < 192) (h8 : 2048 ≤ b0 % 16 * 4096 + b1 % 64 * 64 + b2 % 64)
    (h9 : b0 % 16 * 4096 + b1 % 64 * 64 + b2 % 64 < 55296 ∨ 57344 ≤ b0 % 16 * 4096 + b1 % 64 * 64 + b2 % 64) : Lib.decodeN n b0 b1 b2 b3 = (b0 % 16 * 4096 + b1 % 64 * 64 + b2 % 64, 3) := by
  unfold Lib.decodeN; rw [if_neg (by omega), if_neg (by omega), if_pos (by omega), if_pos (by omega)]
theorem dec_four {n b0 b1 b2 b3 : Nat} (h1 : 240 ≤ b0) (h2 : b0 < 248) (h3 : 3 < n) (h4 : 128 ≤ b1) (h5 : b1 < 192) (h6 : 128 ≤ b2) (h7 : b2 < 192) (h8 : 128 ≤ b3) (h9 : b3 < 192)
    (h10 : 65536 ≤ b0 % 8 * 262144 + b1 % 64 * 4096 + b2 % 64 * 64 + b3 % 64) (h11 : b0 % 8 * 262144 + b1 % 64 * 4096 + b2 % 64 * 64 + b3 % 64 ≤ 1114111) :
    Lib.decodeN n b0 b1 b2 b3 = (b0 % 8 * 262144 + b1 % 64 * 4096 + b2 % 64 * 64 + b3 % 64, 4) := by
  unfold Lib.decodeN; rw [if_neg (by omega), if_neg (by omega), if_neg (by omega), if_pos (by omega), if_pos (by omega)]

/-- Is there a sign? -/
def Txt.sign (t : Txt) (i : Nat) : Prop := t.b i < 128 ∨ 2 ≤ t.w i
theorem Txt.bad (t : Txt) (i : Nat) (h : ¬ t.sign i) : t.dc i = (65533, 1) ∧ 128 ≤ t.b i := by
  have hk := t.kind i; unfold Txt.sign Txt.w at h; generalize t.dc i = d at h hk
  cases hk with
  | one c => exact absurd (.inl c) h
  | bad c => exact ⟨rfl, c⟩
  | two => exact absurd (.inr (by simp)) h
  | three => exact absurd (.inr (by simp)) h
  | four => exact absurd (.inr (by simp)) h
theorem Txt.ok_iff (t : Txt) (i : Nat) : t.ok i = true ↔ t.sign i := by
  have hk := t.kind i; unfold Txt.sign Txt.ok Txt.r Txt.w; generalize t.dc i = d at hk
  cases hk <;> simp <;> omega
/-- A sign is one wherever its bytes stand. -/
theorem Txt.moved (t u : Txt) (i j : Nat) (hs : t.sign i) (hn : j + t.w i ≤ u.n) (h : ∀ k, k < t.w i → u.b (j + k) = t.b (i + k)) : u.dc j = t.dc i := by
  have hk := t.kind i; unfold Txt.sign at hs; unfold Txt.w at hn hs h
  generalize t.dc i = d at hk hs hn h ⊢
  unfold Txt.dc
  cases hk with
  | one c => simp at h; exact (by rw [h]; exact dec_one c)
  | bad c => simp at hs; omega
  | two =>
    have e0 := h 0 (by simp); have e1 := h 1 (by simp)
    simp at e0
    rw [e0, e1]; simp at hn
    exact dec_two (by omega) (by omega) (by omega) (by omega) (by omega)
  | three =>
    have e0 := h 0 (by simp); have e1 := h 1 (by simp); have e2 := h 2 (by simp)
    simp at e0
    rw [e0, e1, e2]; simp at hn
    exact dec_three (by omega) (by omega) (by omega) (by omega) (by omega) (by omega) (by omega) (by omega) (by omega)
  | four =>
    have e0 := h 0 (by simp); have e1 := h 1 (by simp); have e2 := h 2 (by simp); have e3 := h 3 (by simp)
    simp at e0
    rw [e0, e1, e2, e3]; simp at hn
    exact dec_four (by omega) (by omega) (by omega) (by omega) (by omega) (by omega) (by omega) (by omega) (by omega) (by omega) (by omega)

/-- ab is a, and b behind it. -/
structure Joined (a b ab : Txt) : Prop where
  n : ab.n = a.n + b.n
  l : ∀ i, i < a.n → ab.b i = a.b i
  r : ∀ i, ab.b (a.n + i) = b.b i

theorem Joined.behind {a b ab : Txt} (h : Joined a b ab) (i : Nat) : ab.dc (a.n + i) = b.dc i := by
  unfold Txt.dc
  rw [h.n, show a.n + i + 1 = a.n + (i + 1) by omega, show a.n + i + 2 = a.n + (i + 2) by omega, show a.n + i + 3 = a.n + (i + 3) by omega, h.r, h.r, h.r, h.r]
  congr 1; omega
/-- What ends within a is what it is in a. -/
theorem Joined.ahead {a b ab : Txt} (h : Joined a b ab) {i : Nat} (hi : i + ab.w i ≤ a.n) : a.dc i = ab.dc i := by
  have hp := ab.w_pos i
  by_cases hs : ab.sign i
  · exact Txt.moved ab a i i hs hi fun k hk => (h.l _ (by omega)).symm
  · have h1 := ab.bad i hs
    rw [h1.1]
    by_cases ha : a.sign i
    · exfalso
      have hw := a.w_in i (by omega)
      have h2 := Txt.moved a ab i i ha (by have := h.n; omega) fun k hk => h.l _ (by omega)
      apply hs
      unfold Txt.sign at ha ⊢
      unfold Txt.w at ha ⊢
      rw [h2, h.l i (by omega)]; exact ha
    · exact (a.bad i ha).1
/-- What goes beyond a is no sign in a. -/
theorem Joined.beyond {a b ab : Txt} (h : Joined a b ab) {i : Nat} (hi : i < a.n) (hg : a.n < i + ab.w i) : a.dc i = (65533, 1) := by
  by_cases ha : a.sign i
  · exfalso
    have hw := a.w_in i hi
    have h2 := Txt.moved a ab i i ha (by have := h.n; omega) fun k hk => h.l _ (by omega)
    unfold Txt.w at hw hg
    rw [h2] at hg
    omega
  · exact (a.bad i ha).1
/-- A byte from 128 to 191 begins no sign. -/
theorem Txt.cont_bad (t : Txt) (i : Nat) (h1 : 128 ≤ t.b i) (h2 : t.b i < 192) : t.dc i = (65533, 1) := by
  by_cases hs : t.sign i
  · rcases hs with h | h
    · omega
    · have := t.w_lead i h; omega
  · exact (t.bad i hs).1

/-- Items of ab as long as they end within a are a's. -/
theorem Joined.pos_ahead {a b ab : Txt} (h : Joined a b ab) : ∀ k, ab.pos k ≤ a.n → a.pos k = ab.pos k
  | 0, _ => rfl
  | k + 1, hk => by
    have hlt := ab.pos_lt (show k < k + 1 by omega)
    have ih := h.pos_ahead k (by omega)
    rw [Txt.pos] at hk
    rw [Txt.pos, Txt.pos, ih]
    unfold Txt.w at hk ⊢
    rw [h.ahead (by unfold Txt.w; exact hk)]
theorem Joined.pos_behind {a b ab : Txt} (h : Joined a b ab) {m j : Nat} (hm : ab.pos m = a.n + b.pos j) : ∀ k, ab.pos (m + k) = a.n + b.pos (j + k)
  | 0 => hm
  | k + 1 => by
    rw [← Nat.add_assoc, ← Nat.add_assoc, Txt.pos, Txt.pos, h.pos_behind hm k]
    unfold Txt.w
    rw [h.behind]; omega
theorem Txt.cnt_of (t : Txt) {k : Nat} (h : t.pos k = t.n) : t.cnt = k := by
  rcases Nat.lt_trichotomy t.cnt k with h1 | h1 | h1
  · have := t.pos_lt h1; rw [t.pos_cnt] at this; omega
  · exact h1
  · have := t.pos_of_lt h1; omega
theorem Joined.cnt_yes {a b ab : Txt} (h : Joined a b ab) (hs : ab.start a.n) : ab.cnt = a.cnt + b.cnt ∧ ab.pos a.cnt = a.n := by
  obtain ⟨k, hk⟩ := hs
  have h1 := h.pos_ahead k (by omega)
  have hc : a.cnt = k := a.cnt_of (by rw [h1]; exact hk)
  refine ⟨ab.cnt_of ?_, by rw [hc]; exact hk⟩
  rw [hc]
  have := h.pos_behind (m := k) (j := 0) (by rw [hk]; simp [Txt.pos]) b.cnt
  rw [this, Nat.zero_add, b.pos_cnt, h.n]
/-- k bytes from p on, none of which begins a sign, are k items. -/
theorem Txt.run (t : Txt) {m p : Nat} (hm : t.pos m = p) : ∀ k, (∀ j, j < k → t.w (p + j) = 1) → t.pos (m + k) = p + k
  | 0, _ => hm
  | k + 1, h => by
    rw [← Nat.add_assoc, Txt.pos, t.run hm k (fun j hj => h j (by omega)), h k (by omega)]; omega
theorem Joined.cnt_no {a b ab : Txt} (h : Joined a b ab) (hs : ¬ ab.start a.n) : ab.cnt < a.cnt + b.cnt := by
  obtain ⟨k, h1, h2⟩ := ab.between a.n
  have h1' : ab.pos k < a.n := Nat.lt_of_le_of_ne h1 fun e => hs ⟨k, e⟩
  rw [Txt.pos] at h2
  have hka := h.pos_ahead k h1
  obtain ⟨p, hp⟩ : ∃ p, p = ab.pos k := ⟨_, rfl⟩
  rw [← hp] at h1' h2 hka
  have hwi := ab.w_in p (by have := h.n; omega)
  rw [h.n] at hwi
  have ca : a.pos (k + (a.n - p)) = p + (a.n - p) := a.run hka (a.n - p) fun j hj => by
    unfold Txt.w
    by_cases e : j = 0
    · subst e; rw [Nat.add_zero, h.beyond h1' h2]
    · have := ab.w_cont p (p + j) (by omega) (by omega)
      rw [h.l _ (by omega)] at this
      rw [a.cont_bad _ this.1 this.2]
  have cb : b.pos (0 + (p + ab.w p - a.n)) = 0 + (p + ab.w p - a.n) := b.run (m := 0) (p := 0) rfl _ fun j hj => by
    have := ab.w_cont p (a.n + j) (by omega) (by omega)
    rw [h.r] at this
    unfold Txt.w
    rw [Nat.zero_add, b.cont_bad _ this.1 this.2]
  rw [Nat.zero_add] at cb
  have ea := a.cnt_of (k := k + (a.n - p)) (by omega)
  have hn1 : ab.pos (k + 1) = a.n + b.pos (p + ab.w p - a.n) := by rw [Txt.pos, ← hp]; omega
  have hbc : p + ab.w p - a.n ≤ b.cnt := by
    apply Nat.le_of_not_lt
    intro hlt
    have := b.pos_lt hlt
    rw [b.pos_cnt] at this; omega
  have key := h.pos_behind hn1 (b.cnt - (p + ab.w p - a.n))
  rw [show p + ab.w p - a.n + (b.cnt - (p + ab.w p - a.n)) = b.cnt by omega, b.pos_cnt, ← h.n] at key
  have ec := ab.cnt_of key
  omega

end Go.Proofs.YtfjlhfalnciamaaDoor.Utf
