/- How many bits a word has, as Go's OnesCount64 reckons it: by bytes. -/
import Derived.Test.YtfcdmkfbkkogbaaDoorRows
namespace Go.Proofs.YtfcdmkfbkkogbaaDoor.Bits

/-- How many of the first n bits are set. -/
def pcN : Nat → Nat → Nat
  | 0, _ => 0
  | n + 1, x => x % 2 + pcN n (x / 2)

theorem and_split (b x m M : Nat) (hb : b < 256) (hm : m < 256) : (b + 256 * x) &&& (m + 256 * M) = (b &&& m) + 256 * (x &&& M) := by
  have h1 : ((b + 256 * x) &&& (m + 256 * M)) % 2 ^ 8 = b &&& m := by
    rw [Nat.and_mod_two_pow]
    have e1 : (b + 256 * x) % 2 ^ 8 = b := by omega
    have e2 : (m + 256 * M) % 2 ^ 8 = m := by omega
    rw [e1, e2]
  have h2 : ((b + 256 * x) &&& (m + 256 * M)) / 2 ^ 8 = x &&& M := by
    rw [Nat.and_div_two_pow]
    have e1 : (b + 256 * x) / 2 ^ 8 = x := by omega
    have e2 : (m + 256 * M) / 2 ^ 8 = M := by omega
    rw [e1, e2]
  have h3 := Nat.div_add_mod ((b + 256 * x) &&& (m + 256 * M)) (2 ^ 8)
  omega

/-- The mask of k bytes m. -/
def mk (m : Nat) : Nat → Nat
  | 0 => 0
  | k + 1 => m + 256 * mk m k

def s1 (k x : Nat) : Nat := (x / 2 &&& mk 85 k) + (x &&& mk 85 k)
def s2 (k x : Nat) : Nat := (x / 4 &&& mk 51 k) + (x &&& mk 51 k)
def s3 (k x : Nat) : Nat := (x / 16 + x) &&& mk 15 k
def b1 (b : Nat) : Nat := (b / 2 &&& 85) + (b &&& 85)
def b2 (b : Nat) : Nat := (b / 4 &&& 51) + (b &&& 51)
def b3 (b : Nat) : Nat := (b / 16 + b) &&& 15

theorem byte1 : ∀ b, b < 256 → ∀ t, t < 2 → (b / 2 + 128 * t) &&& 85 = b / 2 &&& 85 := by decide +kernel
theorem byte2 : ∀ b, b < 256 → ∀ t, t < 4 → (b / 4 + 64 * t) &&& 51 = b / 4 &&& 51 := by decide +kernel
theorem byte3 : ∀ c, c < 69 → ∀ t, t < 5 → (c / 16 + 16 * t + c) &&& 15 = b3 c := by decide +kernel
theorem bound1 : ∀ b, b < 256 → b1 b < 256 := by decide +kernel
theorem bound2 : ∀ b, b < 256 → b2 (b1 b) < 69 ∧ b2 (b1 b) % 16 < 5 := by decide +kernel
theorem byte_pc : ∀ b, b < 256 → b3 (b2 (b1 b)) = pcN 8 b ∧ pcN 8 b ≤ 8 := by decide +kernel

theorem s1_step (k b x : Nat) (hb : b < 256) : s1 (k + 1) (b + 256 * x) = b1 b + 256 * s1 k x := by
  unfold s1 b1
  have e : (b + 256 * x) / 2 = (b / 2 + 128 * (x % 2)) + 256 * (x / 2) := by omega
  rw [e, show mk 85 (k + 1) = 85 + 256 * mk 85 k from rfl, and_split _ _ _ _ (by omega) (by omega), and_split _ _ _ _ hb (by omega), byte1 b hb (x % 2) (by omega)]
  omega
theorem s2_step (k b x : Nat) (hb : b < 256) : s2 (k + 1) (b + 256 * x) = b2 b + 256 * s2 k x := by
  unfold s2 b2
  have e : (b + 256 * x) / 4 = (b / 4 + 64 * (x % 4)) + 256 * (x / 4) := by omega
  rw [e, show mk 51 (k + 1) = 51 + 256 * mk 51 k from rfl, and_split _ _ _ _ (by omega) (by omega), and_split _ _ _ _ hb (by omega), byte2 b hb (x % 4) (by omega)]
  omega

theorem s21_step (k b x : Nat) (hb : b < 256) : s2 (k + 1) (s1 (k + 1) (b + 256 * x)) = b2 (b1 b) + 256 * s2 k (s1 k x) := by
  rw [s1_step k b x hb, s2_step k _ _ (bound1 b hb)]
theorem s21_low : ∀ k x, x < 256 ^ k → s2 k (s1 k x) % 16 < 5
  | 0, x, h => by
    have : x = 0 := by simpa using h
    subst this
    decide
  | k + 1, x, h => by
    have e : x = x % 256 + 256 * (x / 256) := by omega
    rw [e, s21_step k _ _ (by omega)]
    have := (bound2 (x % 256) (by omega)).2
    omega
theorem s3_step (k c z : Nat) (hc : c < 69) (hz : z % 16 < 5) : s3 (k + 1) (c + 256 * z) = b3 c + 256 * s3 k z := by
  unfold s3
  have e : (c + 256 * z) / 16 + (c + 256 * z) = (c / 16 + 16 * (z % 16) + c) + 256 * (z / 16 + z) := by omega
  rw [e, show mk 15 (k + 1) = 15 + 256 * mk 15 k from rfl, and_split _ _ _ _ (by omega) (by omega), byte3 c hc (z % 16) hz]

theorem s321_step (k x : Nat) (h : x < 256 ^ (k + 1)) : s3 (k + 1) (s2 (k + 1) (s1 (k + 1) x)) = pcN 8 (x % 256) + 256 * s3 k (s2 k (s1 k (x / 256))) := by
  have e : x = x % 256 + 256 * (x / 256) := by omega
  have hx : x / 256 < 256 ^ k := by rw [Nat.pow_succ] at h; omega
  conv => lhs; rw [e]
  have hb := bound2 (x % 256) (by omega)
  rw [s21_step k _ _ (by omega), s3_step k _ _ hb.1 (s21_low k _ hx), (byte_pc (x % 256) (by omega)).1]

theorem pcN_add : ∀ m n x, pcN (m + n) x = pcN m x + pcN n (x / 2 ^ m)
  | 0, n, x => by simp [pcN]
  | m + 1, n, x => by
    rw [show m + 1 + n = (m + n) + 1 by omega, pcN, pcN, pcN_add m n (x / 2), Nat.div_div_eq_div_mul, Nat.pow_succ, Nat.mul_comm 2]
    omega

/-- The eight bytes' counts. -/
theorem eight (x : Nat) (h : x < 18446744073709551616) : ∃ p0 p1 p2 p3 p4 p5 p6 p7, p0 ≤ 8 ∧ p1 ≤ 8 ∧ p2 ≤ 8 ∧ p3 ≤ 8 ∧ p4 ≤ 8 ∧ p5 ≤ 8 ∧ p6 ≤ 8 ∧ p7 ≤ 8 ∧
    s3 8 (s2 8 (s1 8 x)) = p0 + 256 * (p1 + 256 * (p2 + 256 * (p3 + 256 * (p4 + 256 * (p5 + 256 * (p6 + 256 * p7)))))) ∧ pcN 64 x = p0 + (p1 + (p2 + (p3 + (p4 + (p5 + (p6 + p7)))))) := by
  have hp : ∀ b, b < 256 → pcN 8 b ≤ 8 := fun b hb => (byte_pc b hb).2
  have hm : ∀ n x, pcN (8 + n) x = pcN 8 (x % 256) + pcN n (x / 256) := by
    intro n x
    rw [pcN_add 8 n x]
    congr 1
    simp only [pcN]
    omega
  have z : s3 0 (s2 0 (s1 0 (x / 256 / 256 / 256 / 256 / 256 / 256 / 256 / 256))) = 0 := by
    simp [s3, mk]
  refine ⟨pcN 8 (x % 256), pcN 8 (x / 256 % 256), pcN 8 (x / 256 / 256 % 256), pcN 8 (x / 256 / 256 / 256 % 256), pcN 8 (x / 256 / 256 / 256 / 256 % 256), pcN 8 (x / 256 / 256 / 256 / 256 / 256 % 256), pcN 8 (x / 256 / 256 / 256 / 256 / 256 / 256 % 256), pcN 8 (x / 256 / 256 / 256 / 256 / 256 / 256 / 256 % 256),
    hp _ (by omega), hp _ (by omega), hp _ (by omega), hp _ (by omega), hp _ (by omega), hp _ (by omega), hp _ (by omega), hp _ (by omega), ?_, ?_⟩
  · rw [s321_step 7 x (by omega), s321_step 6 _ (by omega), s321_step 5 _ (by omega), s321_step 4 _ (by omega), s321_step 3 _ (by omega), s321_step 2 _ (by omega), s321_step 1 _ (by omega), s321_step 0 _ (by omega), z]
    omega
  · rw [show 64 = 8 + (8 + (8 + (8 + (8 + (8 + (8 + (8 + 0))))))) from rfl, hm, hm, hm, hm, hm, hm, hm, hm, pcN]
    omega

theorem pcN_zero : ∀ n, pcN n 0 = 0
  | 0 => rfl
  | n + 1 => by rw [pcN, Nat.zero_div, pcN_zero n]
theorem pcN_le : ∀ n x, pcN n x ≤ n
  | 0, _ => Nat.le_refl _
  | n + 1, x => by have := pcN_le n (x / 2); rw [pcN]; omega

/-- What both have, and what either has. -/
theorem pcN_or_and : ∀ n x y, pcN n (x ||| y) + pcN n (x &&& y) = pcN n x + pcN n y
  | 0, _, _ => rfl
  | n + 1, x, y => by
    have ih := pcN_or_and n (x / 2) (y / 2)
    have e1 : (x ||| y) / 2 = x / 2 ||| y / 2 := Nat.or_div_two
    have e2 : (x &&& y) / 2 = x / 2 &&& y / 2 := Nat.and_div_two
    have e3 : (x ||| y) % 2 + (x &&& y) % 2 = x % 2 + y % 2 := by
      have a := Nat.or_mod_two_pow (n := 1) (a := x) (b := y)
      have b := Nat.and_mod_two_pow (n := 1) (a := x) (b := y)
      simp only [Nat.pow_one] at a b
      rw [a, b]
      rcases Nat.mod_two_eq_zero_or_one x with h | h <;> rcases Nat.mod_two_eq_zero_or_one y with k | k <;> rw [h, k] <;> rfl
    rw [pcN, pcN, pcN, pcN, e1, e2]
    omega

end Go.Proofs.YtfcdmkfbkkogbaaDoor.Bits
