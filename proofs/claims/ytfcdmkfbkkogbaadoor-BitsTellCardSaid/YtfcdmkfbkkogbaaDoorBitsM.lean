/- The laws of sets, of words. -/
import Derived.Test.YtfcdmkfbkkogbaaDoorBitsL
namespace Go.Proofs.YtfcdmkfbkkogbaaDoor.Bits
open Go Go.RowKit

theorem not_testBit (y : Nat) (h : y < 18446744073709551616) (i : Nat) : (18446744073709551615 - y).testBit i = (decide (i < 64) && !y.testBit i) := by
  have := Nat.testBit_two_pow_sub_succ (n := 64) (x := y) h i
  have e : 2 ^ 64 - (y + 1) = 18446744073709551615 - y := by omega
  rw [e] at this
  exact this
theorem high_testBit {x : Nat} (h : x < 18446744073709551616) {i : Nat} (hi : ¬ i < 64) : x.testBit i = false :=
  Nat.testBit_lt_two_pow (Nat.lt_of_lt_of_le h (Nat.le_trans (by decide : 18446744073709551616 ≤ 2 ^ 64) (Nat.pow_le_pow_right (by decide) (by omega))))

theorem less_or_and {x y : Nat} (hx : x < 18446744073709551616) (hy : y < 18446744073709551616) : lessW x y ||| (x &&& y) = x := by
  apply Nat.eq_of_testBit_eq
  intro i
  unfold lessW
  rw [Nat.testBit_or, Nat.testBit_and, Nat.testBit_and, not_testBit y hy]
  by_cases hi : i < 64
  · simp [hi]; cases x.testBit i <;> cases y.testBit i <;> rfl
  · rw [high_testBit hx hi]; rfl
theorem or_less {x t : Nat} (ht : t < 18446744073709551616) : lessW (x ||| t) t = lessW x t := by
  apply Nat.eq_of_testBit_eq
  intro i
  unfold lessW
  rw [Nat.testBit_and, Nat.testBit_and, not_testBit t ht, Nat.testBit_or]
  cases x.testBit i <;> cases t.testBit i <;> simp
theorem less_self {x : Nat} (hx : x < 18446744073709551616) : lessW x x = 0 := by
  apply Nat.eq_of_testBit_eq
  intro i
  unfold lessW
  rw [Nat.testBit_and, not_testBit x hx, Nat.zero_testBit]
  cases x.testBit i <;> simp
theorem xor_one_ne (x : Nat) : x ^^^ 1 ≠ x := by
  intro h
  have h1 : x ^^^ (x ^^^ 1) = x ^^^ x := by rw [h]
  rw [← Nat.xor_assoc, Nat.xor_self, Nat.zero_xor] at h1
  omega
theorem xor_one_lt {x : Nat} (hx : x < 18446744073709551616) : x ^^^ 1 < 18446744073709551616 := Nat.xor_lt_two_pow (n := 64) hx (by decide)

theorem cntTo_or_and (f g : Nat → Nat) : ∀ k, cntTo (fun i => f i ||| g i) k + cntTo (fun i => f i &&& g i) k = cntTo f k + cntTo g k
  | 0 => rfl
  | k + 1 => by
    have ih := cntTo_or_and f g k
    have := pcN_or_and 64 (f k) (g k)
    simp only [cntTo]
    omega
theorem count_or_and {a b o d : List Nat} (ho : ∀ i, wd o i = wd a i ||| wd b i) (hd : ∀ i, wd d i = wd a i &&& wd b i) : count o + count d = count a + count b := by
  have h := cntTo_or_and (wd a) (wd b) 1024
  unfold count
  rw [← h, show wd o = fun i => wd a i ||| wd b i from funext ho, show wd d = fun i => wd a i &&& wd b i from funext hd]
theorem count_le (l : List Nat) : count l ≤ 65536 := cntTo_le (wd l) 1024
theorem count_zero {l : List Nat} (h : ∀ i, wd l i = 0) : count l = 0 := by
  have := cntTo_stop (wd l) 0 (fun i _ => h i) 1024
  rw [Nat.zero_add] at this
  exact this

theorem Words.bound {w : World} {v : Value} {l : List Nat} (h : Words w v l) : ∀ x ∈ l, x < 18446744073709551616 := h.2.1
theorem Own.bound {w : World} {S : Nat} {v : Value} {l : List Nat} (h : Own w S v l) : ∀ x ∈ l, x < 18446744073709551616 := h.2.1
theorem nil_words (w : World) : Words w (.slice none 0 0) [] := ⟨.inl ⟨rfl, rfl⟩, by simp, by simp [maxLen]⟩

/-- What the law's walk keeps: the arguments read, and the table stands. -/
def At (w : World) (va vb : Value) (a b : List Nat) (wk : World) : Prop :=
  Words wk va a ∧ Words wk vb b ∧ Below w.heap.size w wk ∧ wk.cell? ⟨2, 0, none⟩ = some (.int .u8 0)
theorem At.next {w wk w' : World} {va vb : Value} {a b : List Nat} (h : At w va vb a b wk) (hb : Below wk.heap.size wk w') : At w va vb a b w' :=
  ⟨h.1.stay hb, h.2.1.stay hb, h.2.2.1.trans (hb.mono h.2.2.1.size), (hb.cell (p := ⟨2, 0, none⟩) (lt_of_cell h.2.2.2)).trans h.2.2.2⟩
theorem At.like {w wk w' : World} {va vb : Value} {a b : List Nat} (h : At w va vb a b wk) (hb : Like w' wk) : At w va vb a b w' := h.next (hb.below _)

end Go.Proofs.YtfcdmkfbkkogbaaDoor.Bits
