/- Three lists that grow; what two sets make. -/
import Derived.Test.YtfcdmkfbkkogbaaDoorBitsX
import Derived.Maps.AppendAt
namespace Go.Proofs.YtfcdmkfbkkogbaaDoor.Bits
open Go Go.RowKit

/-- Two slices share no block. -/
def apart (v u : Value) : Prop := ∀ g, v.ownBlock = some g → u.ownBlock ≠ some g
theorem apart.symm {v u : Value} (h : apart v u) : apart u v := fun g hu hv => h g hv hu

def Three (w : World) (S : Nat) (v1 v2 v3 : Value) (L1 L2 L3 : List Nat) : Prop :=
  w.ownsRow S 3 1 v1 L1.length (ints L1) ∧ w.ownsRow S 3 1 v2 L2.length (ints L2) ∧ w.ownsRow S 3 1 v3 L3.length (ints L3) ∧ apart v1 v2 ∧ apart v1 v3 ∧ apart v2 v3
theorem Three.swap12 {w : World} {S : Nat} {v1 v2 v3 : Value} {L1 L2 L3 : List Nat} (h : Three w S v1 v2 v3 L1 L2 L3) : Three w S v2 v1 v3 L2 L1 L3 :=
  ⟨h.2.1, h.1, h.2.2.1, h.2.2.2.1.symm, h.2.2.2.2.2, h.2.2.2.2.1⟩
theorem Three.swap13 {w : World} {S : Nat} {v1 v2 v3 : Value} {L1 L2 L3 : List Nat} (h : Three w S v1 v2 v3 L1 L2 L3) : Three w S v3 v2 v1 L3 L2 L1 :=
  ⟨h.2.2.1, h.2.1, h.1, h.2.2.2.2.2.symm, h.2.2.2.2.1.symm, h.2.2.2.1.symm⟩
theorem Three.alloc {w : World} {S : Nat} {v1 v2 v3 : Value} {L1 L2 L3 : List Nat} (h : Three w S v1 v2 v3 L1 L2 L3) (o : Obj) : Three (w.alloc o) S v1 v2 v3 L1 L2 L3 :=
  ⟨h.1.alloc o, h.2.1.alloc o, h.2.2.1.alloc o, h.2.2.2⟩
theorem own_block_lt {w : World} {S n : Nat} {v : Value} {xs : List Value} (h : w.ownsRow S 3 1 v n xs) {g : Nat} (hg : v.ownBlock = some g) : g < w.heap.size := by
  rcases h.2 with ⟨rfl, _⟩ | ⟨g', cap, cur, rfl, _, e3, _⟩
  · cases hg
  · cases hg
    exact (Array.getElem?_eq_some_iff.1 e3).1
theorem apart.hne {v u : Value} (h : apart v u) : u.ownBlock = none ∨ u.ownBlock ≠ v.ownBlock := by
  cases hu : u.ownBlock with
  | none => exact .inl rfl
  | some g => exact .inr fun e => h g e.symm hu
theorem apart.grown {w : World} {S n : Nat} {v v' u : Value} {xs : List Value} (h : apart v u) (hu : w.ownsRow S 3 1 u n xs) (hb : v'.ownBlock = v.ownBlock ∨ v'.ownBlock = some w.heap.size) : apart v' u := fun g hg hug => by
  rcases hb with e | e
  · exact h g (e ▸ hg) hug
  · rw [e] at hg
    cases hg
    exact absurd (own_block_lt hu hug) (Nat.lt_irrefl _)
theorem Three.push {w w' : World} {S x : Nat} {v1 v1' v2 v3 : Value} {L1 L2 L3 : List Nat} (h : Three w S v1 v2 v3 L1 L2 L3) (ho : w'.ownsRow S 3 1 v1' (L1.length + 1) (ints L1 ++ [.int .i64 (x : Int)])) (hg : w.grownBy w' v1.ownBlock)
    (hb : v1'.ownBlock = v1.ownBlock ∨ v1'.ownBlock = some w.heap.size) : Three w' S v1' v2 v3 (L1 ++ [x]) L2 L3 := by
  refine ⟨?_, h.2.1.kept hg h.2.2.2.1.hne, h.2.2.1.kept hg h.2.2.2.2.1.hne, h.2.2.2.1.grown h.2.1 hb, h.2.2.2.2.1.grown h.2.2.1 hb, h.2.2.2.2.2⟩
  rw [ints_append, List.length_append]
  exact ho

theorem filt_snoc (p : Nat → Bool) (k : Nat) : filt p (k + 1) 0 = if p k then filt p k 0 ++ [k] else filt p k 0 := by
  rw [filt_append, Nat.zero_add, filt, filt]
  split <;> simp

def sameTo (a b : List Nat) : Nat → Bool
  | 0 => true
  | k + 1 => sameTo a b k && (mem a k == mem b k)
theorem sameTo_iff (a b : List Nat) : ∀ k, sameTo a b k = true ↔ ∀ n, n < k → mem a n = mem b n
  | 0 => by simp [sameTo]
  | k + 1 => by
    rw [sameTo, Bool.and_eq_true, sameTo_iff a b k, beq_iff_eq]
    constructor
    · rintro ⟨h1, h2⟩ n hn
      by_cases e : n = k
      · rw [e]; exact h2
      · exact h1 n (by omega)
    · intro h
      exact ⟨fun n hn => h n (by omega), h k (by omega)⟩

theorem mem_short {a : List Nat} (h : a.length ≤ 20) {n : Nat} (hn : 1280 ≤ n) : mem a n = false := mem_high (by have := (tl_le a).1; omega)
theorem sameTo_all {a b : List Nat} (ha : a.length ≤ 20) (hb : b.length ≤ 20) (hla : ∀ x ∈ a, x < 18446744073709551616) (hlb : ∀ x ∈ b, x < 18446744073709551616) : sameTo a b 1280 = sameB a b := by
  rw [Bool.eq_iff_iff, sameTo_iff, same_iff]
  constructor
  · intro h i
    refine wd_ext hla hlb (fun n => ?_) i
    by_cases hn : n < 1280
    · exact h n hn
    · rw [mem_short ha (by omega), mem_short hb (by omega)]
  · intro h n _
    exact mem_congr h n
/-- Tidy sets with the same numbers are the same words. -/
theorem tidy_eq {l r : List Nat} (hl : ∀ x ∈ l, x < 18446744073709551616) (hr : ∀ x ∈ r, x < 18446744073709551616) (tl1 : tl l = l.length) (tr : tl r = r.length) (h : ∀ n, mem l n = mem r n) : l = r := by
  have := take_congr (wd_ext hl hr h)
  rw [tl1, tr, List.take_length, List.take_length] at this
  exact this
theorem in_filt {p : Nat → Bool} (hp : ∀ n, 1280 ≤ n → p n = false) (n : Nat) : n ∈ filt p 1280 0 ↔ p n = true := by
  rw [mem_filt]
  constructor
  · intro h; exact h.2.2
  · intro h
    refine ⟨Nat.zero_le _, ?_, h⟩
    apply Nat.lt_of_not_le
    intro hle
    rw [hp n (by omega)] at h
    cases h

def orP (a b : List Nat) (n : Nat) : Bool := mem a n || mem b n
def andP (a b : List Nat) (n : Nat) : Bool := mem a n && mem b n
def lessP (a b : List Nat) (n : Nat) : Bool := mem a n && !mem b n
theorem made_eq {l r : List Nat} {p : Nat → Bool} (hp : ∀ n, 1280 ≤ n → p n = false) (hl : ∀ x ∈ l, x < 18446744073709551616) (hr : ∀ x ∈ r, x < 18446744073709551616) (tl1 : tl l = l.length) (tr : tl r = r.length) (h : ∀ n, mem l n = p n) (h2 : ∀ n, mem r n = true ↔ n ∈ filt p 1280 0) : l = r :=
  tidy_eq hl hr tl1 tr fun n => by rw [Bool.eq_iff_iff, h n, h2 n, in_filt hp]
theorem or_mem {a b l : List Nat} (h : ∀ i, wd l i = wd a i ||| wd b i) (n : Nat) : mem l n = orP a b n := by
  unfold orP mem
  rw [h, Nat.testBit_or]
theorem and_mem {a b l : List Nat} (h : ∀ i, wd l i = andF b i (wd a i)) (n : Nat) : mem l n = andP a b n := by
  unfold andP mem
  rw [h]
  unfold andF
  rw [Nat.testBit_and]
theorem less_mem {a b l : List Nat} (hb : ∀ x ∈ b, x < 18446744073709551616) (h : ∀ i, wd l i = lessF b i (wd a i)) (n : Nat) : mem l n = lessP a b n := by
  unfold lessP mem
  rw [h]
  unfold lessF lessW
  rw [Nat.testBit_and, not_testBit _ (wd_bound hb _), decide_eq_true (Nat.mod_lt _ (by omega)), Bool.true_and]

end Go.Proofs.YtfcdmkfbkkogbaaDoor.Bits
