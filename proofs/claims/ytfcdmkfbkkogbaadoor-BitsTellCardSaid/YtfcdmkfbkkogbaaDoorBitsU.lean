/- The law of the walk over a set, walked. -/
import Derived.Test.YtfcdmkfbkkogbaaDoorBitsT
import Derived.Deep.QuietTactic
import Derived.BigQuiet
namespace Go.Proofs.YtfcdmkfbkkogbaaDoor.Bits
open Go Go.RowKit

theorem own_len {w : World} {S n : Nat} {v : Value} {xs : List Value} (h : w.ownsRow S 3 1 v n xs) (ty : TypeId) (w' : World) : (Builtin.len_ #[51] ty #[v]).run Tryd.prog w' = .ok (.int .i64 (n : Int)) w' := by
  rcases h.2 with ⟨rfl, rfl⟩ | ⟨g, cap, cur, rfl, _⟩
  · simp [Builtin.len_, run_underlying Tryd.underlying51, goInt, Result.andThen]
  · simp [Builtin.len_, run_underlying Tryd.underlying51, goInt, Result.andThen]
theorem own_stay {w w' : World} {S e n : Nat} {v : Value} {xs : List Value} (h : w.ownsRow S e 1 v n xs) (hb : Below w.heap.size w w') : w'.ownsRow S e 1 v n xs := by
  refine ⟨h.1, ?_⟩
  rcases h.2 with h0 | ⟨g, cap, cur, e1, e2, e3, e4⟩
  · exact .inl h0
  · exact .inr ⟨g, cap, cur, e1, e2, (hb.block g (Array.getElem?_eq_some_iff.1 e3).1).trans e3, e4⟩
theorem own_ints {w : World} {S : Nat} {v : Value} {L : List Nat} (h : w.ownsRow S 3 1 v L.length (ints L)) (hl : L.length ≤ 1000000) : Ints w v (L.map Int.ofNat) := by
  refine ⟨?_, by rw [List.length_map]; exact hl⟩
  rcases h.2 with ⟨rfl, h0⟩ | ⟨g, cap, cur, rfl, e2, e3, e4⟩
  · exact .inl ⟨rfl, by rw [List.length_eq_zero_iff.1 h0]; rfl⟩
  · refine .inr ⟨g, 0, cap, by rw [List.length_map], (Array.getElem?_eq_some_iff.1 e3).1, fun i x hx => ?_⟩
    have hi := (List.getElem?_eq_some_iff.1 hx).1
    rw [List.length_map] at hi
    rw [Nat.zero_add, h.cellAt i (by omega), ints]
    rw [List.getElem?_map, Option.map_eq_some_iff] at hx ⊢
    obtain ⟨a, ha, rfl⟩ := hx
    exact ⟨a, ha, rfl⟩

def longTo (L : List Nat) : Nat → Nat
  | 0 => 0
  | i + 1 => L.getD i 0 / 64 * 8 + 8
theorem longTo_all {l : List Nat} (hl : ∀ x ∈ l, x < 18446744073709551616) : longTo (allOf l) (allOf l).length = (keyS l).size := by
  rw [key_size]
  cases h : (allOf l).length with
  | zero => rw [tl_none hl (List.length_eq_zero_iff.1 h)]; rfl
  | succ n =>
    obtain ⟨m, hm⟩ : ∃ m, (allOf l)[n]? = some m := ⟨(allOf l)[n], List.getElem?_eq_getElem _⟩
    have := tl_last hl (m := m) (by rw [List.getLast?_eq_getElem?, h]; exact hm)
    rw [longTo, List.getD_eq_getElem?_getD, hm, this]
    show m / 64 * 8 + 8 = 8 * (m / 64 + 1)
    omega
theorem next_after {l : List Nat} {j m : Nat} (h : (allOf l)[j]? = some m) : nextI l (m + 1) = hd ((allOf l).drop (j + 1)) := by
  have := filt_after (mem l) 65536 0 j m h
  unfold nextI
  rw [show 65536 - (m + 1) = 65536 + 0 - (m + 1) by omega, this, allOf]
theorem next_first (l : List Nat) : nextI l (Int.toNat (-5)) = hd (allOf l) := by
  unfold nextI allOf
  rw [show Int.toNat (-5) = 0 by decide, Nat.sub_zero]

theorem next_quiet {w w' : World} {v : Value} {l : List Nat} (H : Words w v l) (T : Tab w) (k : Like w' w) (m : Nat) (hm : m < 65536) :
    Calls Tryd.prog 47 #[v, .int .i64 ((m : Int) + 1)] w' fun e w'' => e = .returned (.int .i64 (nextI l (m + 1))) ∧ w'' = w' := by
  have := next_nat (H.stay (k.below _)) (T.stay (k.below _)) (m + 1) (by omega)
  rw [show ((m + 1 : Nat) : Int) = (m : Int) + 1 by omega] at this
  refine this.mono ?_
  rintro e w'' ⟨h1, h2⟩
  exact ⟨h1, h2.symm⟩

end Go.Proofs.YtfcdmkfbkkogbaaDoor.Bits
