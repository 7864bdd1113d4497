/- Sets as rows of words: And, Less. -/
import Derived.Test.YtfcdmkfbkkogbaaDoorBitsB
namespace Go.Proofs.YtfcdmkfbkkogbaaDoor.Bits
open Go Go.RowKit

/-- The same memory, streams and tape. -/
def Like (w' w : World) : Prop := w'.heap = w.heap ∧ w'.os = w.os ∧ w'.tape = w.tape ∧ w'.output = w.output
theorem Below.like {B : Nat} {w w' w'' : World} (h : Below B w w') (k : Like w'' w') : Below B w w'' :=
  h.trans ⟨k.2.1, k.2.2.1, k.2.2.2, by rw [k.1]; exact Nat.le_refl _, fun i _ => by rw [k.1]⟩
theorem Like.owns {w' w : World} (h : Like w' w) {S e size n : Nat} {v : Value} {xs : List Value} (k : w.ownsRow S e size v n xs) : w'.ownsRow S e size v n xs := by
  unfold World.ownsRow at k ⊢
  rw [h.1]
  exact k

/-- The first i words turned. -/
def stepL (f : Nat → Nat → Nat) (l : List Nat) (i : Nat) : List Nat := l.mapIdx fun j x => if j < i then f j x else x

theorem stepL_length (f : Nat → Nat → Nat) (l : List Nat) (i : Nat) : (stepL f l i).length = l.length := List.length_mapIdx
theorem stepL_zero (f : Nat → Nat → Nat) (l : List Nat) : stepL f l 0 = l := by
  apply List.ext_getElem?
  intro j
  simp [stepL]
theorem stepL_get (f : Nat → Nat → Nat) (l : List Nat) (i j : Nat) : (stepL f l i)[j]? = l[j]?.map fun x => if j < i then f j x else x := by
  simp [stepL, List.getElem?_mapIdx]
theorem stepL_succ (f : Nat → Nat → Nat) (l : List Nat) (i x : Nat) (h : l[i]? = some x) : stepL f l (i + 1) = (stepL f l i).set i (f i x) := by
  apply List.ext_getElem?
  intro j
  rw [List.getElem?_set, stepL_length, stepL_get, stepL_get]
  have hi := (List.getElem?_eq_some_iff.1 h).1
  by_cases e : i = j
  · subst e
    rw [if_pos rfl, if_pos hi, h]
    simp
  · rw [if_neg e]
    congr 1
    funext x
    have : j < i + 1 ↔ j < i := by omega
    simp [this]
theorem words_set (l : List Nat) (i x : Nat) : words (l.set i x) = (words l).set i (wordV x) := by
  simp [words, List.map_set]
theorem words_take (l : List Nat) (k : Nat) : words (l.take k) = (words l).take k := by
  simp [words, List.map_take]

/-- What a loop over the words of a row of one's own keeps. -/
def Row (w : World) (S g cap : Nat) (l : List Nat) (f : Nat → Nat → Nat) (i : Nat) (wr : World) : Prop :=
  wr.ownsRow S 94 1 (.slice (some ⟨g, 0, none⟩) l.length cap) l.length (words (stepL f l i)) ∧ Below S w wr

theorem Row.cell {w wr : World} {S g cap : Nat} {l : List Nat} {f : Nat → Nat → Nat} {i x : Nat} (h : Row w S g cap l f i wr) (hx : l[i]? = some x) : wr.cell? ⟨g, i, none⟩ = some (wordV x) := by
  have hi := (List.getElem?_eq_some_iff.1 hx).1
  rw [h.1.cellAt i (by omega), words_get, stepL_get, hx]
  simp

theorem Row.set {w wr w' : World} {S g cap : Nat} {l : List Nat} {f : Nat → Nat → Nat} {i x : Nat} (h : Row w S g cap l f i wr) (hx : l[i]? = some x) (hl : Like w' (wr.setCell ⟨g, i, none⟩ (wordV (f i x)))) : Row w S g cap l f (i + 1) w' := by
  obtain ⟨s1, s2⟩ := h.1.stored i (wordV (f i x))
  have hS := h.1.lt g rfl
  refine ⟨hl.owns ?_, Below.like (h.2.setCell hS.1 _) hl⟩
  rw [stepL_succ f l i x hx, words_set]
  exact s1

theorem Row.skip {w wr : World} {S g cap : Nat} {l : List Nat} {f : Nat → Nat → Nat} {i x : Nat} (h : Row w S g cap l f i wr) (hx : l[i]? = some x) (hf : f i x = x) : Row w S g cap l f (i + 1) wr := by
  refine ⟨?_, h.2⟩
  have : stepL f l (i + 1) = stepL f l i := by
    rw [stepL_succ f l i x hx, hf]
    apply List.ext_getElem?
    intro j
    rw [List.getElem?_set]
    by_cases e : i = j
    · subst e
      rw [if_pos rfl, stepL_get, hx]
      have hi := (List.getElem?_eq_some_iff.1 hx).1
      rw [if_pos (by rw [stepL_length]; exact hi)]
      simp
    · rw [if_neg e]
  rw [this]
  exact h.1

theorem own_take {w : World} {S g cap n k : Nat} {xs : List Value} (h : w.ownsRow S 94 1 (.slice (some ⟨g, 0, none⟩) n cap) n xs) (hk : k ≤ n) : w.ownsRow S 94 1 (.slice (some ⟨g, 0, none⟩) k cap) k (xs.take k) := by
  have h1 := h.1
  refine ⟨by rw [List.length_take]; omega, ?_⟩
  rcases h.2 with ⟨e, _⟩ | ⟨g', cap', cur, e1, e2, e3, e4, e5, e6, e7⟩
  · cases e
  · simp only [Value.slice.injEq, Option.some.injEq, Addr.mk.injEq, and_true, true_and] at e1
    obtain ⟨rfl, rfl⟩ := e1
    refine .inr ⟨g, cap, cur, rfl, e2, e3, by omega, e5, e6, ?_⟩
    rw [← e7, List.take_take]
    congr 1; omega

/-- The words behind the loop, as far as they count. -/
theorem wd_step {s : List Nat} {f : Nat → Nat → Nat} (hf0 : ∀ i, f i 0 = 0) (i : Nat) :
    wd ((stepL f (s.take (tl s)) (s.take (tl s)).length).take (tl (stepL f (s.take (tl s)) (s.take (tl s)).length))) i = f i (wd s i) := by
  rw [wd_take]
  have htl := tl_le s
  by_cases h : i < tl s
  · have hlt : i < (s.take (tl s)).length := by rw [List.length_take]; omega
    rw [wd_lt h]
    unfold wd
    rw [if_pos (by omega), List.getD_eq_getElem?_getD, stepL_get, show (fun x => if i < (s.take (tl s)).length then f i x else x) = f i from funext fun x => if_pos hlt, List.getElem?_take_of_lt h, List.getElem?_eq_getElem (by omega), List.getD_eq_getElem?_getD, List.getElem?_eq_getElem (by omega)]
    rfl
  · rw [wd_ge (l := s) (by omega), hf0]
    unfold wd
    split
    · exact getD_ge (by rw [stepL_length, List.length_take]; omega)
    · rfl

theorem tl_of_take {l : List Nat} : tl (l.take (tl l)) = (l.take (tl l)).length := by
  have h := tl_le l
  have e : tl (l.take (tl l)) = tl l := tl_eq fun i => wd_take i
  rw [e, List.length_take]; omega

/-- x without what y has. -/
def lessW (x y : Nat) : Nat := x &&& (18446744073709551615 - y)
theorem lessW_zero {x : Nat} (h : x < 18446744073709551616) : lessW x 0 = x := by
  unfold lessW
  rw [Nat.sub_zero]
  exact Nat.and_two_pow_sub_one_of_lt_two_pow (n := 64) h
theorem lessW_lt {x : Nat} (y : Nat) (h : x < 18446744073709551616) : lessW x y < 18446744073709551616 := Nat.lt_of_le_of_lt Nat.and_le_left h
theorem run_less (x y : Nat) (hx : x < 18446744073709551616) (hy : y < 18446744073709551616) (w : World) : (binOp .andNot 94 (wordV x) (wordV y)).run Tryd.prog w = .ok (wordV (lessW x y)) w := by
  have h := u64_andNot_nat x y hx hy
  simp [binOp, go_sem, h, lessW]
theorem run_and (x y : Nat) (hx : x < 18446744073709551616) (hy : y < 18446744073709551616) (w : World) : (binOp .and 94 (wordV x) (wordV y)).run Tryd.prog w = .ok (wordV (x &&& y)) w := by
  have h := u64_and_nat x y hx hy
  simp [binOp, go_sem, h]
theorem run_or (x y : Nat) (hx : x < 18446744073709551616) (hy : y < 18446744073709551616) (w : World) : (binOp .or 94 (wordV x) (wordV y)).run Tryd.prog w = .ok (wordV (x ||| y)) w := by
  have h := u64_or_nat x y hx hy
  simp [binOp, go_sem, h]

end Go.Proofs.YtfcdmkfbkkogbaaDoor.Bits
