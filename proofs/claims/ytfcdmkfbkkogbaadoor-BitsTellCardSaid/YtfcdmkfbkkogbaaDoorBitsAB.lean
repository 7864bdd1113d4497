/- What the law of BitsTell keeps, round for round. -/
import Derived.Test.YtfcdmkfbkkogbaaDoorBitsAA
namespace Go.Proofs.YtfcdmkfbkkogbaaDoor.Bits
open Go Go.RowKit

def outOf (n : Int) : Bool := decide (n < 0) || decide (65536 ≤ n)
def nextTo (n : Int) (L : List Nat) : Nat → Int
  | 0 => -1
  | j + 1 => if nextTo n L j < 0 ∧ n ≤ (L.getD j 0 : Int) then (L.getD j 0 : Int) else nextTo n L j
def hadTo (n : Int) (L : List Nat) : Nat → Bool
  | 0 => outOf n
  | j + 1 => hadTo n L j || decide (n ≤ (L.getD j 0 : Int))
def withoutTo (n : Int) (L : List Nat) : Nat → List Nat
  | 0 => []
  | j + 1 => if (L.getD j 0 : Int) = n then withoutTo n L j else withoutTo n L j ++ [L.getD j 0]
def withTo (n : Int) (L : List Nat) : Nat → List Nat
  | 0 => []
  | j + 1 =>
    if (L.getD j 0 : Int) = n then (if hadTo n L j = false ∧ n ≤ (L.getD j 0 : Int) then withTo n L j ++ [n.toNat] else withTo n L j)
    else (if hadTo n L j = false ∧ n ≤ (L.getD j 0 : Int) then withTo n L j ++ [n.toNat] else withTo n L j) ++ [L.getD j 0]

theorem out_true {n : Int} (h : outOf n = true) : n < 0 ∨ 65536 ≤ n := by
  unfold outOf at h
  rwa [Bool.or_eq_true, decide_eq_true_eq, decide_eq_true_eq] at h
theorem out_false {n : Int} (h : outOf n = false) : 0 ≤ n ∧ n < 65536 := by
  unfold outOf at h
  rw [Bool.or_eq_false_iff, decide_eq_false_iff_not, decide_eq_false_iff_not] at h
  omega
theorem nextTo_range (n : Int) (L : List Nat) (h : ∀ x ∈ L, x < 65536) : ∀ j, j ≤ L.length → -1 ≤ nextTo n L j ∧ nextTo n L j < 65536
  | 0, _ => by simp [nextTo]
  | j + 1, hj => by
    have ih := nextTo_range n L h j (by omega)
    rw [nextTo]
    have hx := h L[j] (List.getElem_mem (by omega))
    have e : L.getD j 0 = L[j] := by rw [List.getD_eq_getElem?_getD, List.getElem?_eq_getElem (by omega)]; rfl
    rw [e]
    split <;> omega

theorem lt_of_rise {L : List Nat} (hp : L.Pairwise (· < ·)) {i j x y : Nat} (hi : L[i]? = some x) (hj : L[j]? = some y) (hij : i < j) : x < y := by
  obtain ⟨h1, rfl⟩ := List.getElem?_eq_some_iff.1 hi
  obtain ⟨h2, rfl⟩ := List.getElem?_eq_some_iff.1 hj
  exact List.pairwise_iff_getElem.1 hp i j h1 h2 hij

theorem take_mem {L : List Nat} {j x y : Nat} (hj : L[j]? = some x) : y ∈ L.take (j + 1) ↔ y ∈ L.take j ∨ y = x := by
  rw [List.take_add_one, hj, List.mem_append]
  simp
theorem take_lt {L : List Nat} (hp : L.Pairwise (· < ·)) {j x y : Nat} (hj : L[j]? = some x) (hy : y ∈ L.take j) : y < x := by
  obtain ⟨i, hi⟩ := List.getElem?_of_mem hy
  have hil := (List.getElem?_eq_some_iff.1 hi).1
  rw [List.length_take] at hil
  rw [List.getElem?_take_of_lt (by omega)] at hi
  exact lt_of_rise hp hi hj (by omega)

theorem without_spec {n : Int} {L : List Nat} (hp : L.Pairwise (· < ·)) : ∀ j, j ≤ L.length → (withoutTo n L j).Pairwise (· < ·) ∧ (∀ y, y ∈ withoutTo n L j ↔ y ∈ L.take j ∧ (y : Int) ≠ n)
  | 0, _ => by simp [withoutTo]
  | j + 1, hj => by
    obtain ⟨ih1, ih2⟩ := without_spec (n := n) hp j (by omega)
    obtain ⟨x, hx⟩ : ∃ x, L[j]? = some x := ⟨L[j], List.getElem?_eq_getElem _⟩
    have e : L.getD j 0 = x := by rw [List.getD_eq_getElem?_getD, hx]; rfl
    rw [withoutTo, e]
    by_cases h : (x : Int) = n
    · rw [if_pos h]
      refine ⟨ih1, fun y => ?_⟩
      rw [ih2, take_mem hx]
      constructor
      · rintro ⟨h1, h2⟩; exact ⟨.inl h1, h2⟩
      · rintro ⟨h1 | rfl, h2⟩
        · exact ⟨h1, h2⟩
        · exact absurd h h2
    · rw [if_neg h]
      refine ⟨List.pairwise_append.2 ⟨ih1, by simp, fun y hy z hz => ?_⟩, fun y => ?_⟩
      · simp at hz; subst hz
        exact take_lt hp hx ((ih2 y).1 hy).1
      · rw [List.mem_append, ih2, take_mem hx, List.mem_singleton]
        constructor
        · rintro (⟨h1, h2⟩ | rfl)
          · exact ⟨.inl h1, h2⟩
          · exact ⟨.inr rfl, h⟩
        · rintro ⟨h1 | rfl, h2⟩
          · exact .inl ⟨h1, h2⟩
          · exact .inr rfl

def withMid (n : Int) (L : List Nat) (j : Nat) : List Nat := if hadTo n L j = false ∧ n ≤ (L.getD j 0 : Int) then withTo n L j ++ [n.toNat] else withTo n L j
theorem withTo_eq {n : Int} {L : List Nat} {j : Nat} (h : (L.getD j 0 : Int) = n) : withTo n L (j + 1) = withMid n L j := by rw [withTo, if_pos h]; rfl
theorem withTo_ne {n : Int} {L : List Nat} {j : Nat} (h : (L.getD j 0 : Int) ≠ n) : withTo n L (j + 1) = withMid n L j ++ [L.getD j 0] := by rw [withTo, if_neg h]; rfl

theorem rise_snoc {W : List Nat} {x : Nat} (h : W.Pairwise (· < ·)) (hx : ∀ y ∈ W, y < x) : (W ++ [x]).Pairwise (· < ·) :=
  List.pairwise_append.2 ⟨h, by simp, fun y hy z hz => by simp at hz; subst hz; exact hx y hy⟩

/-- What 'with' holds: rising; where the number is no number of sets: the list; where it has come: the list and the number; else the list, all less. -/
def WithIs (n : Int) (L : List Nat) (j : Nat) : Prop :=
  (withTo n L j).Pairwise (· < ·) ∧
    ((outOf n = true ∧ hadTo n L j = true ∧ ∀ y, y ∈ withTo n L j ↔ y ∈ L.take j) ∨
     (outOf n = false ∧ hadTo n L j = true ∧ (∀ y, y ∈ withTo n L j ↔ y ∈ L.take j ∨ (y : Int) = n) ∧ ∃ z ∈ L.take j, n ≤ (z : Int)) ∨
     (outOf n = false ∧ hadTo n L j = false ∧ (∀ y, y ∈ withTo n L j ↔ y ∈ L.take j) ∧ ∀ z ∈ L.take j, (z : Int) < n))
theorem with_spec {n : Int} {L : List Nat} (hp : L.Pairwise (· < ·)) (hlt : ∀ x ∈ L, x < 65536) : ∀ j, j ≤ L.length → WithIs n L j
  | 0, _ => by
    refine ⟨by simp [withTo], ?_⟩
    cases ho : outOf n with
    | true => exact .inl ⟨rfl, ho, by simp [withTo]⟩
    | false => exact .inr (.inr ⟨rfl, ho, by simp [withTo], by simp⟩)
  | j + 1, hj => by
    obtain ⟨ih1, ih2⟩ := with_spec hp hlt j (by omega)
    obtain ⟨x, hx⟩ : ∃ x, L[j]? = some x := ⟨L[j], List.getElem?_eq_getElem _⟩
    have e : L.getD j 0 = x := by rw [List.getD_eq_getElem?_getD, hx]; rfl
    have hx6 := hlt x (List.mem_of_getElem? hx)
    have hh : hadTo n L (j + 1) = (hadTo n L j || decide (n ≤ (x : Int))) := by rw [hadTo, e]
    have hm : withMid n L j = if hadTo n L j = false ∧ n ≤ (x : Int) then withTo n L j ++ [n.toNat] else withTo n L j := by rw [withMid, e]
    rcases ih2 with ⟨ho, h1, h2⟩ | ⟨ho, h1, h2, z, hz1, hz2⟩ | ⟨ho, h1, h2, h3⟩
    · have hxn : (x : Int) ≠ n := fun h => by
        have h9 := out_true (n := n) ho
        omega
      rw [h1, if_neg (by simp)] at hm
      unfold WithIs
      rw [withTo_ne (by rw [e]; exact hxn), hm, e]
      refine ⟨rise_snoc ih1 fun y hy => take_lt hp hx ((h2 y).1 hy), .inl ⟨ho, by rw [hh, h1]; rfl, fun y => ?_⟩⟩
      rw [List.mem_append, h2, take_mem hx, List.mem_singleton]
    · have hzx := take_lt hp hx hz1
      have hxn : (x : Int) ≠ n := by omega
      rw [h1, if_neg (by simp)] at hm
      unfold WithIs
      rw [withTo_ne (by rw [e]; exact hxn), hm, e]
      refine ⟨rise_snoc ih1 fun y hy => ?_, .inr (.inl ⟨ho, by rw [hh, h1]; rfl, fun y => ?_, z, (take_mem hx).2 (.inl hz1), hz2⟩)⟩
      · rcases (h2 y).1 hy with h | h
        · exact take_lt hp hx h
        · omega
      · rw [List.mem_append, h2, take_mem hx, List.mem_singleton]
        constructor
        · rintro ((h | h) | h)
          · exact .inl (.inl h)
          · exact .inr h
          · exact .inl (.inr h)
        · rintro ((h | h) | h)
          · exact .inl (.inl h)
          · exact .inr h
          · exact .inl (.inr h)
    · have hn0 : 0 ≤ n := by
        exact (out_false ho).1
      obtain ⟨m, rfl⟩ := Int.eq_ofNat_of_zero_le hn0
      by_cases hle : ((m : Nat) : Int) ≤ (x : Int)
      · rw [h1, if_pos ⟨rfl, hle⟩] at hm
        have hr1 : (withTo (m : Int) L j ++ [m]).Pairwise (· < ·) := rise_snoc ih1 fun y hy => by have := h3 y ((h2 y).1 hy); omega
        have hm2 : withMid (m : Int) L j = withTo (m : Int) L j ++ [m] := hm
        have hmem : ∀ y, y ∈ withTo (m : Int) L j ++ [m] ↔ y ∈ L.take j ∨ (y : Int) = m := fun y => by
          rw [List.mem_append, h2, List.mem_singleton]
          constructor
          · rintro (h | h)
            · exact .inl h
            · exact .inr (by omega)
          · rintro (h | h)
            · exact .inl h
            · exact .inr (by omega)
        by_cases hxn : (x : Int) = m
        · unfold WithIs
          rw [withTo_eq (by rw [e]; exact hxn), hm2]
          refine ⟨hr1, .inr (.inl ⟨ho, by rw [hh, h1, decide_eq_true hle]; rfl, fun y => ?_, x, (take_mem hx).2 (.inr rfl), hle⟩)⟩
          rw [hmem, take_mem hx]
          constructor
          · rintro (h | h)
            · exact .inl (.inl h)
            · exact .inr h
          · rintro ((h | h) | h)
            · exact .inl h
            · exact .inr (by omega)
            · exact .inr h
        · unfold WithIs
          rw [withTo_ne (by rw [e]; exact hxn), hm2, e]
          refine ⟨rise_snoc hr1 fun y hy => ?_, .inr (.inl ⟨ho, by rw [hh, h1, decide_eq_true hle]; rfl, fun y => ?_, x, (take_mem hx).2 (.inr rfl), hle⟩)⟩
          · rcases (hmem y).1 hy with h | h
            · exact take_lt hp hx h
            · omega
          · rw [List.mem_append, hmem, take_mem hx, List.mem_singleton]
            constructor
            · rintro ((h | h) | h)
              · exact .inl (.inl h)
              · exact .inr h
              · exact .inl (.inr h)
            · rintro ((h | h) | h)
              · exact .inl (.inl h)
              · exact .inr h
              · exact .inl (.inr h)
      · rw [if_neg (fun h => hle h.2)] at hm
        have hxn : (x : Int) ≠ m := by omega
        unfold WithIs
        rw [withTo_ne (by rw [e]; exact hxn), hm, e]
        refine ⟨rise_snoc ih1 fun y hy => take_lt hp hx ((h2 y).1 hy), .inr (.inr ⟨ho, by rw [hh, h1, decide_eq_false hle]; rfl, fun y => ?_, fun z hz => ?_⟩)⟩
        · rw [List.mem_append, h2, take_mem hx, List.mem_singleton]
        · rcases (take_mem hx).1 hz with h | rfl
          · exact h3 z h
          · omega

end Go.Proofs.YtfcdmkfbkkogbaaDoor.Bits
