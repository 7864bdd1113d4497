/- Parts, border by border: plain maths (package chars). -/
import Derived.Test.YtfjlhfalnciamaaDoorPartsA
namespace Go.Proofs.Chars

theorem partsGo_snoc : ∀ (l : List (Int × Int)) (prev n : Int) (x : Int × Int), partsGo prev n (l ++ [x]) = partsGo prev n l ++ (if 0 < n + tot l ∧ ((l.getLast?).map (·.1)).getD prev < x.1 then [(((l.getLast?).map (·.1)).getD prev, x.1 - 1)] else [])
  | [], prev, n, x => by simp [partsGo, tot]
  | y :: l, prev, n, x => by
    have ih := partsGo_snoc l y.1 (n + y.2) x
    rw [List.cons_append, partsGo, partsGo, ih, List.append_assoc]
    have e1 : n + tot (y :: l) = n + y.2 + tot l := by rw [tot]; omega
    have e2 : (((y :: l).getLast?).map (·.1)).getD prev = ((l.getLast?).map (·.1)).getD y.1 := by
      cases l with
      | nil => rfl
      | cons z l => simp [List.getLast?_cons]
    rw [e1, e2]
def nextP (Q : List (Int × Int)) (x : Int × Int) : Nat → List Rg
  | 0 => []
  | k + 1 => if 0 < tot (Q.take (k + 1)) ∧ ((Q[k]?).map (·.1)).getD 0 < x.1 then [(((Q[k]?).map (·.1)).getD 0, x.1 - 1)] else []
/-- One border more. -/
theorem parts_next {Q : List (Int × Int)} {i : Nat} {x : Int × Int} (hx : Q[i]? = some x) :
    partsOf (Q.take (i + 1)) = partsOf (Q.take i) ++ nextP Q x i := by
  cases Q with
  | nil => simp at hx
  | cons y l =>
    cases i with
    | zero => simp [partsOf, partsGo, nextP]
    | succ k =>
      simp at hx
      have hk : k < l.length := (List.getElem?_eq_some_iff.1 hx).1
      show partsGo y.1 y.2 (l.take (k + 1)) = partsGo y.1 y.2 (l.take k) ++ _
      rw [List.take_add_one, hx]
      simp only [Option.toList_some]
      rw [partsGo_snoc]
      have e1 : tot ((y :: l).take (k + 1)) = y.2 + tot (l.take k) := by rw [List.take_succ_cons, tot]
      have e2 : (((l.take k).getLast?).map (·.1)).getD y.1 = (((y :: l)[k]?).map (·.1)).getD 0 := by
        cases k with
        | zero => simp
        | succ j =>
          have hj : j < l.length := by omega
          rw [List.getLast?_take]
          simp [hj]
      simp only [nextP, e1, e2]
theorem tot_next {Q : List (Int × Int)} {i : Nat} {x : Int × Int} (hx : Q[i]? = some x) : tot (Q.take (i + 1)) = tot (Q.take i) + x.2 := by
  rw [List.take_add_one, hx, tot_app]
  simp [tot]
theorem partsGo_len : ∀ (l : List (Int × Int)) (prev n : Int), (partsGo prev n l).length ≤ l.length
  | [], _, _ => by simp [partsGo]
  | x :: l, prev, n => by
    have := partsGo_len l x.1 (n + x.2)
    rw [partsGo, List.length_append, List.length_cons]
    split <;> simp <;> omega
theorem partsOf_len (Q : List (Int × Int)) : (partsOf Q).length ≤ Q.length := by
  cases Q with
  | nil => simp [partsOf]
  | cons y l =>
    have := partsGo_len l y.1 y.2
    show (partsGo y.1 y.2 l).length ≤ _
    rw [List.length_cons]
    omega
theorem borders_snoc (L : List Rg) (x : Rg) : borders (L ++ [x]) = borders L ++ [(x.1, 1), (x.2 + 1, -1)] := by simp [borders]
theorem borders_len (L : List Rg) : (borders L).length = L.length * 2 := by
  induction L with
  | nil => rfl
  | cons x l ih =>
    have e : borders (x :: l) = [(x.1, 1), (x.2 + 1, -1)] ++ borders l := rfl
    rw [e, List.length_append, ih]
    simp
    omega
theorem tot_bound {Q : List (Int × Int)} (h : ∀ x ∈ Q, x.2 = 1 ∨ x.2 = -1) : -(Q.length : Int) ≤ tot Q ∧ tot Q ≤ Q.length := by
  induction Q with
  | nil => simp [tot]
  | cons x l ih =>
    have h1 := ih fun y hy => h y (List.mem_cons_of_mem _ hy)
    have h2 := h x List.mem_cons_self
    rw [tot, List.length_cons]
    omega
theorem borders_by {O : List Rg} {y : Int × Int} (h : y ∈ borders O) : y.2 = 1 ∨ y.2 = -1 := by
  unfold borders at h
  obtain ⟨x, _, hx⟩ := List.mem_flatMap.1 h
  simp at hx
  rcases hx with rfl | rfl
  · exact .inl rfl
  · exact .inr rfl

end Go.Proofs.Chars
