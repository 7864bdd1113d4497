/- What the law's loop over the edges sums up: are two sets the same, how many numbers (law CharsSets): plain maths. -/
import Derived.Test.YtfjlhfalnciamaaDoorSetsM
namespace Go.Proofs.YtfjlhfalnciamaaDoor.Chars
open Go Go.RowKit Go.Proofs.Chars

/-- What changes at edges alone has, at each number, a value that it has at an edge. -/
theorem at_edge {α : Type} {F : Int → α} {L : List Rg} (hF : ∀ r, 0 < r → r ≤ most → r ∉ edgesE L → F r = F (r - 1)) (n : Nat) : (n : Int) ≤ most → ∃ e ∈ edgesE L, F n = F e := by
  generalize most = m at hF
  induction n with
  | zero =>
    intro _
    obtain ⟨l, e, _⟩ := edgesE_ok L
    exact ⟨0, by rw [e]; simp, rfl⟩
  | succ n ih =>
    intro h
    by_cases hm : ((n + 1 : Nat) : Int) ∈ edgesE L
    · exact ⟨_, hm, rfl⟩
    · obtain ⟨e, he, h2⟩ := ih (by omega)
      refine ⟨e, he, ?_⟩
      rw [hF _ (by omega) h hm, ← h2, show ((n + 1 : Nat) : Int) - 1 = (n : Int) by omega]
theorem same_edges {P Q : Int → Bool} {L : List Rg} (hP : ∀ r, 0 < r → r ≤ 1114111 → r ∉ edgesE L → P r = P (r - 1)) (hQ : ∀ r, 0 < r → r ≤ 1114111 → r ∉ edgesE L → Q r = Q (r - 1)) :
    ((edgesE L).all fun e => P e == Q e) = true ↔ ∀ r, 0 ≤ r → r ≤ 1114111 → P r = Q r := by
  rw [List.all_eq_true]
  constructor
  · intro h r h0 h1
    obtain ⟨e, he, h2⟩ := at_edge (F := fun r => (P r, Q r)) (fun r a b c => by show (P r, Q r) = (P (r - 1), Q (r - 1)); rw [hP r a b c, hQ r a b c]) r.toNat (by unfold most; omega)
    rw [show (r.toNat : Int) = r by omega] at h2
    have h3 := h e he
    have h4 : P r = P e := congrArg Prod.fst h2
    have h5 : Q r = Q e := congrArg Prod.snd h2
    rw [h4, h5]
    simpa using h3
  · intro h e he
    obtain ⟨l, hl, hr, _⟩ := edgesE_ok L
    rw [hl] at he
    have := hr.low he
    simp [h e this.1 this.2]
/-- How many numbers lie between edges whose first one is so. -/
def sumE (P : Int → Bool) : List Int → Int
  | [] => 0
  | e :: r => (if P e then endE r + 1 - e else 0) + sumE P r
theorem countC_app' : ∀ (A B : List Rg), countC (A ++ B) = countC A + countC B
  | [], B => by simp [countC]
  | x :: A, B => by
    have := countC_app' A B
    simp only [List.cons_append, countC]
    omega
theorem sum_pieces (P : Int → Bool) : ∀ (E : List Int) (b : Int) (out : List Rg), 0 ≤ b → Rise b E → CInv out E → countC ((pieces P E).foldl ofStep out) = countC out + sumE P E
  | [], b, out, _, _, _ => by simp [pieces, sumE]
  | e :: r, b, out, hb, hr, hc => by
    have hb' := hr.1
    rw [pieces_cons, sumE]
    cases hp : P e with
    | false =>
      have ih := sum_pieces P r (e + 1) out (by omega) hr.2.2 (cinv_skip hr hc)
      simp only [Bool.false_eq_true, if_false, List.nil_append]
      omega
    | true =>
      simp only [if_true, List.singleton_append, List.foldl_cons]
      have hen := endE_in hr
      rcases List.eq_nil_or_concat out with rfl | ⟨l, c, rfl⟩
      · have ih := sum_pieces P r (e + 1) ([] ++ [(e, endE r)]) (by omega) hr.2.2 (cinv_put hb hr [] e)
        rw [ofStep_nil]
        simp only [List.nil_append] at ih
        rw [ih]
        simp [countC]
        omega
      · rw [List.concat_eq_append] at hc ⊢
        obtain ⟨i1, i2, i3⟩ := hc l c rfl
        have i4 := i3 e r rfl
        rw [ofStep_snoc]
        by_cases ht : e ≤ c.2 + 1
        · rw [if_pos (show (e, endE r).1 ≤ c.2 + 1 from ht)]
          have hm : max c.2 (e, endE r).2 = endE r := by show max c.2 (endE r) = endE r; omega
          rw [hm]
          have ih := sum_pieces P r (e + 1) (l ++ [(c.1, endE r)]) (by omega) hr.2.2 (cinv_put hb hr l c.1)
          rw [ih, countC_app', countC_app']
          simp [countC]
          omega
        · rw [if_neg (show ¬ (e, endE r).1 ≤ c.2 + 1 from ht)]
          have ih := sum_pieces P r (e + 1) (l ++ [c] ++ [(e, endE r)]) (by omega) hr.2.2 (cinv_put hb hr (l ++ [c]) e)
          rw [ih, countC_app' (l ++ [c])]
          simp [countC]
          omega
theorem sum_edges (P : Int → Bool) (L : List Rg) : countC ((pieces P (edgesE L)).foldl ofStep []) = sumE P (edgesE L) := by
  obtain ⟨l, e, hr, _⟩ := edgesE_ok L
  rw [e, sum_pieces P (0 :: l) 0 [] (Int.le_refl _) hr (fun l c h => by simp at h)]
  simp [countC]

end Go.Proofs.YtfjlhfalnciamaaDoor.Chars
