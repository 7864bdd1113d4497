/- What the edges are, and the clean set of what changes at them alone (law CharsSets): plain maths. -/
import Derived.Test.YtfjlhfalnciamaaDoorSetsE
namespace Go.Proofs.YtfjlhfalnciamaaDoor.Chars
open Go Go.RowKit Go.Proofs.Chars

def EdgeOf (x : Rg) (e : Int) : Prop := (e = max x.1 0 ∨ (x.2 < 1114111 ∧ e = max (x.2 + 1) 0)) ∧ e ≤ 1114111
theorem withM_ok {l : List Int} {n : Int} (hr : Rise 0 l) (hn : 0 ≤ n) : Rise 0 (withM l n) ∧ ∀ e, e ∈ withM l n ↔ (e = n ∧ n ≤ 1114111) ∨ e ∈ l := by
  unfold withM
  by_cases h : n ≤ 1114111
  · rw [if_pos h]
    obtain ⟨h1, h2⟩ := withE_ok l 0 n hr hn h
    exact ⟨h1, fun e => by rw [h2]; simp [h]⟩
  · rw [if_neg h]
    exact ⟨hr, fun e => by simp [h]⟩
theorem edgeStep_ok {l : List Int} (hr : Rise 0 l) (x : Rg) : Rise 0 (edgeStep l x) ∧ ∀ e, e ∈ edgeStep l x ↔ EdgeOf x e ∨ e ∈ l := by
  obtain ⟨h1, h2⟩ := withM_ok (n := max x.1 0) hr (by omega)
  obtain ⟨h3, h4⟩ := withM_ok (n := max (x.2 + 1) 0) h1 (by omega)
  unfold edgeStep EdgeOf
  by_cases h : x.2 < 1114111
  · rw [if_pos h]
    refine ⟨h3, fun e => ?_⟩
    rw [h4, h2]
    constructor
    · rintro (⟨a, b⟩ | ⟨a, b⟩ | a)
      · exact .inl ⟨.inr ⟨h, a⟩, by omega⟩
      · exact .inl ⟨.inl a, by omega⟩
      · exact .inr a
    · rintro (⟨a | ⟨_, a⟩, b⟩ | a)
      · exact .inr (.inl ⟨a, by omega⟩)
      · exact .inl ⟨a, by omega⟩
      · exact .inr (.inr a)
  · rw [if_neg h]
    refine ⟨h1, fun e => ?_⟩
    rw [h2]
    constructor
    · rintro (⟨a, b⟩ | a)
      · exact .inl ⟨.inl a, by omega⟩
      · exact .inr a
    · rintro (⟨a | ⟨c, _⟩, b⟩ | a)
      · exact .inl ⟨a, by omega⟩
      · exact absurd c h
      · exact .inr a
theorem edges_gen : ∀ (L : List Rg) (l : List Int), Rise 0 l → Rise 0 (L.foldl edgeStep l) ∧ ∀ e, e ∈ L.foldl edgeStep l ↔ (∃ x ∈ L, EdgeOf x e) ∨ e ∈ l
  | [], l, hr => ⟨hr, fun e => by simp⟩
  | x :: L, l, hr => by
    obtain ⟨h1, h2⟩ := edgeStep_ok hr x
    obtain ⟨h3, h4⟩ := edges_gen L _ h1
    refine ⟨h3, fun e => ?_⟩
    rw [List.foldl_cons, h4, h2]
    simp only [List.mem_cons, exists_eq_or_imp]
    constructor
    · rintro (a | a | a)
      · exact .inl (.inr a)
      · exact .inl (.inl a)
      · exact .inr a
    · rintro ((a | a) | a)
      · exact .inr (.inl a)
      · exact .inl a
      · exact .inr (.inr a)
theorem edgesE_ok (L : List Rg) : ∃ l, edgesE L = 0 :: l ∧ Rise 0 (0 :: l) ∧ ∀ e, (∃ x ∈ L, EdgeOf x e) → e ∈ 0 :: l := by
  obtain ⟨h1, h2⟩ := edges_gen L [0] ⟨Int.le_refl _, by decide, trivial⟩
  have h0 : (0 : Int) ∈ edgesE L := (h2 0).2 (.inr (by simp))
  change Rise 0 (edgesE L) at h1
  change ∀ e, e ∈ edgesE L ↔ _ at h2
  obtain ⟨M, hM⟩ : ∃ M, edgesE L = M := ⟨_, rfl⟩
  rw [hM] at h1 h0 h2
  cases M with
  | nil => cases h0
  | cons e l =>
    have he : e = 0 := by
      rcases List.mem_cons.1 h0 with h | h
      · exact h.symm
      · have := (h1.2.2.low h).1
        have := h1.1
        omega
    subst he
    exact ⟨l, hM, h1, fun e he => (h2 e).2 (.inl he)⟩
/-- Is a number in a set? -/
def hasU (A : List Rg) (r : Int) : Bool := decide (0 ≤ r) && decide (r ≤ 1114111) && A.any fun x => decide (x.1 ≤ r) && decide (r ≤ x.2)
theorem hasU_iff (A : List Rg) (r : Int) : hasU A r = true ↔ memU A r := by
  unfold hasU memU most
  simp only [Bool.and_eq_true, decide_eq_true_eq, List.any_eq_true]
  constructor
  · rintro ⟨⟨a, b⟩, c⟩
    exact ⟨a, b, c⟩
  · rintro ⟨a, b, c⟩
    exact ⟨⟨a, b⟩, c⟩
/-- A set's numbers change at its edges alone. -/
theorem hasU_change {A L : List Rg} (hs : ∀ x ∈ A, x ∈ L) {r : Int} (h0 : 0 < r) (h1 : r ≤ 1114111) (hn : r ∉ edgesE L) : hasU A r = hasU A (r - 1) := by
  apply Classical.byContradiction
  intro hne
  have hx : (∃ x ∈ A, x.1 ≤ r ∧ r ≤ x.2) ↔ ¬ ∃ x ∈ A, x.1 ≤ r - 1 ∧ r - 1 ≤ x.2 := by
    have e1 := hasU_iff A r
    have e2 := hasU_iff A (r - 1)
    have e1' : hasU A r = true ↔ ∃ x ∈ A, x.1 ≤ r ∧ r ≤ x.2 := e1.trans ⟨fun h => h.2.2, fun h => ⟨by omega, h1, h⟩⟩
    have e2' : hasU A (r - 1) = true ↔ ∃ x ∈ A, x.1 ≤ r - 1 ∧ r - 1 ≤ x.2 := e2.trans ⟨fun h => h.2.2, fun h => ⟨by omega, by unfold most; omega, h⟩⟩
    rw [← e1', ← e2']
    cases h1 : hasU A r <;> cases h2 : hasU A (r - 1) <;> simp_all
  obtain ⟨x, hxA, hx2⟩ := range_change hx
  obtain ⟨l, e, _, hm⟩ := edgesE_ok L
  apply hn
  rw [e]
  refine hm r ⟨x, hs x hxA, ?_, h1⟩
  rcases hx2 with h | h
  · exact .inl (by omega)
  · exact .inr ⟨by omega, by omega⟩
/-- The document's clean set of what changes at edges alone. -/
theorem clean_edges {L : List Rg} {P : Int → Bool} (hP : ∀ r, 0 < r → r ≤ 1114111 → r ∉ edgesE L → P r = P (r - 1)) :
    Canon 0 ((pieces P (edgesE L)).foldl ofStep []) ∧ ∀ r, memC ((pieces P (edgesE L)).foldl ofStep []) r ↔ 0 ≤ r ∧ r ≤ 1114111 ∧ P r = true := by
  obtain ⟨l, e, hr, _⟩ := edgesE_ok L
  rw [e] at hP ⊢
  exact clean_ok P hr fun r h1 h2 h3 => hP r h1 h2 (fun h => by
    rcases List.mem_cons.1 h with h | h
    · omega
    · exact h3 h)

end Go.Proofs.YtfjlhfalnciamaaDoor.Chars
