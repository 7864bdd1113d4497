/- The document's sets, by their edges: plain maths (package chars). -/
import Derived.Test.YtfjlhfalnciamaaDoorCharsA
namespace Go.Proofs.Chars

/-- Numbers that rise from b on, up to the greatest one. -/
def Rise : Int → List Int → Prop
  | _, [] => True
  | b, e :: l => b ≤ e ∧ e ≤ most ∧ Rise (e + 1) l
theorem Rise.low : ∀ {l : List Int} {b : Int}, Rise b l → ∀ {e : Int}, e ∈ l → b ≤ e ∧ e ≤ most
  | [], _, _, e, h => by simp at h
  | x :: l, b, hr, e, h => by
    rcases List.mem_cons.1 h with rfl | h
    · exact ⟨hr.1, hr.2.1⟩
    · have := hr.2.2.low h
      have h1 := hr.1
      exact ⟨by omega, this.2⟩
/-- The ranges between edges whose first number is so. -/
def pieces (P : Int → Bool) : List Int → List Rg
  | [] => []
  | [e] => if P e then [(e, most)] else []
  | e :: f :: l => (if P e then [(e, f - 1)] else []) ++ pieces P (f :: l)
/-- What changes at edges alone is the same up to the next one. -/
theorem same_upto {P : Int → Bool} {e f : Int} (h : ∀ r, e < r → r ≤ f → P r = P (r - 1)) : ∀ r, e ≤ r → r ≤ f → P r = P e := by
  have key : ∀ n : Nat, e + n ≤ f → P (e + n) = P e := by
    intro n
    induction n with
    | zero => intro _; simp
    | succ n ih =>
      intro hn
      have := h (e + ((n + 1 : Nat) : Int)) (by omega) hn
      rw [this, show e + ((n + 1 : Nat) : Int) - 1 = e + (n : Int) by omega]
      exact ih (by omega)
  intro r h1 h2
  have := key (r - e).toNat (by omega)
  rw [show e + ((r - e).toNat : Int) = r by omega] at this
  exact this
theorem pieces_ok (P : Int → Bool) : ∀ (l : List Int) (e : Int), Rise e (e :: l) → (∀ r, e < r → r ≤ most → r ∉ l → P r = P (r - 1)) →
    (∀ r, memC (pieces P (e :: l)) r ↔ e ≤ r ∧ r ≤ most ∧ P r = true) ∧ Rising (pieces P (e :: l)) ∧ ∀ x ∈ pieces P (e :: l), e ≤ x.1 ∧ x.1 ≤ x.2 ∧ x.2 ≤ most
  | [], e, hr, hP => by
    have hs := same_upto (P := P) (e := e) (f := most) (fun r h1 h2 => hP r h1 h2 (by simp))
    rw [pieces]
    have hem := hr.2.1
    by_cases h : P e = true
    · rw [if_pos h]
      refine ⟨fun r => ?_, ⟨fun y hy => by simp at hy, trivial⟩, fun x hx => ?_⟩
      · rw [memC_cons, memC_nil, or_false]
        exact ⟨fun ⟨a, b⟩ => ⟨a, b, by rw [hs r a b]; exact h⟩, fun ⟨a, b, _⟩ => ⟨a, b⟩⟩
      · simp at hx; subst hx; exact ⟨Int.le_refl _, hem, Int.le_refl _⟩
    · rw [if_neg h]
      refine ⟨fun r => ?_, trivial, fun x hx => by simp at hx⟩
      rw [memC_nil]
      exact ⟨fun h => h.elim, fun ⟨a, b, c⟩ => h (by rw [← hs r a b]; exact c)⟩
  | f :: l, e, hr, hP => by
    have hef : e + 1 ≤ f := hr.2.2.1
    have hfm : f ≤ most := hr.2.2.2.1
    have hr2 : Rise f (f :: l) := ⟨Int.le_refl _, hr.2.2.2⟩
    have hs := same_upto (P := P) (e := e) (f := f - 1) (fun r h1 h2 => hP r h1 (by omega) (fun hm => by
      rcases List.mem_cons.1 hm with rfl | hm
      · omega
      · have := hr2.2.2.low hm
        omega))
    obtain ⟨i1, i2, i3⟩ := pieces_ok P l f hr2 (fun r h1 h2 h3 => hP r (by omega) h2 (fun hm => by
      rcases List.mem_cons.1 hm with rfl | hm
      · omega
      · exact h3 hm))
    rw [pieces]
    by_cases h : P e = true
    · rw [if_pos h]
      refine ⟨fun r => ?_, ⟨fun y hy => ?_, i2⟩, fun x hx => ?_⟩
      · rw [List.singleton_append, memC_cons, i1]
        show (e ≤ r ∧ r ≤ f - 1) ∨ _ ↔ _
        constructor
        · rintro (⟨a, b⟩ | ⟨a, b, c⟩)
          · exact ⟨a, by omega, by rw [hs r a b]; exact h⟩
          · exact ⟨by omega, b, c⟩
        · rintro ⟨a, b, c⟩
          by_cases hlt : r < f
          · exact .inl ⟨a, by omega⟩
          · exact .inr ⟨by omega, b, c⟩
      · have := (i3 y hy).1
        show e ≤ y.1; omega
      · rw [List.singleton_append] at hx
        rcases List.mem_cons.1 hx with rfl | hx
        · exact ⟨Int.le_refl _, by show e ≤ f - 1; omega, by show f - 1 ≤ most; omega⟩
        · have := i3 x hx
          exact ⟨by omega, this.2⟩
    · rw [if_neg h, List.nil_append]
      refine ⟨fun r => ?_, i2, fun x hx => ?_⟩
      · rw [i1]
        constructor
        · rintro ⟨a, b, c⟩
          exact ⟨by omega, b, c⟩
        · rintro ⟨a, b, c⟩
          refine ⟨?_, b, c⟩
          apply Int.not_lt.1
          intro hlt
          exact h (by rw [← hs r a (by omega)]; exact c)
      · have := i3 x hx
        exact ⟨by omega, this.2⟩
/-- The clean set of what changes at edges alone. -/
theorem clean_ok (P : Int → Bool) {l : List Int} (hr : Rise 0 (0 :: l)) (hP : ∀ r, 0 < r → r ≤ most → r ∉ l → P r = P (r - 1)) :
    Canon 0 ((pieces P (0 :: l)).foldl ofStep []) ∧ ∀ r, memC ((pieces P (0 :: l)).foldl ofStep []) r ↔ 0 ≤ r ∧ r ≤ most ∧ P r = true := by
  obtain ⟨h1, h2, h3⟩ := pieces_ok P l 0 hr hP
  obtain ⟨k1, k2⟩ := of_ok (pieces P (0 :: l)) [] trivial h2 h3 (fun c hc => by simp at hc)
  exact ⟨k1, fun r => by rw [k2, h1, memC_nil, false_or]⟩
/-- A range's numbers change at its first one, and behind its last one. -/
theorem range_change {s : List Rg} {r : Int} (h : (∃ x ∈ s, x.1 ≤ r ∧ r ≤ x.2) ↔ ¬ ∃ x ∈ s, x.1 ≤ r - 1 ∧ r - 1 ≤ x.2) : ∃ x ∈ s, r = x.1 ∨ r = x.2 + 1 := by
  by_cases hp : ∃ x ∈ s, x.1 ≤ r ∧ r ≤ x.2
  · obtain ⟨x, hx, h1, h2⟩ := hp
    have := h.1 ⟨x, hx, h1, h2⟩
    refine ⟨x, hx, .inl ?_⟩
    have h3 : ¬ (x.1 ≤ r - 1 ∧ r - 1 ≤ x.2) := fun h4 => this ⟨x, hx, h4⟩
    omega
  · have h0 : ∃ x ∈ s, x.1 ≤ r - 1 ∧ r - 1 ≤ x.2 := Classical.byContradiction fun h1 => hp (h.2 h1)
    obtain ⟨x, hx, h1, h2⟩ := h0
    have h3 : ¬ (x.1 ≤ r ∧ r ≤ x.2) := fun h4 => hp ⟨x, hx, h4⟩
    exact ⟨x, hx, .inr (by omega)⟩
/-- A list that rises, with one more number. -/
def withE (l : List Int) (n : Int) : List Int :=
  match l with
  | [] => [n]
  | e :: l => if e < n then e :: withE l n else if e = n then e :: l else n :: e :: l
theorem withE_ok : ∀ (l : List Int) (b n : Int), Rise b l → b ≤ n → n ≤ most → Rise b (withE l n) ∧ ∀ e, e ∈ withE l n ↔ e = n ∨ e ∈ l
  | [], b, n, _, h1, h2 => ⟨⟨h1, h2, trivial⟩, fun e => by simp [withE]⟩
  | x :: l, b, n, hr, h1, h2 => by
    rw [withE]
    by_cases h : x < n
    · rw [if_pos h]
      obtain ⟨k1, k2⟩ := withE_ok l (x + 1) n hr.2.2 (by omega) h2
      refine ⟨⟨hr.1, hr.2.1, k1⟩, fun e => ?_⟩
      rw [List.mem_cons, k2, List.mem_cons]
      constructor
      · rintro (a | a | a)
        · exact .inr (.inl a)
        · exact .inl a
        · exact .inr (.inr a)
      · rintro (a | a | a)
        · exact .inr (.inl a)
        · exact .inl a
        · exact .inr (.inr a)
    · rw [if_neg h]
      by_cases h3 : x = n
      · rw [if_pos h3]
        refine ⟨hr, fun e => ⟨fun he => .inr he, fun he => ?_⟩⟩
        rcases he with rfl | he
        · rw [h3]; exact List.mem_cons_self
        · exact he
      · rw [if_neg h3]
        refine ⟨⟨h1, h2, ⟨by omega, hr.2.1, hr.2.2⟩⟩, fun e => by rw [List.mem_cons]⟩

end Go.Proofs.Chars
