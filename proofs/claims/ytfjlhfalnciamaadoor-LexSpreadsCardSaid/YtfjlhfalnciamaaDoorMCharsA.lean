/- Package texts, merged: CharsA, CharsB, CharsC, CharsD, CharsE. -/
import Derived.Test.YtfjlhfalnciamaaDoorChecked
import Derived.Lib.Hide
import Derived.WalkKit
import Derived.WalkSpells
import Derived.Below
import Derived.Deep.AppendLies
import Derived.Deep.Draws
import Derived.OwnWalk

namespace Go.Proofs.Chars

abbrev Rg := Int × Int
/-- The greatest number of a set. -/
def most : Int := 1114111
def memC (l : List Rg) (r : Int) : Prop := ∃ x ∈ l, x.1 ≤ r ∧ r ≤ x.2
/-- Ranges that rise from b on, none of which touch. -/
def Canon : Int → List Rg → Prop
  | _, [] => True
  | b, x :: l => b ≤ x.1 ∧ x.1 ≤ x.2 ∧ x.2 ≤ most ∧ Canon (x.2 + 2) l
theorem memC_nil (r : Int) : memC [] r ↔ False := by simp [memC]
theorem memC_cons (x : Rg) (l : List Rg) (r : Int) : memC (x :: l) r ↔ (x.1 ≤ r ∧ r ≤ x.2) ∨ memC l r := by simp [memC]
theorem memC_app (l m : List Rg) (r : Int) : memC (l ++ m) r ↔ memC l r ∨ memC m r := by
  induction l with
  | nil => simp [memC_nil]
  | cons x l ih => rw [List.cons_append, memC_cons, memC_cons, ih, or_assoc]
theorem Canon.mono {b b' : Int} {l : List Rg} (h : Canon b l) (hb : b' ≤ b) : Canon b' l := by
  cases l with
  | nil => trivial
  | cons x l => exact ⟨Int.le_trans hb h.1, h.2⟩
theorem Canon.mem_in : ∀ {l : List Rg} {b : Int}, Canon b l → ∀ {r : Int}, memC l r → b ≤ r ∧ r ≤ most
  | [], _, _, r, h => ((memC_nil r).1 h).elim
  | x :: l, b, hc, r, h => by
    rcases (memC_cons x l r).1 h with h1 | h1
    · have h2 := hc.1
      have h3 := hc.2.2.1
      exact ⟨by omega, by omega⟩
    · have := hc.2.2.2.mem_in h1
      have h2 := hc.1
      have h3 := hc.2.1
      exact ⟨by omega, this.2⟩
/-- Such ranges are told by their numbers. -/
theorem Canon.uniq : ∀ {l m : List Rg} {b b' : Int}, Canon b l → Canon b' m → (∀ r, memC l r ↔ memC m r) → l = m
  | [], [], _, _, _, _, _ => rfl
  | [], y :: m, _, _, _, hm, h => by
    have := (h y.1).2 ((memC_cons y m _).2 (.inl ⟨Int.le_refl _, hm.2.1⟩))
    exact ((memC_nil _).1 this).elim
  | x :: l, [], _, _, hl, _, h => by
    have := (h x.1).1 ((memC_cons x l _).2 (.inl ⟨Int.le_refl _, hl.2.1⟩))
    exact ((memC_nil _).1 this).elim
  | x :: l, y :: m, b, b', hl, hm, h => by
    have hx := hl.2.1
    have hy := hm.2.1
    have k1 : ∀ {r}, memC l r → x.2 + 2 ≤ r := fun hr => (hl.2.2.2.mem_in hr).1
    have k2 : ∀ {r}, memC m r → y.2 + 2 ≤ r := fun hr => (hm.2.2.2.mem_in hr).1
    have a1 : y.1 ≤ x.1 := by
      rcases (memC_cons y m _).1 ((h x.1).1 ((memC_cons x l _).2 (.inl ⟨Int.le_refl _, hx⟩))) with h1 | h1
      · exact h1.1
      · have := k2 h1; omega
    have a2 : x.1 ≤ y.1 := by
      rcases (memC_cons x l _).1 ((h y.1).2 ((memC_cons y m _).2 (.inl ⟨Int.le_refl _, hy⟩))) with h1 | h1
      · exact h1.1
      · have := k1 h1; omega
    have a3 : ¬ x.2 < y.2 := fun hlt => by
      rcases (memC_cons x l _).1 ((h (x.2 + 1)).2 ((memC_cons y m _).2 (.inl ⟨by omega, by omega⟩))) with h1 | h1
      · omega
      · have := k1 h1; omega
    have a4 : ¬ y.2 < x.2 := fun hlt => by
      rcases (memC_cons y m _).1 ((h (y.2 + 1)).1 ((memC_cons x l _).2 (.inl ⟨by omega, by omega⟩))) with h1 | h1
      · omega
      · have := k2 h1; omega
    have exy : x = y := Prod.ext (by omega) (by omega)
    subst exy
    rw [hl.2.2.2.uniq hm.2.2.2 fun r => ?_]
    constructor
    · intro hr
      rcases (memC_cons x m _).1 ((h r).1 ((memC_cons x l _).2 (.inr hr))) with h1 | h1
      · have := k1 hr; omega
      · exact h1
    · intro hr
      rcases (memC_cons x l _).1 ((h r).2 ((memC_cons x m _).2 (.inr hr))) with h1 | h1
      · have := k2 hr; omega
      · exact h1

/-! ### Of: ranges by their beginnings, put together -/
/-- One range more, behind what is put together. -/
def ofStep (out : List Rg) (x : Rg) : List Rg :=
  match out.getLast? with
  | none => [x]
  | some c => if x.1 ≤ c.2 + 1 then out.dropLast ++ [(c.1, max c.2 x.2)] else out ++ [x]
theorem canon_snoc : ∀ {l : List Rg} {b : Int} {c : Rg}, Canon b (l ++ [c]) ↔ Canon b l ∧ (∀ x ∈ l, x.2 + 2 ≤ c.1) ∧ b ≤ c.1 ∧ c.1 ≤ c.2 ∧ c.2 ≤ most
  | [], b, c => by simp [Canon]
  | y :: l, b, c => by
    rw [List.cons_append, Canon, Canon, canon_snoc (l := l)]
    constructor
    · rintro ⟨h1, h2, h3, h4, h5, h6, h7, h8⟩
      refine ⟨⟨h1, h2, h3, h4⟩, fun x hx => ?_, by omega, h7, h8⟩
      rcases List.mem_cons.1 hx with rfl | hx
      · exact h6
      · exact h5 x hx
    · rintro ⟨⟨h1, h2, h3, h4⟩, h5, h6, h7, h8⟩
      exact ⟨h1, h2, h3, h4, fun x hx => h5 x (List.mem_cons_of_mem _ hx), h5 y List.mem_cons_self, h7, h8⟩
theorem ofStep_nil (x : Rg) : ofStep [] x = [x] := rfl
theorem ofStep_snoc (l : List Rg) (c x : Rg) : ofStep (l ++ [c]) x = if x.1 ≤ c.2 + 1 then l ++ [(c.1, max c.2 x.2)] else l ++ [c] ++ [x] := by
  unfold ofStep
  rw [List.getLast?_concat]
  simp only [List.dropLast_concat]
/-- What is put together of the first of ranges that rise by their beginnings. -/
theorem ofStep_ok {out : List Rg} {x : Rg} (h : Canon 0 out) (hx : 0 ≤ x.1 ∧ x.1 ≤ x.2 ∧ x.2 ≤ most) (hs : ∀ c, out.getLast? = some c → c.1 ≤ x.1) :
    Canon 0 (ofStep out x) ∧ (∀ r, memC (ofStep out x) r ↔ memC out r ∨ (x.1 ≤ r ∧ r ≤ x.2)) ∧ (∀ c, (ofStep out x).getLast? = some c → c.1 ≤ x.1) := by
  rcases List.eq_nil_or_concat out with rfl | ⟨l, c, rfl⟩
  · rw [ofStep_nil]
    refine ⟨⟨hx.1, hx.2.1, hx.2.2, trivial⟩, fun r => ?_, fun c hc => ?_⟩
    · rw [memC_cons, memC_nil]; simp
    · simp at hc; subst hc; exact Int.le_refl _
  · rw [List.concat_eq_append] at h hs ⊢
    have hcx := hs c (by rw [List.getLast?_concat])
    obtain ⟨c1, c2, c3, c4, c5⟩ := canon_snoc.1 h
    rw [ofStep_snoc]
    by_cases ht : x.1 ≤ c.2 + 1
    · rw [if_pos ht]
      refine ⟨canon_snoc.2 ⟨c1, c2, c3, ?_, ?_⟩, fun r => ?_, fun c' hc' => ?_⟩
      · show c.1 ≤ max c.2 x.2; omega
      · show max c.2 x.2 ≤ most; omega
      · rw [memC_app, memC_app, memC_cons, memC_cons, memC_nil]
        show _ ∨ (c.1 ≤ r ∧ r ≤ max c.2 x.2) ∨ False ↔ _
        constructor
        · rintro (h1 | h1 | h1)
          · exact .inl (.inl h1)
          · by_cases h2 : r ≤ c.2
            · exact .inl (.inr (.inl ⟨h1.1, h2⟩))
            · exact .inr ⟨by omega, by omega⟩
          · exact h1.elim
        · rintro ((h1 | h1 | h1) | h1)
          · exact .inl h1
          · exact .inr (.inl ⟨h1.1, by omega⟩)
          · exact h1.elim
          · exact .inr (.inl ⟨by omega, by omega⟩)
      · rw [List.getLast?_concat] at hc'
        obtain rfl := Option.some.inj hc'
        exact hcx
    · rw [if_neg ht]
      refine ⟨canon_snoc.2 ⟨h, fun y hy => ?_, hx.1, hx.2.1, hx.2.2⟩, fun r => ?_, fun c' hc' => ?_⟩
      · rcases List.mem_append.1 hy with hy | hy
        · have := c2 y hy
          omega
        · simp at hy; subst hy; omega
      · rw [memC_app (l ++ [c]), memC_cons, memC_nil, or_false]
      · rw [List.getLast?_concat] at hc'
        obtain rfl := Option.some.inj hc'
        exact Int.le_refl _
/-- Ranges by their beginnings. -/
def Rising : List Rg → Prop
  | [] => True
  | x :: l => (∀ y ∈ l, x.1 ≤ y.1) ∧ Rising l
theorem of_ok : ∀ (l : List Rg) (out : List Rg), Canon 0 out → Rising l → (∀ x ∈ l, 0 ≤ x.1 ∧ x.1 ≤ x.2 ∧ x.2 ≤ most) → (∀ c, out.getLast? = some c → ∀ x ∈ l, c.1 ≤ x.1) →
    Canon 0 (l.foldl ofStep out) ∧ ∀ r, memC (l.foldl ofStep out) r ↔ memC out r ∨ memC l r
  | [], out, h, _, _, _ => ⟨h, fun r => by rw [List.foldl_nil, memC_nil, or_false]⟩
  | x :: l, out, h, hr, hv, hs => by
    obtain ⟨h1, h2, h3⟩ := ofStep_ok h (hv x List.mem_cons_self) (fun c hc => hs c hc x List.mem_cons_self)
    obtain ⟨k1, k2⟩ := of_ok l (ofStep out x) h1 hr.2 (fun y hy => hv y (List.mem_cons_of_mem _ hy)) (fun c hc y hy => Int.le_trans (h3 c hc) (hr.1 y hy))
    refine ⟨k1, fun r => ?_⟩
    rw [List.foldl_cons, k2, h2, memC_cons, or_assoc]

/-! ### And, Not -/
def andGo : List Rg → List Rg → List Rg
  | [], _ => []
  | _ :: _, [] => []
  | x :: a, y :: b => (if max x.1 y.1 ≤ min x.2 y.2 then [(max x.1 y.1, min x.2 y.2)] else []) ++ (if x.2 < y.2 then andGo a (y :: b) else andGo (x :: a) b)
termination_by a b => a.length + b.length
theorem and_ok : ∀ (a b : List Rg) {p q : Int}, Canon p a → Canon q b → Canon (max p q) (andGo a b) ∧ ∀ r, memC (andGo a b) r ↔ memC a r ∧ memC b r
  | [], b, p, q, _, _ => by rw [andGo]; exact ⟨trivial, fun r => by simp [memC_nil]⟩
  | x :: a, [], p, q, _, _ => by rw [andGo]; exact ⟨trivial, fun r => by simp [memC_nil]⟩
  | x :: a, y :: b, p, q, ha, hb => by
    have hx := ha.2.1
    have hy := hb.2.1
    have hpx := ha.1
    have hqy := hb.1
    have hxm := ha.2.2.1
    have key : ∀ (z : List Rg), (Canon (min x.2 y.2 + 2) z ∧ Canon (max p q) z ∧ ∀ r, memC z r ↔ (memC (x :: a) r ∧ memC (y :: b) r ∧ min x.2 y.2 < r)) →
        Canon (max p q) ((if max x.1 y.1 ≤ min x.2 y.2 then [(max x.1 y.1, min x.2 y.2)] else []) ++ z) ∧ ∀ r, memC ((if max x.1 y.1 ≤ min x.2 y.2 then [(max x.1 y.1, min x.2 y.2)] else []) ++ z) r ↔ memC (x :: a) r ∧ memC (y :: b) r := by
      intro z ⟨hz1, hz3, hz2⟩
      have k1 : ∀ {r}, memC a r → x.2 + 2 ≤ r := fun hr => (ha.2.2.2.mem_in hr).1
      have k2 : ∀ {r}, memC b r → y.2 + 2 ≤ r := fun hr => (hb.2.2.2.mem_in hr).1
      have low : ∀ r, (memC (x :: a) r ∧ memC (y :: b) r) ∧ r ≤ min x.2 y.2 ↔ max x.1 y.1 ≤ r ∧ r ≤ min x.2 y.2 := fun r => by
        rw [memC_cons, memC_cons]
        constructor
        · rintro ⟨⟨h1, h2⟩, h3⟩
          have e1 : x.1 ≤ r := by
            rcases h1 with h1 | h1
            · exact h1.1
            · have := k1 h1; omega
          have e2 : y.1 ≤ r := by
            rcases h2 with h2 | h2
            · exact h2.1
            · have := k2 h2; omega
          exact ⟨by omega, h3⟩
        · rintro ⟨h1, h2⟩
          exact ⟨⟨.inl ⟨by omega, by omega⟩, .inl ⟨by omega, by omega⟩⟩, h2⟩
      by_cases hc : max x.1 y.1 ≤ min x.2 y.2
      · rw [if_pos hc]
        refine ⟨⟨?_, hc, ?_, hz1⟩, fun r => ?_⟩
        · show max p q ≤ max x.1 y.1; omega
        · show min x.2 y.2 ≤ most; omega
        · rw [List.singleton_append, memC_cons, hz2]
          have := low r
          constructor
          · rintro (h1 | h1)
            · exact (this.2 h1).1
            · exact ⟨h1.1, h1.2.1⟩
          · rintro h1
            by_cases h2 : r ≤ min x.2 y.2
            · exact .inl (this.1 ⟨h1, h2⟩)
            · exact .inr ⟨h1.1, h1.2, by omega⟩
      · rw [if_neg hc, List.nil_append]
        refine ⟨?_, fun r => ?_⟩
        · exact hz3
        · rw [hz2]
          have := low r
          constructor
          · rintro h1; exact ⟨h1.1, h1.2.1⟩
          · rintro h1
            refine ⟨h1.1, h1.2, ?_⟩
            apply Int.not_le.1
            intro h2
            have := this.1 ⟨h1, h2⟩
            omega
    rw [andGo]
    by_cases hc : x.2 < y.2
    · rw [if_pos hc]
      obtain ⟨h1, h2⟩ := and_ok a (y :: b) ha.2.2.2 hb
      refine key _ ⟨h1.mono (by omega), h1.mono (by omega), fun r => ?_⟩
      rw [h2, memC_cons x]
      constructor
      · rintro ⟨e1, e2⟩
        have := (ha.2.2.2.mem_in e1).1
        exact ⟨.inr e1, e2, by omega⟩
      · rintro ⟨e1 | e1, e2, e3⟩
        · omega
        · exact ⟨e1, e2⟩
    · rw [if_neg hc]
      obtain ⟨h1, h2⟩ := and_ok (x :: a) b ha hb.2.2.2
      refine key _ ⟨h1.mono (by omega), h1.mono (by omega), fun r => ?_⟩
      rw [h2, memC_cons y]
      constructor
      · rintro ⟨e1, e2⟩
        have := (hb.2.2.2.mem_in e2).1
        exact ⟨e1, .inr e2, by omega⟩
      · rintro ⟨e1, e2 | e2, e3⟩
        · omega
        · exact ⟨e1, e2⟩
termination_by a b => a.length + b.length

/-- What ranges from n on have not. -/
def notGo : Int → List Rg → List Rg
  | n, [] => if n ≤ most then [(n, most)] else []
  | n, x :: l => (if n < x.1 then [(n, x.1 - 1)] else []) ++ notGo (x.2 + 1) l
theorem not_ok : ∀ (l : List Rg) (n : Int), Canon n l → Canon n (notGo n l) ∧ ∀ r, memC (notGo n l) r ↔ n ≤ r ∧ r ≤ most ∧ ¬ memC l r
  | [], n, _ => by
    rw [notGo]
    by_cases h : n ≤ most
    · rw [if_pos h]
      exact ⟨⟨Int.le_refl _, h, Int.le_refl _, trivial⟩, fun r => by simp [memC_cons, memC_nil]⟩
    · rw [if_neg h]
      exact ⟨trivial, fun r => by simp [memC_nil]; omega⟩
  | x :: l, n, hc => by
    have h1 := hc.1
    have h2 := hc.2.1
    have h3 := hc.2.2.1
    have k1 : ∀ {r}, memC l r → x.2 + 2 ≤ r := fun hr => (hc.2.2.2.mem_in hr).1
    obtain ⟨e1, e2⟩ := not_ok l (x.2 + 1) (hc.2.2.2.mono (by omega))
    rw [notGo]
    have fin : ∀ r, ((n ≤ r ∧ r ≤ x.1 - 1) ∨ (x.2 + 1 ≤ r ∧ r ≤ most ∧ ¬ memC l r)) ↔ (n ≤ r ∧ r ≤ most ∧ ¬ memC (x :: l) r) := fun r => by
      rw [memC_cons]
      constructor
      · rintro (a | a)
        · refine ⟨a.1, by omega, fun h => ?_⟩
          rcases h with h | h
          · omega
          · have := k1 h; omega
        · refine ⟨by omega, a.2.1, fun h => ?_⟩
          rcases h with h | h
          · omega
          · exact a.2.2 h
      · rintro ⟨a1, a2, a3⟩
        by_cases h : r < x.1
        · exact .inl ⟨a1, by omega⟩
        · refine .inr ⟨?_, a2, fun hm => a3 (.inr hm)⟩
          apply Int.not_lt.1
          intro hlt
          exact a3 (.inl ⟨by omega, by omega⟩)
    by_cases h : n < x.1
    · rw [if_pos h]
      refine ⟨⟨Int.le_refl _, by show n ≤ x.1 - 1; omega, by show x.1 - 1 ≤ most; omega, e1.mono (by show x.1 - 1 + 2 ≤ x.2 + 1; omega)⟩, fun r => ?_⟩
      rw [List.singleton_append, memC_cons, e2]
      exact fin r
    · rw [if_neg h, List.nil_append]
      refine ⟨e1.mono (by omega), fun r => ?_⟩
      rw [e2, ← fin r]
      constructor
      · exact .inr
      · rintro (a | a)
        · omega
        · exact a

/-! ### Count -/
def countC : List Rg → Int
  | [] => 0
  | x :: l => (x.2 - x.1 + 1) + countC l
/-- How many of the first n numbers. -/
def card (p : Nat → Bool) : Nat → Nat
  | 0 => 0
  | n + 1 => card p n + if p n then 1 else 0
theorem card_or (p q : Nat → Bool) (n : Nat) : card (fun i => p i || q i) n + card (fun i => p i && q i) n = card p n + card q n := by
  induction n with
  | zero => rfl
  | succ n ih =>
    rw [card, card, card, card]
    cases p n <;> cases q n <;> simp <;> omega
theorem card_same {p q : Nat → Bool} {n : Nat} (h : ∀ i, i < n → p i = q i) : card p n = card q n := by
  induction n with
  | zero => rfl
  | succ n ih => rw [card, card, ih (fun i hi => h i (by omega)), h n (by omega)]
theorem card_range (lo hi : Int) (hl : 0 ≤ lo) (h : lo ≤ hi + 1) : ∀ n : Nat, (card (fun i => decide (lo ≤ (i : Int) ∧ (i : Int) ≤ hi)) n : Int) = if (n : Int) ≤ lo then 0 else if (n : Int) ≤ hi then (n : Int) - lo else hi + 1 - lo := by
  intro n
  induction n with
  | zero => rw [card, if_pos (by omega)]; rfl
  | succ n ih =>
    rw [card]
    by_cases h1 : lo ≤ (n : Int) ∧ (n : Int) ≤ hi
    · rw [decide_eq_true h1, if_pos rfl]
      push_cast
      rw [ih]
      repeat' split
      all_goals omega
    · rw [decide_eq_false h1, if_neg (by decide)]
      push_cast
      rw [ih]
      repeat' split
      all_goals omega
instance (l : List Rg) (r : Int) : Decidable (memC l r) := by unfold memC; infer_instance
def memB (l : List Rg) (i : Nat) : Bool := decide (memC l (i : Int))
theorem count_card : ∀ (l : List Rg) (b : Int), Canon b l → 0 ≤ b → countC l = card (memB l) 1114112
  | [], _, _, _ => by
    have : card (memB []) 1114112 = 0 := by
      have h : ∀ n, card (memB []) n = 0 := fun n => by
        induction n with
        | zero => rfl
        | succ n ih => rw [card, ih]; simp [memB, memC_nil]
      exact h _
    rw [this]; rfl
  | x :: l, b, hc, hb => by
    have h1 := hc.1
    have h2 := hc.2.1
    have h3 := hc.2.2.1
    have ih := count_card l (x.2 + 2) hc.2.2.2 (by omega)
    have k1 : ∀ {r}, memC l r → x.2 + 2 ≤ r := fun hr => (hc.2.2.2.mem_in hr).1
    have hd := card_or (fun i : Nat => decide (x.1 ≤ (i : Int) ∧ (i : Int) ≤ x.2)) (memB l) 1114112
    have hz : card (fun i : Nat => decide (x.1 ≤ (i : Int) ∧ (i : Int) ≤ x.2) && memB l i) 1114112 = 0 := by
      have h : ∀ n, card (fun i : Nat => decide (x.1 ≤ (i : Int) ∧ (i : Int) ≤ x.2) && memB l i) n = 0 := fun n => by
        induction n with
        | zero => rfl
        | succ n ih =>
          rw [card, ih]
          by_cases hm : memC l (n : Int)
          · have := k1 hm
            rw [decide_eq_false (by omega)]; rfl
          · unfold memB
            rw [decide_eq_false hm, Bool.and_false]; rfl
      exact h _
    have he : card (memB (x :: l)) 1114112 = card (fun i : Nat => decide (x.1 ≤ (i : Int) ∧ (i : Int) ≤ x.2) || memB l i) 1114112 := by
      apply card_same
      intro i _
      unfold memB
      rw [← Bool.decide_or]
      exact decide_eq_decide.2 (memC_cons x l i)
    have hr := card_range x.1 x.2 (by omega) (by omega) 1114112
    unfold most at h3
    rw [if_neg (by omega), if_neg (by omega)] at hr
    rw [countC, ih, he]
    omega

end Go.Proofs.Chars

namespace Go.Proofs.Chars

/-- Numbers that rise from b on, up to the greatest one. -/
def Rise : Int → List Int → Prop
  | _, [] => True
  | b, e :: l => b ≤ e ∧ e ≤ most ∧ Rise (e + 1) l
theorem Rise.low : ∀ {l : List Int} {b : Int}, Rise b l → ∀ {e : Int}, e ∈ l → b ≤ e ∧ e ≤ most
  | [], _, _, e, h => by simp at h
  | x :: l, b, hr, e, h => by
    rcases List.mem_cons.1 h with rfl | h
    · exact ⟨hr.1, hr.2.1⟩
    · have := hr.2.2.low h
      have h1 := hr.1
      exact ⟨by omega, this.2⟩
/-- The ranges between edges whose first number is so. -/
def pieces (P : Int → Bool) : List Int → List Rg
  | [] => []
  | [e] => if P e then [(e, most)] else []
  | e :: f :: l => (if P e then [(e, f - 1)] else []) ++ pieces P (f :: l)
/-- What changes at edges alone is the same up to the next one. -/
theorem same_upto {P : Int → Bool} {e f : Int} (h : ∀ r, e < r → r ≤ f → P r = P (r - 1)) : ∀ r, e ≤ r → r ≤ f → P r = P e := by
  have key : ∀ n : Nat, e + n ≤ f → P (e + n) = P e := by
    intro n
    induction n with
    | zero => intro _; simp
    | succ n ih =>
      intro hn
      have := h (e + ((n + 1 : Nat) : Int)) (by omega) hn
      rw [this, show e + ((n + 1 : Nat) : Int) - 1 = e + (n : Int) by omega]
      exact ih (by omega)
  intro r h1 h2
  have := key (r - e).toNat (by omega)
  rw [show e + ((r - e).toNat : Int) = r by omega] at this
  exact this
theorem pieces_ok (P : Int → Bool) : ∀ (l : List Int) (e : Int), Rise e (e :: l) → (∀ r, e < r → r ≤ most → r ∉ l → P r = P (r - 1)) →
    (∀ r, memC (pieces P (e :: l)) r ↔ e ≤ r ∧ r ≤ most ∧ P r = true) ∧ Rising (pieces P (e :: l)) ∧ ∀ x ∈ pieces P (e :: l), e ≤ x.1 ∧ x.1 ≤ x.2 ∧ x.2 ≤ most
  | [], e, hr, hP => by
    have hs := same_upto (P := P) (e := e) (f := most) (fun r h1 h2 => hP r h1 h2 (by simp))
    rw [pieces]
    have hem := hr.2.1
    by_cases h : P e = true
    · rw [if_pos h]
      refine ⟨fun r => ?_, ⟨fun y hy => by simp at hy, trivial⟩, fun x hx => ?_⟩
      · rw [memC_cons, memC_nil, or_false]
        exact ⟨fun ⟨a, b⟩ => ⟨a, b, by rw [hs r a b]; exact h⟩, fun ⟨a, b, _⟩ => ⟨a, b⟩⟩
      · simp at hx; subst hx; exact ⟨Int.le_refl _, hem, Int.le_refl _⟩
    · rw [if_neg h]
      refine ⟨fun r => ?_, trivial, fun x hx => by simp at hx⟩
      rw [memC_nil]
      exact ⟨fun h => h.elim, fun ⟨a, b, c⟩ => h (by rw [← hs r a b]; exact c)⟩
  | f :: l, e, hr, hP => by
    have hef : e + 1 ≤ f := hr.2.2.1
    have hfm : f ≤ most := hr.2.2.2.1
    have hr2 : Rise f (f :: l) := ⟨Int.le_refl _, hr.2.2.2⟩
    have hs := same_upto (P := P) (e := e) (f := f - 1) (fun r h1 h2 => hP r h1 (by omega) (fun hm => by
      rcases List.mem_cons.1 hm with rfl | hm
      · omega
      · have := hr2.2.2.low hm
        omega))
    obtain ⟨i1, i2, i3⟩ := pieces_ok P l f hr2 (fun r h1 h2 h3 => hP r (by omega) h2 (fun hm => by
      rcases List.mem_cons.1 hm with rfl | hm
      · omega
      · exact h3 hm))
    rw [pieces]
    by_cases h : P e = true
    · rw [if_pos h]
      refine ⟨fun r => ?_, ⟨fun y hy => ?_, i2⟩, fun x hx => ?_⟩
      · rw [List.singleton_append, memC_cons, i1]
        show (e ≤ r ∧ r ≤ f - 1) ∨ _ ↔ _
        constructor
        · rintro (⟨a, b⟩ | ⟨a, b, c⟩)
          · exact ⟨a, by omega, by rw [hs r a b]; exact h⟩
          · exact ⟨by omega, b, c⟩
        · rintro ⟨a, b, c⟩
          by_cases hlt : r < f
          · exact .inl ⟨a, by omega⟩
          · exact .inr ⟨by omega, b, c⟩
      · have := (i3 y hy).1
        show e ≤ y.1; omega
      · rw [List.singleton_append] at hx
        rcases List.mem_cons.1 hx with rfl | hx
        · exact ⟨Int.le_refl _, by show e ≤ f - 1; omega, by show f - 1 ≤ most; omega⟩
        · have := i3 x hx
          exact ⟨by omega, this.2⟩
    · rw [if_neg h, List.nil_append]
      refine ⟨fun r => ?_, i2, fun x hx => ?_⟩
      · rw [i1]
        constructor
        · rintro ⟨a, b, c⟩
          exact ⟨by omega, b, c⟩
        · rintro ⟨a, b, c⟩
          refine ⟨?_, b, c⟩
          apply Int.not_lt.1
          intro hlt
          exact h (by rw [← hs r a (by omega)]; exact c)
      · have := i3 x hx
        exact ⟨by omega, this.2⟩
/-- The clean set of what changes at edges alone. -/
theorem clean_ok (P : Int → Bool) {l : List Int} (hr : Rise 0 (0 :: l)) (hP : ∀ r, 0 < r → r ≤ most → r ∉ l → P r = P (r - 1)) :
    Canon 0 ((pieces P (0 :: l)).foldl ofStep []) ∧ ∀ r, memC ((pieces P (0 :: l)).foldl ofStep []) r ↔ 0 ≤ r ∧ r ≤ most ∧ P r = true := by
  obtain ⟨h1, h2, h3⟩ := pieces_ok P l 0 hr hP
  obtain ⟨k1, k2⟩ := of_ok (pieces P (0 :: l)) [] trivial h2 h3 (fun c hc => by simp at hc)
  exact ⟨k1, fun r => by rw [k2, h1, memC_nil, false_or]⟩
/-- A range's numbers change at its first one, and behind its last one. -/
theorem range_change {s : List Rg} {r : Int} (h : (∃ x ∈ s, x.1 ≤ r ∧ r ≤ x.2) ↔ ¬ ∃ x ∈ s, x.1 ≤ r - 1 ∧ r - 1 ≤ x.2) : ∃ x ∈ s, r = x.1 ∨ r = x.2 + 1 := by
  by_cases hp : ∃ x ∈ s, x.1 ≤ r ∧ r ≤ x.2
  · obtain ⟨x, hx, h1, h2⟩ := hp
    have := h.1 ⟨x, hx, h1, h2⟩
    refine ⟨x, hx, .inl ?_⟩
    have h3 : ¬ (x.1 ≤ r - 1 ∧ r - 1 ≤ x.2) := fun h4 => this ⟨x, hx, h4⟩
    omega
  · have h0 : ∃ x ∈ s, x.1 ≤ r - 1 ∧ r - 1 ≤ x.2 := Classical.byContradiction fun h1 => hp (h.2 h1)
    obtain ⟨x, hx, h1, h2⟩ := h0
    have h3 : ¬ (x.1 ≤ r ∧ r ≤ x.2) := fun h4 => hp ⟨x, hx, h4⟩
    exact ⟨x, hx, .inr (by omega)⟩
/-- A list that rises, with one more number. -/
def withE (l : List Int) (n : Int) : List Int :=
  match l with
  | [] => [n]
  | e :: l => if e < n then e :: withE l n else if e = n then e :: l else n :: e :: l
theorem withE_ok : ∀ (l : List Int) (b n : Int), Rise b l → b ≤ n → n ≤ most → Rise b (withE l n) ∧ ∀ e, e ∈ withE l n ↔ e = n ∨ e ∈ l
  | [], b, n, _, h1, h2 => ⟨⟨h1, h2, trivial⟩, fun e => by simp [withE]⟩
  | x :: l, b, n, hr, h1, h2 => by
    rw [withE]
    by_cases h : x < n
    · rw [if_pos h]
      obtain ⟨k1, k2⟩ := withE_ok l (x + 1) n hr.2.2 (by omega) h2
      refine ⟨⟨hr.1, hr.2.1, k1⟩, fun e => ?_⟩
      rw [List.mem_cons, k2, List.mem_cons]
      constructor
      · rintro (a | a | a)
        · exact .inr (.inl a)
        · exact .inl a
        · exact .inr (.inr a)
      · rintro (a | a | a)
        · exact .inr (.inl a)
        · exact .inl a
        · exact .inr (.inr a)
    · rw [if_neg h]
      by_cases h3 : x = n
      · rw [if_pos h3]
        refine ⟨hr, fun e => ⟨fun he => .inr he, fun he => ?_⟩⟩
        rcases he with rfl | he
        · rw [h3]; exact List.mem_cons_self
        · exact he
      · rw [if_neg h3]
        refine ⟨⟨h1, h2, ⟨by omega, hr.2.1, hr.2.2⟩⟩, fun e => by rw [List.mem_cons]⟩

end Go.Proofs.Chars

namespace Go.Proofs.Chars

/-- How much more than ahead of all borders there is at v. -/
def dep : List (Int × Int) → Int → Int
  | [], _ => 0
  | x :: l, v => (if x.1 ≤ v then x.2 else 0) + dep l v
def tot : List (Int × Int) → Int
  | [] => 0
  | x :: l => x.2 + tot l
theorem dep_app (l m : List (Int × Int)) (v : Int) : dep (l ++ m) v = dep l v + dep m v := by
  induction l with
  | nil => simp [dep]
  | cons x l ih => rw [List.cons_append, dep, dep, ih]; omega
theorem tot_app (l m : List (Int × Int)) : tot (l ++ m) = tot l + tot m := by
  induction l with
  | nil => simp [tot]
  | cons x l ih => rw [List.cons_append, tot, tot, ih]; omega
theorem dep_all {l : List (Int × Int)} {v : Int} (h : ∀ x ∈ l, x.1 ≤ v) : dep l v = tot l := by
  induction l with
  | nil => rfl
  | cons x l ih => rw [dep, tot, if_pos (h x List.mem_cons_self), ih fun y hy => h y (List.mem_cons_of_mem _ hy)]
theorem dep_none {l : List (Int × Int)} {v : Int} (h : ∀ x ∈ l, v < x.1) : dep l v = 0 := by
  induction l with
  | nil => rfl
  | cons x l ih =>
    have := h x List.mem_cons_self
    rw [dep, if_neg (by omega), ih fun y hy => h y (List.mem_cons_of_mem _ hy)]; rfl
theorem dep_perm {l m : List (Int × Int)} (h : l.Perm m) (v : Int) : dep l v = dep m v := by
  induction h with
  | nil => rfl
  | cons x _ ih => rw [dep, dep, ih]
  | swap x y l => rw [dep, dep, dep, dep]; omega
  | trans _ _ h1 h2 => rw [h1, h2]
/-- The ranges between borders that something lies over. -/
def partsGo (prev n : Int) : List (Int × Int) → List Rg
  | [] => []
  | x :: l => (if 0 < n ∧ prev < x.1 then [(prev, x.1 - 1)] else []) ++ partsGo x.1 (n + x.2) l
/-- Borders by their places, from b on. -/
def RiseB : Int → List (Int × Int) → Prop
  | _, [] => True
  | b, x :: l => b ≤ x.1 ∧ RiseB x.1 l
theorem RiseB.low : ∀ {l : List (Int × Int)} {b : Int}, RiseB b l → ∀ x ∈ l, b ≤ x.1
  | [], _, _, x, h => by simp at h
  | y :: l, b, hr, x, h => by
    rcases List.mem_cons.1 h with rfl | h
    · exact hr.1
    · have h1 := hr.2.low x h
      have h2 := hr.1
      omega
/-- Ranges that rise, and may touch. -/
def Asc : Int → List Rg → Prop
  | _, [] => True
  | b, x :: l => b ≤ x.1 ∧ x.1 ≤ x.2 ∧ Asc (x.2 + 1) l
theorem Asc.mono {b b' : Int} {l : List Rg} (h : Asc b l) (hb : b' ≤ b) : Asc b' l := by
  cases l with
  | nil => trivial
  | cons x l => exact ⟨Int.le_trans hb h.1, h.2⟩
theorem parts_ok : ∀ (l done : List (Int × Int)) (prev : Int), (∀ x ∈ done, x.1 ≤ prev) → RiseB prev l →
    (∀ r, memC (partsGo prev (tot done) l) r ↔ prev ≤ r ∧ (∃ x ∈ l, r < x.1) ∧ 0 < dep (done ++ l) r) ∧ Asc prev (partsGo prev (tot done) l) ∧
    ∀ z ∈ partsGo prev (tot done) l, (z.1 = prev ∨ ∃ x ∈ l, z.1 = x.1) ∧ (∃ x ∈ l, z.2 + 1 = x.1) ∧ (prev ≤ z.1 ∧ z.1 ≤ z.2) ∧ ∀ y ∈ done ++ l, ¬ (z.1 < y.1 ∧ y.1 ≤ z.2)
  | [], done, prev, _, _ => ⟨fun r => by simp [partsGo, memC_nil], trivial, fun z hz => by simp [partsGo] at hz⟩
  | x :: l, done, prev, hd, hr => by
    have hpx := hr.1
    obtain ⟨i1, i2, i3⟩ := parts_ok l (done ++ [x]) x.1 (fun y hy => by
      rcases List.mem_append.1 hy with h | h
      · have := hd y h; omega
      · simp at h; subst h; exact Int.le_refl _) hr.2
    have et : tot (done ++ [x]) = tot done + x.2 := by rw [tot_app]; simp [tot]
    have ea : (done ++ [x]) ++ l = done ++ x :: l := by simp
    rw [et, ea] at i1
    rw [et] at i2
    rw [et, ea] at i3
    have low := hr.2.low
    have hn : ∀ r, prev ≤ r → r < x.1 → dep (done ++ x :: l) r = tot done := fun r h1 h2 => by
      rw [dep_app, dep_all (fun y hy => Int.le_trans (hd y hy) h1), dep_none (fun y hy => by
        rcases List.mem_cons.1 hy with rfl | hy
        · exact h2
        · have := low y hy; omega)]
      omega
    rw [partsGo]
    by_cases hc : 0 < tot done ∧ prev < x.1
    · rw [if_pos hc, List.singleton_append]
      refine ⟨fun r => ?_, ⟨Int.le_refl _, by show prev ≤ x.1 - 1; omega, i2.mono (by show x.1 - 1 + 1 ≤ x.1; omega)⟩, fun z hz => ?_⟩
      · rw [memC_cons, i1]
        show (prev ≤ r ∧ r ≤ x.1 - 1) ∨ _ ↔ _
        constructor
        · rintro (⟨a, b⟩ | ⟨a, ⟨y, b, c⟩, d⟩)
          · exact ⟨a, ⟨x, List.mem_cons_self, by omega⟩, by rw [hn r a (by omega)]; exact hc.1⟩
          · exact ⟨by omega, ⟨y, List.mem_cons_of_mem _ b, c⟩, d⟩
        · rintro ⟨a, ⟨y, b, c⟩, d⟩
          by_cases h : r < x.1
          · exact .inl ⟨a, by omega⟩
          · refine .inr ⟨by omega, ⟨y, ?_, c⟩, d⟩
            rcases List.mem_cons.1 b with rfl | b
            · omega
            · exact b
      · rcases List.mem_cons.1 hz with rfl | hz
        · refine ⟨.inl rfl, ⟨x, List.mem_cons_self, by show x.1 - 1 + 1 = x.1; omega⟩, ⟨Int.le_refl _, by show prev ≤ x.1 - 1; omega⟩, fun y hy => ?_⟩
          show ¬ (prev < y.1 ∧ y.1 ≤ x.1 - 1)
          rcases List.mem_append.1 hy with h | h
          · have := hd y h; omega
          · rcases List.mem_cons.1 h with rfl | h
            · omega
            · have := low y h; omega
        · obtain ⟨a, ⟨y, b1, b2⟩, c, d⟩ := i3 z hz
          refine ⟨.inr ?_, ⟨y, List.mem_cons_of_mem _ b1, b2⟩, ⟨by omega, c.2⟩, d⟩
          rcases a with a | ⟨y, a1, a2⟩
          · exact ⟨x, List.mem_cons_self, a⟩
          · exact ⟨y, List.mem_cons_of_mem _ a1, a2⟩
    · rw [if_neg hc, List.nil_append]
      refine ⟨fun r => ?_, i2.mono hpx, fun z hz => ?_⟩
      · rw [i1]
        constructor
        · rintro ⟨a, ⟨y, b, c⟩, d⟩
          exact ⟨by omega, ⟨y, List.mem_cons_of_mem _ b, c⟩, d⟩
        · rintro ⟨a, ⟨y, b, c⟩, d⟩
          have hge : x.1 ≤ r := by
            apply Int.not_lt.1
            intro h
            rw [hn r a h] at d
            exact hc ⟨d, by omega⟩
          refine ⟨hge, ⟨y, ?_, c⟩, d⟩
          rcases List.mem_cons.1 b with rfl | b
          · omega
          · exact b
      · obtain ⟨a, ⟨y, b1, b2⟩, c, d⟩ := i3 z hz
        refine ⟨.inr ?_, ⟨y, List.mem_cons_of_mem _ b1, b2⟩, ⟨by omega, c.2⟩, d⟩
        rcases a with a | ⟨y, a1, a2⟩
        · exact ⟨x, List.mem_cons_self, a⟩
        · exact ⟨y, List.mem_cons_of_mem _ a1, a2⟩
/-- A set's borders. -/
def borders (O : List Rg) : List (Int × Int) := O.flatMap fun x => [(x.1, 1), (x.2 + 1, -1)]
theorem dep_borders : ∀ (O : List Rg) (b : Int), Canon b O → ∀ v, dep (borders O) v = if memC O v then 1 else 0
  | [], _, _, v => by simp [borders, dep, memC_nil]
  | x :: l, b, hc, v => by
    have h2 := hc.2.1
    have k1 : ∀ {r}, memC l r → x.2 + 2 ≤ r := fun hr => (hc.2.2.2.mem_in hr).1
    have ih := dep_borders l _ hc.2.2.2 v
    have e : borders (x :: l) = [(x.1, 1), (x.2 + 1, -1)] ++ borders l := rfl
    have e2 : dep [(x.1, (1 : Int)), (x.2 + 1, -1)] v = (if x.1 ≤ v then 1 else 0) + (if x.2 + 1 ≤ v then -1 else 0) := by simp [dep]
    rw [e, dep_app, ih, e2]
    by_cases hm : memC l v
    · have := k1 hm
      rw [if_pos hm, if_pos ((memC_cons x l v).2 (.inr hm)), if_pos (by omega), if_pos (by omega)]; rfl
    · rw [if_neg hm]
      by_cases h : x.1 ≤ v ∧ v ≤ x.2
      · rw [if_pos ((memC_cons x l v).2 (.inl h)), if_pos h.1, if_neg (by omega)]; rfl
      · have hno : ¬ memC (x :: l) v := fun h3 => by
          rcases (memC_cons x l v).1 h3 with h4 | h4
          · exact h h4
          · exact hm h4
        rw [if_neg hno]
        by_cases h5 : x.1 ≤ v
        · rw [if_pos h5, if_pos (by omega)]; rfl
        · rw [if_neg h5, if_neg (by omega)]; rfl
/-- At a border of a set its numbers change. -/
theorem border_changes : ∀ (O : List Rg) (b : Int), Canon b O → ∀ y ∈ borders O, (memC O y.1 ∧ ¬ memC O (y.1 - 1)) ∨ (¬ memC O y.1 ∧ memC O (y.1 - 1))
  | [], _, _, y, hy => by simp [borders] at hy
  | x :: l, b, hc, y, hy => by
    have h2 := hc.2.1
    have k1 : ∀ {r}, memC l r → x.2 + 2 ≤ r := fun hr => (hc.2.2.2.mem_in hr).1
    have e : borders (x :: l) = [(x.1, 1), (x.2 + 1, -1)] ++ borders l := rfl
    rw [e] at hy
    have n1 : ∀ r, r ≤ x.2 + 1 → ¬ memC l r := fun r h1 h3 => by have := k1 h3; omega
    rcases List.mem_append.1 hy with h | h
    · simp at h
      rcases h with rfl | rfl
      · left
        refine ⟨(memC_cons x l _).2 (.inl ⟨Int.le_refl _, h2⟩), fun h3 => ?_⟩
        rcases (memC_cons x l _).1 h3 with h4 | h4
        · have : x.1 ≤ x.1 - 1 := h4.1
          omega
        · exact n1 _ (by show x.1 - 1 ≤ _; omega) h4
      · right
        refine ⟨fun h3 => ?_, (memC_cons x l _).2 (.inl ⟨by show x.1 ≤ x.2 + 1 - 1; omega, by show x.2 + 1 - 1 ≤ x.2; omega⟩)⟩
        rcases (memC_cons x l _).1 h3 with h4 | h4
        · have : x.2 + 1 ≤ x.2 := h4.2
          omega
        · exact n1 _ (Int.le_refl _) h4
    · have hlow : ∀ z ∈ borders l, x.2 + 2 ≤ z.1 := by
        intro z hz
        rcases border_changes l _ hc.2.2.2 z hz with h3 | h3
        · exact k1 h3.1
        · have := k1 h3.2; omega
      have hz := hlow y h
      have up : ∀ r, x.2 < r → (memC (x :: l) r ↔ memC l r) := fun r hr => by
        rw [memC_cons]
        exact ⟨fun h3 => by rcases h3 with h4 | h4
                            · omega
                            · exact h4, .inr⟩
      rw [up _ (by omega), up _ (by omega)]
      exact border_changes l _ hc.2.2.2 y h
/-- Away from its borders a set's numbers do not change. -/
theorem no_border : ∀ (O : List Rg) (r : Int), (∀ y ∈ borders O, r ≠ y.1) → (memC O r ↔ memC O (r - 1))
  | [], r, _ => by rw [memC_nil, memC_nil]
  | x :: l, r, h => by
    have e : borders (x :: l) = [(x.1, 1), (x.2 + 1, -1)] ++ borders l := rfl
    rw [e] at h
    have h1 := h (x.1, 1) (by simp)
    have h2 := h (x.2 + 1, -1) (by simp)
    have ih := no_border l r fun y hy => h y (List.mem_append.2 (.inr hy))
    rw [memC_cons, memC_cons, ih]
    have h3 : r ≠ x.1 := h1
    have h4 : r ≠ x.2 + 1 := h2
    constructor
    · rintro (a | a)
      · exact .inl (by omega)
      · exact .inr a
    · rintro (a | a)
      · exact .inl (by omega)
      · exact .inr a

end Go.Proofs.Chars

namespace Go.Proofs.Chars

/-- The numbers of ranges in any order. -/
def memU (l : List Rg) (r : Int) : Prop := 0 ≤ r ∧ r ≤ most ∧ ∃ x ∈ l, x.1 ≤ r ∧ r ≤ x.2
instance (l : List Rg) (r : Int) : Decidable (memU l r) := by unfold memU; infer_instance
/-- The set of ranges. -/
def IsOf (l O : List Rg) : Prop := Canon 0 O ∧ ∀ r, memC O r ↔ memU l r
theorem IsOf.uniq {l m O Q : List Rg} (h : IsOf l O) (h2 : IsOf m Q) (e : ∀ r, memU l r ↔ memU m r) : O = Q :=
  h.1.uniq h2.1 fun r => by rw [h.2, h2.2, e]
theorem IsOf.same {l m O Q : List Rg} (h : IsOf l O) (h2 : IsOf m Q) : O = Q ↔ ∀ r, memU l r ↔ memU m r :=
  ⟨fun e r => by rw [← h.2, ← h2.2, e], h.uniq h2⟩
theorem Canon.memU {O : List Rg} (h : Canon 0 O) (r : Int) : memU O r ↔ memC O r :=
  ⟨fun hm => hm.2.2, fun hm => ⟨(h.mem_in hm).1, (h.mem_in hm).2, hm⟩⟩
theorem Canon.isOf {O : List Rg} (h : Canon 0 O) : IsOf O O := ⟨h, fun r => (h.memU r).symm⟩
theorem memU_app (l m : List Rg) (r : Int) : memU (l ++ m) r ↔ memU l r ∨ memU m r := by
  have := memC_app l m r
  unfold memC at this
  unfold memU
  rw [this]
  constructor
  · rintro ⟨a, b, c | c⟩
    · exact .inl ⟨a, b, c⟩
    · exact .inr ⟨a, b, c⟩
  · rintro (⟨a, b, c⟩ | ⟨a, b, c⟩)
    · exact ⟨a, b, .inl c⟩
    · exact ⟨a, b, .inr c⟩
theorem memU_perm {l m : List Rg} (h : l.Perm m) (r : Int) : memU l r ↔ memU m r := by
  unfold memU
  constructor
  · rintro ⟨a, b, x, hx, c⟩
    exact ⟨a, b, x, h.mem_iff.1 hx, c⟩
  · rintro ⟨a, b, x, hx, c⟩
    exact ⟨a, b, x, h.mem_iff.2 hx, c⟩
/-- The ranges that Of takes: cut to what is a number of a set. -/
def cutR (l : List Rg) : List Rg := (l.map fun x => (max x.1 0, min x.2 most)).filter fun x => decide (x.1 ≤ x.2)
theorem cutR_ok (l : List Rg) : (∀ x ∈ cutR l, 0 ≤ x.1 ∧ x.1 ≤ x.2 ∧ x.2 ≤ most) ∧ ∀ r, memC (cutR l) r ↔ memU l r := by
  constructor
  · intro x hx
    have h := List.mem_filter.1 hx
    obtain ⟨y, _, rfl⟩ := List.mem_map.1 h.1
    have h2 := of_decide_eq_true h.2
    exact ⟨by show 0 ≤ max y.1 0; omega, h2, by show min y.2 most ≤ most; omega⟩
  · intro r
    constructor
    · rintro ⟨x, hx, h1, h2⟩
      obtain ⟨y, hy, rfl⟩ := List.mem_map.1 (List.mem_filter.1 hx).1
      have h3 : max y.1 0 ≤ r := h1
      have h4 : r ≤ min y.2 most := h2
      exact ⟨by omega, by omega, y, hy, by omega, by omega⟩
    · rintro ⟨h1, h2, x, hx, h3, h4⟩
      refine ⟨(max x.1 0, min x.2 most), List.mem_filter.2 ⟨List.mem_map.2 ⟨x, hx, rfl⟩, decide_eq_true ?_⟩, ?_, ?_⟩
      · show max x.1 0 ≤ min x.2 most; omega
      · show max x.1 0 ≤ r; omega
      · show r ≤ min x.2 most; omega
/-- What Of gives: ranges cut, by their beginnings in whatever way, and put together. -/
theorem of_is {l s : List Rg} (hp : s.Perm (cutR l)) (hs : Rising s) : IsOf l (s.foldl ofStep []) := by
  obtain ⟨h1, h2⟩ := cutR_ok l
  obtain ⟨k1, k2⟩ := of_ok s [] trivial hs (fun x hx => h1 x (hp.mem_iff.1 hx)) (fun c hc => by simp at hc)
  refine ⟨k1, fun r => ?_⟩
  rw [k2, memC_nil, false_or, ← h2]
  unfold memC
  constructor
  · rintro ⟨x, hx, c⟩
    exact ⟨x, hp.mem_iff.1 hx, c⟩
  · rintro ⟨x, hx, c⟩
    exact ⟨x, hp.mem_iff.2 hx, c⟩
/-- The set of both. -/
theorem and_is {a b A B : List Rg} (ha : IsOf a A) (hb : IsOf b B) : Canon 0 (andGo A B) ∧ ∀ r, memU (andGo A B) r ↔ memU a r ∧ memU b r := by
  obtain ⟨h1, h2⟩ := and_ok A B ha.1 hb.1
  have h3 : Canon 0 (andGo A B) := h1.mono (by omega)
  exact ⟨h3, fun r => by rw [h3.memU, h2, ha.2, hb.2]⟩
/-- The numbers that a set has not. -/
theorem not_is {a A : List Rg} (ha : IsOf a A) : Canon 0 (notGo 0 A) ∧ ∀ r, memU (notGo 0 A) r ↔ 0 ≤ r ∧ r ≤ most ∧ ¬ memU a r := by
  obtain ⟨h1, h2⟩ := not_ok A 0 ha.1
  exact ⟨h1, fun r => by rw [h1.memU, h2, ha.2]⟩
theorem empty_is {a A : List Rg} (ha : IsOf a A) : A = [] ↔ ∀ r, ¬ memU a r := by
  constructor
  · rintro rfl r hr
    exact (memC_nil r).1 ((ha.2 r).2 hr)
  · intro h
    cases A with
    | nil => rfl
    | cons x l =>
      have := (ha.2 x.1).1 ((memC_cons x l _).2 (.inl ⟨Int.le_refl _, ha.1.2.1⟩))
      exact (h _ this).elim
theorem count_is {a A : List Rg} (ha : IsOf a A) : countC A = card (fun i => decide (memU a (i : Int))) 1114112 := by
  have h : ∀ n, card (memB A) n = card (fun i => decide (memU a (i : Int))) n := fun n => card_same fun i _ => by
    unfold memB
    exact decide_eq_decide.2 (ha.2 i)
  rw [count_card A 0 ha.1 (Int.le_refl _), h]
/-- As many in any of two sets, and in both, as in each. -/
theorem count_both {a b c d A B C D : List Rg} (ha : IsOf a A) (hb : IsOf b B) (hc : IsOf c C) (hd : IsOf d D) (h1 : ∀ r, memU c r ↔ memU a r ∨ memU b r) (h2 : ∀ r, memU d r ↔ memU a r ∧ memU b r) :
    countC C + countC D = countC A + countC B := by
  rw [count_is ha, count_is hb, count_is hc, count_is hd]
  have h := card_or (fun i => decide (memU a (i : Int))) (fun i => decide (memU b (i : Int))) 1114112
  have e1 : card (fun i => decide (memU c (i : Int))) 1114112 = card (fun i => decide (memU a (i : Int)) || decide (memU b (i : Int))) 1114112 := by
    apply card_same
    intro i _
    rw [Bool.eq_iff_iff, Bool.or_eq_true, decide_eq_true_iff, decide_eq_true_iff, decide_eq_true_iff, h1]
  have e2 : card (fun i => decide (memU d (i : Int))) 1114112 = card (fun i => decide (memU a (i : Int)) && decide (memU b (i : Int))) 1114112 := by
    apply card_same
    intro i _
    rw [Bool.eq_iff_iff, Bool.and_eq_true, decide_eq_true_iff, decide_eq_true_iff, decide_eq_true_iff, h2]
  rw [e1, e2]
  omega

/-- The set that the laws ask of. -/
theorem known_canon : Canon 0 [(95, 95), (97, 99)] := by simp [Canon, most]
theorem known_is {O : List Rg} (h : IsOf [(97, 99), (95, 95)] O) : O = [(95, 95), (97, 99)] :=
  h.uniq known_canon.isOf fun r => memU_perm (List.Perm.swap _ _ _) r
theorem all_is {O : List Rg} (h : IsOf [(0, most)] O) : O = [(0, most)] :=
  h.uniq (Canon.isOf (O := [(0, most)]) (by simp [Canon, most])) fun _ => Iff.rfl
theorem all_count : countC [(0, most)] = 1114112 := by simp [countC, most]

end Go.Proofs.Chars

namespace Go.Proofs.YtfjlhfalnciamaaDoor.Chars
open Go Go.RowKit Go.Proofs.Chars

def rcells (L : List Rg) : List Value := L.flatMap fun x => [.int .i32 x.1, .int .i32 x.2]
theorem rcells_len (L : List Rg) : (rcells L).length = L.length * 2 := by
  induction L with
  | nil => rfl
  | cons x r ih => simp only [rcells, List.flatMap_cons, List.length_append] at ih ⊢; rw [ih]; simp; omega
theorem rcells_append (L M : List Rg) : rcells (L ++ M) = rcells L ++ rcells M := by simp [rcells]
theorem rcells_get {L : List Rg} {i : Nat} {x : Rg} (h : L[i]? = some x) : (rcells L)[i * 2]? = some (.int .i32 x.1) ∧ (rcells L)[i * 2 + 1]? = some (.int .i32 x.2) := by
  induction L generalizing i with
  | nil => cases h
  | cons y r ih =>
    cases i with
    | zero => simp at h; subst h; simp [rcells]
    | succ i =>
      simp at h
      have := ih h
      simp only [rcells, List.flatMap_cons] at this ⊢
      rw [show (i + 1) * 2 = i * 2 + 2 by omega, show i * 2 + 2 + 1 = i * 2 + 1 + 2 by omega]
      rw [List.getElem?_append_right (by simp), List.getElem?_append_right (by simp)]
      simpa using this
def in32 (x : Rg) : Prop := (-2147483648 ≤ x.1 ∧ x.1 ≤ 2147483647) ∧ (-2147483648 ≤ x.2 ∧ x.2 ≤ 2147483647)
theorem canon_in32 : ∀ {L : List Rg} {b : Int}, Canon b L → 0 ≤ b → ∀ x ∈ L, in32 x
  | [], _, _, _, x, h => by cases h
  | y :: l, b, hc, hb, x, h => by
    have h1 := hc.1
    have h2 := hc.2.1
    have h3 := hc.2.2.1
    unfold most at h3
    rcases List.mem_cons.1 h with rfl | h
    · exact ⟨⟨by omega, by omega⟩, by omega, by omega⟩
    · exact canon_in32 hc.2.2.2 (by omega) x h
/-- A value that is a slice of these ranges. -/
def Rgs (w : World) (v : Value) (L : List Rg) : Prop :=
  (∀ x ∈ L, in32 x) ∧ ∃ A cap, v = .slice A L.length cap ∧ L.length ≤ cap ∧ cap ≤ maxLen ∧
    (0 < L.length → ∃ b off, A = some ⟨b, off, none⟩ ∧ b < w.heap.size ∧ ∀ i x, L[i]? = some x → w.cell? ⟨b, off + i * 2, none⟩ = some (.int .i32 x.1) ∧ w.cell? ⟨b, off + i * 2 + 1, none⟩ = some (.int .i32 x.2))
theorem Rgs.stay {w w' : World} {v : Value} {L : List Rg} (h : Rgs w v L) (hb : Below w.heap.size w w') : Rgs w' v L := by
  obtain ⟨h0, A, cap, h1, h2, h3, h4⟩ := h
  refine ⟨h0, A, cap, h1, h2, h3, fun hn => ?_⟩
  obtain ⟨b, off, e, hlt, hc⟩ := h4 hn
  exact ⟨b, off, e, Nat.lt_of_lt_of_le hlt hb.size, fun i x hx => ⟨(hb.cell (p := ⟨b, _, none⟩) hlt).trans (hc i x hx).1, (hb.cell (p := ⟨b, _, none⟩) hlt).trans (hc i x hx).2⟩⟩
theorem Rgs.len {w : World} {v : Value} {L : List Rg} (h : Rgs w v L) (ty : TypeId) (w' : World) : (Builtin.len_ #[23] ty #[v]).run Tryd.prog w' = .ok (.int .i64 (L.length : Int)) w' := by
  obtain ⟨_, A, cap, rfl, _⟩ := h
  kernel_rfl
theorem Rgs.len22 {w : World} {v : Value} {L : List Rg} (h : Rgs w v L) (ty : TypeId) (w' : World) : (Builtin.len_ #[22] ty #[v]).run Tryd.prog w' = .ok (.int .i64 (L.length : Int)) w' := by
  obtain ⟨_, A, cap, rfl, _⟩ := h
  kernel_rfl
/-- A row of ranges that the call made. -/
def Rowed (w : World) (S : Nat) (v : Value) (L : List Rg) : Prop := w.ownsRow S 44 2 v L.length (rcells L)
theorem Rowed.stay {w w' : World} {S : Nat} {v : Value} {L : List Rg} (h : Rowed w S v L) (hb : Below w.heap.size w w') : Rowed w' S v L := by
  refine ⟨h.1, ?_⟩
  rcases h.2 with h0 | ⟨g, cap, cur, e1, e2, e3, e4⟩
  · exact .inl h0
  · exact .inr ⟨g, cap, cur, e1, e2, (hb.block g (Array.getElem?_eq_some_iff.1 e3).1).trans e3, e4⟩
theorem Rowed.block_lt {w : World} {S : Nat} {v : Value} {L : List Rg} (h : Rowed w S v L) {g : Nat} (hg : v.ownBlock = some g) : g < w.heap.size := by
  rcases h.2 with ⟨rfl, _⟩ | ⟨g', cap, cur, rfl, _, e3, _⟩
  · cases hg
  · cases hg
    exact (Array.getElem?_eq_some_iff.1 e3).1
theorem Rowed.low {w : World} {S S' : Nat} {v : Value} {L : List Rg} (h : Rowed w S v L) (hS : S' ≤ S) : Rowed w S' v L := by
  refine ⟨h.1, ?_⟩
  rcases h.2 with h0 | ⟨g, cap, cur, e1, e2, e3⟩
  · exact .inl h0
  · exact .inr ⟨g, cap, cur, e1, Nat.le_trans hS e2, e3⟩
theorem addr_add (g n : Nat) : (⟨g, 0, none⟩ : Addr).add n = ⟨g, n, none⟩ := by
  by_cases h : n = 0
  · subst h; simp [Addr.add]
  · simp [Addr.add, h]
theorem Rowed.rgs {w : World} {S : Nat} {v : Value} {L : List Rg} (h : Rowed w S v L) (hi : ∀ x ∈ L, in32 x) : Rgs w v L := by
  refine ⟨hi, ?_⟩
  rcases h.2 with ⟨rfl, h0⟩ | ⟨g, cap, cur, hv, h1, h3, h4, h5, h6, h7⟩
  · exact ⟨none, 0, by rw [h0], by omega, by simp [maxLen], fun hn => by omega⟩
  · refine ⟨_, cap, hv, h4, h5, fun _ => ⟨g, 0, rfl, (Array.getElem?_eq_some_iff.1 h3).1, fun i x hx => ?_⟩⟩
    have hc := World.ownsRow.cells h (g := g) (by rw [hv]; rfl)
    have h2 := rcells_get hx
    rw [Nat.zero_add]
    have e1 := hc _ _ h2.1
    have e2 := hc _ _ h2.2
    rw [addr_add] at e1 e2
    exact ⟨e1, e2⟩

end Go.Proofs.YtfjlhfalnciamaaDoor.Chars
