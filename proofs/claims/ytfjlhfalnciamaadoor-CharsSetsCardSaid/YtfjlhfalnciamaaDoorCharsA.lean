/- Sets of numbers as ranges that rise: plain maths (package chars). -/
namespace Go.Proofs.Chars

abbrev Rg := Int × Int
/-- The greatest number of a set. -/
def most : Int := 1114111
def memC (l : List Rg) (r : Int) : Prop := ∃ x ∈ l, x.1 ≤ r ∧ r ≤ x.2
/-- Ranges that rise from b on, none of which touch. -/
def Canon : Int → List Rg → Prop
  | _, [] => True
  | b, x :: l => b ≤ x.1 ∧ x.1 ≤ x.2 ∧ x.2 ≤ most ∧ Canon (x.2 + 2) l
theorem memC_nil (r : Int) : memC [] r ↔ False := by simp [memC]
theorem memC_cons (x : Rg) (l : List Rg) (r : Int) : memC (x :: l) r ↔ (x.1 ≤ r ∧ r ≤ x.2) ∨ memC l r := by simp [memC]
theorem memC_app (l m : List Rg) (r : Int) : memC (l ++ m) r ↔ memC l r ∨ memC m r := by
  induction l with
  | nil => simp [memC_nil]
  | cons x l ih => rw [List.cons_append, memC_cons, memC_cons, ih, or_assoc]
theorem Canon.mono {b b' : Int} {l : List Rg} (h : Canon b l) (hb : b' ≤ b) : Canon b' l := by
  cases l with
  | nil => trivial
  | cons x l => exact ⟨Int.le_trans hb h.1, h.2⟩
theorem Canon.mem_in : ∀ {l : List Rg} {b : Int}, Canon b l → ∀ {r : Int}, memC l r → b ≤ r ∧ r ≤ most
  | [], _, _, r, h => ((memC_nil r).1 h).elim
  | x :: l, b, hc, r, h => by
    rcases (memC_cons x l r).1 h with h1 | h1
    · have h2 := hc.1
      have h3 := hc.2.2.1
      exact ⟨by omega, by omega⟩
    · have := hc.2.2.2.mem_in h1
      have h2 := hc.1
      have h3 := hc.2.1
      exact ⟨by omega, this.2⟩
/-- Such ranges are told by their numbers. -/
theorem Canon.uniq : ∀ {l m : List Rg} {b b' : Int}, Canon b l → Canon b' m → (∀ r, memC l r ↔ memC m r) → l = m
  | [], [], _, _, _, _, _ => rfl
  | [], y :: m, _, _, _, hm, h => by
    have := (h y.1).2 ((memC_cons y m _).2 (.inl ⟨Int.le_refl _, hm.2.1⟩))
    exact ((memC_nil _).1 this).elim
  | x :: l, [], _, _, hl, _, h => by
    have := (h x.1).1 ((memC_cons x l _).2 (.inl ⟨Int.le_refl _, hl.2.1⟩))
    exact ((memC_nil _).1 this).elim
  | x :: l, y :: m, b, b', hl, hm, h => by
    have hx := hl.2.1
    have hy := hm.2.1
    have k1 : ∀ {r}, memC l r → x.2 + 2 ≤ r := fun hr => (hl.2.2.2.mem_in hr).1
    have k2 : ∀ {r}, memC m r → y.2 + 2 ≤ r := fun hr => (hm.2.2.2.mem_in hr).1
    have a1 : y.1 ≤ x.1 := by
      rcases (memC_cons y m _).1 ((h x.1).1 ((memC_cons x l _).2 (.inl ⟨Int.le_refl _, hx⟩))) with h1 | h1
      · exact h1.1
      · have := k2 h1; omega
    have a2 : x.1 ≤ y.1 := by
      rcases (memC_cons x l _).1 ((h y.1).2 ((memC_cons y m _).2 (.inl ⟨Int.le_refl _, hy⟩))) with h1 | h1
      · exact h1.1
      · have := k1 h1; omega
    have a3 : ¬ x.2 < y.2 := fun hlt => by
      rcases (memC_cons x l _).1 ((h (x.2 + 1)).2 ((memC_cons y m _).2 (.inl ⟨by omega, by omega⟩))) with h1 | h1
      · omega
      · have := k1 h1; omega
    have a4 : ¬ y.2 < x.2 := fun hlt => by
      rcases (memC_cons y m _).1 ((h (y.2 + 1)).1 ((memC_cons x l _).2 (.inl ⟨by omega, by omega⟩))) with h1 | h1
      · omega
      · have := k2 h1; omega
    have exy : x = y := Prod.ext (by omega) (by omega)
    subst exy
    rw [hl.2.2.2.uniq hm.2.2.2 fun r => ?_]
    constructor
    · intro hr
      rcases (memC_cons x m _).1 ((h r).1 ((memC_cons x l _).2 (.inr hr))) with h1 | h1
      · have := k1 hr; omega
      · exact h1
    · intro hr
      rcases (memC_cons x l _).1 ((h r).2 ((memC_cons x m _).2 (.inr hr))) with h1 | h1
      · have := k2 hr; omega
      · exact h1

/-! ### Of: ranges by their beginnings, put together -/
/-- One range more, behind what is put together. -/
def ofStep (out : List Rg) (x : Rg) : List Rg :=
  match out.getLast? with
  | none => [x]
  | some c => if x.1 ≤ c.2 + 1 then out.dropLast ++ [(c.1, max c.2 x.2)] else out ++ [x]
theorem canon_snoc : ∀ {l : List Rg} {b : Int} {c : Rg}, Canon b (l ++ [c]) ↔ Canon b l ∧ (∀ x ∈ l, x.2 + 2 ≤ c.1) ∧ b ≤ c.1 ∧ c.1 ≤ c.2 ∧ c.2 ≤ most
  | [], b, c => by simp [Canon]
  | y :: l, b, c => by
    rw [List.cons_append, Canon, Canon, canon_snoc (l := l)]
    constructor
    · rintro ⟨h1, h2, h3, h4, h5, h6, h7, h8⟩
      refine ⟨⟨h1, h2, h3, h4⟩, fun x hx => ?_, by omega, h7, h8⟩
      rcases List.mem_cons.1 hx with rfl | hx
      · exact h6
      · exact h5 x hx
    · rintro ⟨⟨h1, h2, h3, h4⟩, h5, h6, h7, h8⟩
      exact ⟨h1, h2, h3, h4, fun x hx => h5 x (List.mem_cons_of_mem _ hx), h5 y List.mem_cons_self, h7, h8⟩
theorem ofStep_nil (x : Rg) : ofStep [] x = [x] := rfl
theorem ofStep_snoc (l : List Rg) (c x : Rg) : ofStep (l ++ [c]) x = if x.1 ≤ c.2 + 1 then l ++ [(c.1, max c.2 x.2)] else l ++ [c] ++ [x] := by
  unfold ofStep
  rw [List.getLast?_concat]
  simp only [List.dropLast_concat]
/-- What is put together of the first of ranges that rise by their beginnings. -/
theorem ofStep_ok {out : List Rg} {x : Rg} (h : Canon 0 out) (hx : 0 ≤ x.1 ∧ x.1 ≤ x.2 ∧ x.2 ≤ most) (hs : ∀ c, out.getLast? = some c → c.1 ≤ x.1) :
    Canon 0 (ofStep out x) ∧ (∀ r, memC (ofStep out x) r ↔ memC out r ∨ (x.1 ≤ r ∧ r ≤ x.2)) ∧ (∀ c, (ofStep out x).getLast? = some c → c.1 ≤ x.1) := by
  rcases List.eq_nil_or_concat out with rfl | ⟨l, c, rfl⟩
  · rw [ofStep_nil]
    refine ⟨⟨hx.1, hx.2.1, hx.2.2, trivial⟩, fun r => ?_, fun c hc => ?_⟩
    · rw [memC_cons, memC_nil]; simp
    · simp at hc; subst hc; exact Int.le_refl _
  · rw [List.concat_eq_append] at h hs ⊢
    have hcx := hs c (by rw [List.getLast?_concat])
    obtain ⟨c1, c2, c3, c4, c5⟩ := canon_snoc.1 h
    rw [ofStep_snoc]
    by_cases ht : x.1 ≤ c.2 + 1
    · rw [if_pos ht]
      refine ⟨canon_snoc.2 ⟨c1, c2, c3, ?_, ?_⟩, fun r => ?_, fun c' hc' => ?_⟩
      · show c.1 ≤ max c.2 x.2; omega
      · show max c.2 x.2 ≤ most; omega
      · rw [memC_app, memC_app, memC_cons, memC_cons, memC_nil]
        show _ ∨ (c.1 ≤ r ∧ r ≤ max c.2 x.2) ∨ False ↔ _
        constructor
        · rintro (h1 | h1 | h1)
          · exact .inl (.inl h1)
          · by_cases h2 : r ≤ c.2
            · exact .inl (.inr (.inl ⟨h1.1, h2⟩))
            · exact .inr ⟨by omega, by omega⟩
          · exact h1.elim
        · rintro ((h1 | h1 | h1) | h1)
          · exact .inl h1
          · exact .inr (.inl ⟨h1.1, by omega⟩)
          · exact h1.elim
          · exact .inr (.inl ⟨by omega, by omega⟩)
      · rw [List.getLast?_concat] at hc'
        obtain rfl := Option.some.inj hc'
        exact hcx
    · rw [if_neg ht]
      refine ⟨canon_snoc.2 ⟨h, fun y hy => ?_, hx.1, hx.2.1, hx.2.2⟩, fun r => ?_, fun c' hc' => ?_⟩
      · rcases List.mem_append.1 hy with hy | hy
        · have := c2 y hy
          omega
        · simp at hy; subst hy; omega
      · rw [memC_app (l ++ [c]), memC_cons, memC_nil, or_false]
      · rw [List.getLast?_concat] at hc'
        obtain rfl := Option.some.inj hc'
        exact Int.le_refl _
/-- Ranges by their beginnings. -/
def Rising : List Rg → Prop
  | [] => True
  | x :: l => (∀ y ∈ l, x.1 ≤ y.1) ∧ Rising l
theorem of_ok : ∀ (l : List Rg) (out : List Rg), Canon 0 out → Rising l → (∀ x ∈ l, 0 ≤ x.1 ∧ x.1 ≤ x.2 ∧ x.2 ≤ most) → (∀ c, out.getLast? = some c → ∀ x ∈ l, c.1 ≤ x.1) →
    Canon 0 (l.foldl ofStep out) ∧ ∀ r, memC (l.foldl ofStep out) r ↔ memC out r ∨ memC l r
  | [], out, h, _, _, _ => ⟨h, fun r => by rw [List.foldl_nil, memC_nil, or_false]⟩
  | x :: l, out, h, hr, hv, hs => by
    obtain ⟨h1, h2, h3⟩ := ofStep_ok h (hv x List.mem_cons_self) (fun c hc => hs c hc x List.mem_cons_self)
    obtain ⟨k1, k2⟩ := of_ok l (ofStep out x) h1 hr.2 (fun y hy => hv y (List.mem_cons_of_mem _ hy)) (fun c hc y hy => Int.le_trans (h3 c hc) (hr.1 y hy))
    refine ⟨k1, fun r => ?_⟩
    rw [List.foldl_cons, k2, h2, memC_cons, or_assoc]

/-! ### And, Not -/
def andGo : List Rg → List Rg → List Rg
  | [], _ => []
  | _ :: _, [] => []
  | x :: a, y :: b => (if max x.1 y.1 ≤ min x.2 y.2 then [(max x.1 y.1, min x.2 y.2)] else []) ++ (if x.2 < y.2 then andGo a (y :: b) else andGo (x :: a) b)
termination_by a b => a.length + b.length
theorem and_ok : ∀ (a b : List Rg) {p q : Int}, Canon p a → Canon q b → Canon (max p q) (andGo a b) ∧ ∀ r, memC (andGo a b) r ↔ memC a r ∧ memC b r
  | [], b, p, q, _, _ => by rw [andGo]; exact ⟨trivial, fun r => by simp [memC_nil]⟩
  | x :: a, [], p, q, _, _ => by rw [andGo]; exact ⟨trivial, fun r => by simp [memC_nil]⟩
  | x :: a, y :: b, p, q, ha, hb => by
    have hx := ha.2.1
    have hy := hb.2.1
    have hpx := ha.1
    have hqy := hb.1
    have hxm := ha.2.2.1
    have key : ∀ (z : List Rg), (Canon (min x.2 y.2 + 2) z ∧ Canon (max p q) z ∧ ∀ r, memC z r ↔ (memC (x :: a) r ∧ memC (y :: b) r ∧ min x.2 y.2 < r)) →
        Canon (max p q) ((if max x.1 y.1 ≤ min x.2 y.2 then [(max x.1 y.1, min x.2 y.2)] else []) ++ z) ∧ ∀ r, memC ((if max x.1 y.1 ≤ min x.2 y.2 then [(max x.1 y.1, min x.2 y.2)] else []) ++ z) r ↔ memC (x :: a) r ∧ memC (y :: b) r := by
      intro z ⟨hz1, hz3, hz2⟩
      have k1 : ∀ {r}, memC a r → x.2 + 2 ≤ r := fun hr => (ha.2.2.2.mem_in hr).1
      have k2 : ∀ {r}, memC b r → y.2 + 2 ≤ r := fun hr => (hb.2.2.2.mem_in hr).1
      have low : ∀ r, (memC (x :: a) r ∧ memC (y :: b) r) ∧ r ≤ min x.2 y.2 ↔ max x.1 y.1 ≤ r ∧ r ≤ min x.2 y.2 := fun r => by
        rw [memC_cons, memC_cons]
        constructor
        · rintro ⟨⟨h1, h2⟩, h3⟩
          have e1 : x.1 ≤ r := by
            rcases h1 with h1 | h1
            · exact h1.1
            · have := k1 h1; omega
          have e2 : y.1 ≤ r := by
            rcases h2 with h2 | h2
            · exact h2.1
            · have := k2 h2; omega
          exact ⟨by omega, h3⟩
        · rintro ⟨h1, h2⟩
          exact ⟨⟨.inl ⟨by omega, by omega⟩, .inl ⟨by omega, by omega⟩⟩, h2⟩
      by_cases hc : max x.1 y.1 ≤ min x.2 y.2
      · rw [if_pos hc]
        refine ⟨⟨?_, hc, ?_, hz1⟩, fun r => ?_⟩
        · show max p q ≤ max x.1 y.1; omega
        · show min x.2 y.2 ≤ most; omega
        · rw [List.singleton_append, memC_cons, hz2]
          have := low r
          constructor
          · rintro (h1 | h1)
            · exact (this.2 h1).1
            · exact ⟨h1.1, h1.2.1⟩
          · rintro h1
            by_cases h2 : r ≤ min x.2 y.2
            · exact .inl (this.1 ⟨h1, h2⟩)
            · exact .inr ⟨h1.1, h1.2, by omega⟩
      · rw [if_neg hc, List.nil_append]
        refine ⟨?_, fun r => ?_⟩
        · exact hz3
        · rw [hz2]
          have := low r
          constructor
          · rintro h1; exact ⟨h1.1, h1.2.1⟩
          · rintro h1
            refine ⟨h1.1, h1.2, ?_⟩
            apply Int.not_le.1
            intro h2
            have := this.1 ⟨h1, h2⟩
            omega
    rw [andGo]
    by_cases hc : x.2 < y.2
    · rw [if_pos hc]
      obtain ⟨h1, h2⟩ := and_ok a (y :: b) ha.2.2.2 hb
      refine key _ ⟨h1.mono (by omega), h1.mono (by omega), fun r => ?_⟩
      rw [h2, memC_cons x]
      constructor
      · rintro ⟨e1, e2⟩
        have := (ha.2.2.2.mem_in e1).1
        exact ⟨.inr e1, e2, by omega⟩
      · rintro ⟨e1 | e1, e2, e3⟩
        · omega
        · exact ⟨e1, e2⟩
    · rw [if_neg hc]
      obtain ⟨h1, h2⟩ := and_ok (x :: a) b ha hb.2.2.2
      refine key _ ⟨h1.mono (by omega), h1.mono (by omega), fun r => ?_⟩
      rw [h2, memC_cons y]
      constructor
      · rintro ⟨e1, e2⟩
        have := (hb.2.2.2.mem_in e2).1
        exact ⟨e1, .inr e2, by omega⟩
      · rintro ⟨e1, e2 | e2, e3⟩
        · omega
        · exact ⟨e1, e2⟩
termination_by a b => a.length + b.length

/-- What ranges from n on have not. -/
def notGo : Int → List Rg → List Rg
  | n, [] => if n ≤ most then [(n, most)] else []
  | n, x :: l => (if n < x.1 then [(n, x.1 - 1)] else []) ++ notGo (x.2 + 1) l
theorem not_ok : ∀ (l : List Rg) (n : Int), Canon n l → Canon n (notGo n l) ∧ ∀ r, memC (notGo n l) r ↔ n ≤ r ∧ r ≤ most ∧ ¬ memC l r
  | [], n, _ => by
    rw [notGo]
    by_cases h : n ≤ most
    · rw [if_pos h]
      exact ⟨⟨Int.le_refl _, h, Int.le_refl _, trivial⟩, fun r => by simp [memC_cons, memC_nil]⟩
    · rw [if_neg h]
      exact ⟨trivial, fun r => by simp [memC_nil]; omega⟩
  | x :: l, n, hc => by
    have h1 := hc.1
    have h2 := hc.2.1
    have h3 := hc.2.2.1
    have k1 : ∀ {r}, memC l r → x.2 + 2 ≤ r := fun hr => (hc.2.2.2.mem_in hr).1
    obtain ⟨e1, e2⟩ := not_ok l (x.2 + 1) (hc.2.2.2.mono (by omega))
    rw [notGo]
    have fin : ∀ r, ((n ≤ r ∧ r ≤ x.1 - 1) ∨ (x.2 + 1 ≤ r ∧ r ≤ most ∧ ¬ memC l r)) ↔ (n ≤ r ∧ r ≤ most ∧ ¬ memC (x :: l) r) := fun r => by
      rw [memC_cons]
      constructor
      · rintro (a | a)
        · refine ⟨a.1, by omega, fun h => ?_⟩
          rcases h with h | h
          · omega
          · have := k1 h; omega
        · refine ⟨by omega, a.2.1, fun h => ?_⟩
          rcases h with h | h
          · omega
          · exact a.2.2 h
      · rintro ⟨a1, a2, a3⟩
        by_cases h : r < x.1
        · exact .inl ⟨a1, by omega⟩
        · refine .inr ⟨?_, a2, fun hm => a3 (.inr hm)⟩
          apply Int.not_lt.1
          intro hlt
          exact a3 (.inl ⟨by omega, by omega⟩)
    by_cases h : n < x.1
    · rw [if_pos h]
      refine ⟨⟨Int.le_refl _, by show n ≤ x.1 - 1; omega, by show x.1 - 1 ≤ most; omega, e1.mono (by show x.1 - 1 + 2 ≤ x.2 + 1; omega)⟩, fun r => ?_⟩
      rw [List.singleton_append, memC_cons, e2]
      exact fin r
    · rw [if_neg h, List.nil_append]
      refine ⟨e1.mono (by omega), fun r => ?_⟩
      rw [e2, ← fin r]
      constructor
      · exact .inr
      · rintro (a | a)
        · omega
        · exact a

/-! ### Count -/
def countC : List Rg → Int
  | [] => 0
  | x :: l => (x.2 - x.1 + 1) + countC l
/-- How many of the first n numbers. -/
def card (p : Nat → Bool) : Nat → Nat
  | 0 => 0
  | n + 1 => card p n + if p n then 1 else 0
theorem card_or (p q : Nat → Bool) (n : Nat) : card (fun i => p i || q i) n + card (fun i => p i && q i) n = card p n + card q n := by
  induction n with
  | zero => rfl
  | succ n ih =>
    rw [card, card, card, card]
    cases p n <;> cases q n <;> simp <;> omega
theorem card_same {p q : Nat → Bool} {n : Nat} (h : ∀ i, i < n → p i = q i) : card p n = card q n := by
  induction n with
  | zero => rfl
  | succ n ih => rw [card, card, ih (fun i hi => h i (by omega)), h n (by omega)]
theorem card_range (lo hi : Int) (hl : 0 ≤ lo) (h : lo ≤ hi + 1) : ∀ n : Nat, (card (fun i => decide (lo ≤ (i : Int) ∧ (i : Int) ≤ hi)) n : Int) = if (n : Int) ≤ lo then 0 else if (n : Int) ≤ hi then (n : Int) - lo else hi + 1 - lo := by
  intro n
  induction n with
  | zero => rw [card, if_pos (by omega)]; rfl
  | succ n ih =>
    rw [card]
    by_cases h1 : lo ≤ (n : Int) ∧ (n : Int) ≤ hi
    · rw [decide_eq_true h1, if_pos rfl]
      push_cast
      rw [ih]
      repeat' split
      all_goals omega
    · rw [decide_eq_false h1, if_neg (by decide)]
      push_cast
      rw [ih]
      repeat' split
      all_goals omega
instance (l : List Rg) (r : Int) : Decidable (memC l r) := by unfold memC; infer_instance
def memB (l : List Rg) (i : Nat) : Bool := decide (memC l (i : Int))
theorem count_card : ∀ (l : List Rg) (b : Int), Canon b l → 0 ≤ b → countC l = card (memB l) 1114112
  | [], _, _, _ => by
    have : card (memB []) 1114112 = 0 := by
      have h : ∀ n, card (memB []) n = 0 := fun n => by
        induction n with
        | zero => rfl
        | succ n ih => rw [card, ih]; simp [memB, memC_nil]
      exact h _
    rw [this]; rfl
  | x :: l, b, hc, hb => by
    have h1 := hc.1
    have h2 := hc.2.1
    have h3 := hc.2.2.1
    have ih := count_card l (x.2 + 2) hc.2.2.2 (by omega)
    have k1 : ∀ {r}, memC l r → x.2 + 2 ≤ r := fun hr => (hc.2.2.2.mem_in hr).1
    have hd := card_or (fun i : Nat => decide (x.1 ≤ (i : Int) ∧ (i : Int) ≤ x.2)) (memB l) 1114112
    have hz : card (fun i : Nat => decide (x.1 ≤ (i : Int) ∧ (i : Int) ≤ x.2) && memB l i) 1114112 = 0 := by
      have h : ∀ n, card (fun i : Nat => decide (x.1 ≤ (i : Int) ∧ (i : Int) ≤ x.2) && memB l i) n = 0 := fun n => by
        induction n with
        | zero => rfl
        | succ n ih =>
          rw [card, ih]
          by_cases hm : memC l (n : Int)
          · have := k1 hm
            rw [decide_eq_false (by omega)]; rfl
          · unfold memB
            rw [decide_eq_false hm, Bool.and_false]; rfl
      exact h _
    have he : card (memB (x :: l)) 1114112 = card (fun i : Nat => decide (x.1 ≤ (i : Int) ∧ (i : Int) ≤ x.2) || memB l i) 1114112 := by
      apply card_same
      intro i _
      unfold memB
      rw [← Bool.decide_or]
      exact decide_eq_decide.2 (memC_cons x l i)
    have hr := card_range x.1 x.2 (by omega) (by omega) 1114112
    unfold most at h3
    rw [if_neg (by omega), if_neg (by omega)] at hr
    rw [countC, ih, he]
    omega

end Go.Proofs.Chars
