/- Rows that grow by one each, in a region that draws its order (law CharsSets): the law, and the region. -/
import Derived.Test.YtfjlhfalnciamaaDoorSetsR
namespace Go.Proofs.YtfjlhfalnciamaaDoor.Chars
open Go Go.RowKit Go.Proofs.Chars

/-- What is known behind the region. -/
structure Grown (n : Nat) (T : Nat → Thr) (a0 : Act) (w0 : World) (pl N : Nat) (xs : Nat → List Bool) (q : Nat → Bool) (a : Act) (w : World) (cur : Nat → Value) : Prop where
  size : a.tmps.size = N
  defers : a.defers = a0.defers
  other : ∀ t, (∀ k, k < n → t ≠ (T k).tR ∧ t ≠ (T k).tB ∧ t ≠ (T k).tA) → a.tmps[t]? = a0.tmps[t]?
  below : Below pl w0 w
  row : ∀ k, k < n → w.ownsRow (pl + 1) 4 1 (cur k) (xs k ++ [q k]).length ((xs k ++ [q k]).map fun b => .bool b)
  apart : ∀ j k, j < n → k < n → j ≠ k → ∀ b, (cur j).ownBlock = some b → (cur k).ownBlock ≠ some b
  cell : ∀ k, k < n → w.cell? ⟨pl, k, none⟩ = some (cur k) ∧ w.frozen? ⟨pl, k, none⟩ = false
  lt : pl < w.heap.size
/-- What is asked ahead of the region. -/
structure Rows5 (n : Nat) (w0 : World) (pl : Nat) (v : Nat → Value) (xs : Nat → List Bool) : Prop where
  lt : pl < w0.heap.size
  row : ∀ k, k < n → w0.ownsRow (pl + 1) 4 1 (v k) (xs k).length ((xs k).map fun b => .bool b)
  apart : ∀ j k, j < n → k < n → j ≠ k → ∀ b, (v j).ownBlock = some b → (v k).ownBlock ≠ some b
  cell : ∀ k, k < n → w0.cell? ⟨pl, k, none⟩ = some (v k) ∧ w0.frozen? ⟨pl, k, none⟩ = false

theorem own_slice {w : World} {base : Nat} {e : TypeId} {size n : Nat} {v : Value} {xs : List Value} (h : w.ownsRow base e size v n xs) : ∃ B n c, v = .slice B n c := by
  rcases h.2 with ⟨h, _⟩ | ⟨g, cap, cur, h, _⟩ <;> exact ⟨_, _, _, h⟩

/-- No operation of the rows. -/
def Pure (n : Nat) (T : Nat → Thr) (i : Nat) : Prop := ∀ k, k < n → i ≠ (T k).L ∧ i ≠ (T k).B ∧ i ≠ (T k).A ∧ i ≠ (T k).S
/-- Where an operation finds what stands in a slot: written by one that it waits for, or there ahead of the region. -/
def Src (ops : Array Oper) (n : Nat) (T : Nat → Thr) (V : Nat → Value) (a0 : Act) (o : Oper) (t : Nat) (v : Value) : Prop :=
  (∀ k, k < n → t ≠ (T k).tR ∧ t ≠ (T k).tB ∧ t ≠ (T k).tA) ∧ ((∃ j oj, ops[j]? = some oj ∧ Pure n T j ∧ hasEdge o j ∧ oj.dst = some t ∧ V t = v) ∨ ((∀ j oj, ops[j]? = some oj → Pure n T j → oj.dst ≠ some t) ∧ a0.tmps[t]? = some v))
/-- The slots of those that touch no memory. -/
structure PV (ops : Array Oper) (n : Nat) (T : Nat → Thr) (N : Nat) (V : Nat → Value) (a0 : Act) (D : Nat → Bool) (b : Act) : Prop where
  size : b.tmps.size = N
  defers : b.defers = a0.defers
  vals : ∀ j o t, ops[j]? = some o → Pure n T j → D j = true → o.dst = some t → b.tmps[t]? = some (V t)
  rest : ∀ t, (∀ j o, ops[j]? = some o → Pure n T j → o.dst ≠ some t) → b.tmps[t]? = a0.tmps[t]?
section
variable {ops : Array Oper} {n N : Nat} {T : Nat → Thr} {V : Nat → Value} {a0 b : Act} {D : Nat → Bool}
theorem PV.src (h : PV ops n T N V a0 D b) {o : Oper} {t : Nat} {v : Value} (hs : Src ops n T V a0 o t v) (hD : ∀ j, hasEdge o j → D j = true) : b.tmps[t]? = some v := by
  rcases hs.2 with ⟨j, oj, h1, h2, h3, h4, h5⟩ | ⟨h1, h2⟩
  · rw [← h5]; exact h.vals j oj t h1 h2 (hD j h3) h4
  · rw [h.rest t h1]; exact h2
theorem PV.thr (h : PV ops n T N V a0 D b) {i : Nat} (hi : ¬ Pure n T i) : PV ops n T N V a0 (Ex.with' D i) b :=
  ⟨h.size, h.defers, fun j o t h1 h2 h3 h4 => h.vals j o t h1 h2 (by rw [with_ne (k := j) (i := i) (fun e => by subst e; exact hi h2)] at h3; exact h3) h4, h.rest⟩
theorem PV.pure (h : PV ops n T N V a0 D b) {i d : Nat} {o : Oper} (hi : ops[i]? = some o) (hp : Pure n T i) (hd : o.dst = some d) (hN : d < N) : PV ops n T N V a0 (Ex.with' D i) (b.put (some d) (V d)) := by
  refine ⟨put_size.trans h.size, h.defers, fun j oj t h1 h2 h3 h4 => ?_, fun t ht => ?_⟩
  · by_cases e : t = d
    · subst e; exact put_eq (by rw [h.size]; exact hN)
    · rw [put_ne e]
      by_cases e2 : j = i
      · subst e2
        rw [hi] at h1
        cases h1
        rw [hd] at h4
        cases h4
        exact absurd rfl e
      · rw [with_ne e2] at h3
        exact h.vals j oj t h1 h2 h3 h4
  · rw [put_ne (fun e => ht i o hi hp (by rw [hd, e]))]
    exact h.rest t ht
end
/-- One that touches no memory has come. -/
theorem Gr.pure {n : Nat} {T : Nat → Thr} {b : Act} {w0 : World} {pl N : Nat} {v : Nat → Value} {xs : Nat → List Bool} {q : Nat → Bool} {D : Nat → Bool} {a : Act} {w : World} {cur : Nat → Value} {g : Nat → Nat} (h : Gr n T b w0 pl N v xs q D a w cur g) {i d : Nat} (hp : Pure n T i)
    (hd : ∀ k, k < n → d ≠ (T k).tR ∧ d ≠ (T k).tB ∧ d ≠ (T k).tA) (hN : d < N) (hb : b.tmps.size = N) (x : Value) : Gr n T (b.put (some d) x) w0 pl N v xs q (Ex.with' D i) (a.put (some d) x) w cur g := by
  have hL : ∀ j, j < n → Ex.with' D i (T j).L = D (T j).L := fun j hj => with_ne ((hp j hj).1.symm)
  have hB : ∀ j, j < n → Ex.with' D i (T j).B = D (T j).B := fun j hj => with_ne ((hp j hj).2.1.symm)
  have hA : ∀ j, j < n → Ex.with' D i (T j).A = D (T j).A := fun j hj => with_ne ((hp j hj).2.2.1.symm)
  have hS : ∀ j, j < n → Ex.with' D i (T j).S = D (T j).S := fun j hj => with_ne ((hp j hj).2.2.2.symm)
  refine ⟨put_size.trans h.size, h.defers, fun t ht => ?_, h.below, h.lt, fun j hj e => ?_, fun j hj e => ?_, fun j hj e => ?_, fun j hj e => ?_, fun j hj e => ?_, fun j hj => ?_, h.apart, fun j hj => ?_, fun j hj e1 e2 => ?_⟩
  · by_cases e : t = d
    · subst e
      rw [put_eq (by rw [h.size]; exact hN), put_eq (by rw [hb]; exact hN)]
    · rw [put_ne e, put_ne e]; exact h.other t ht
  · rw [hL j hj] at e
    rw [put_ne (hd j hj).1.symm]; exact h.loaded j hj e
  · rw [hA j hj] at e
    rw [hL j hj]; exact h.al j hj e
  · rw [hS j hj] at e
    rw [hA j hj]; exact h.sa j hj e
  · rw [hA j hj] at e; exact h.cur0 j hj e
  · rw [hA j hj] at e
    rw [put_ne (hd j hj).2.2.symm]; exact h.cur1 j hj e
  · rw [hA j hj]; exact h.row j hj
  · rw [hS j hj]; exact h.cell j hj
  · rw [hB j hj] at e1
    rw [hA j hj] at e2
    rw [put_ne (hd j hj).2.1.symm]; exact h.built j hj e1 e2

theorem growRows_any {ops : Array Oper} {n N : Nat} {T : Nat → Thr} (O : Ops ops n T) (hN : ∀ k, k < n → (T k).tR < N ∧ (T k).tB < N ∧ (T k).tA < N) {a0 : Act} {w0 : World} {pl : Nat} {v : Nat → Value} {xs : Nat → List Bool} {q : Nat → Bool} {V : Nat → Value} {Q : Exit → Act → World → Prop}
    (hsz : a0.tmps.size = N)
    (hL : ∀ k, k < n → ∀ o, ops[(T k).L]? = some o → Src ops n T V a0 o (T k).tL (.pointer (some ⟨pl, k, none⟩)))
    (hS : ∀ k, k < n → ∀ o, ops[(T k).S]? = some o → Src ops n T V a0 o (T k).tP (.pointer (some ⟨pl, k, none⟩)))
    (hB : ∀ k, k < n → ∀ o, ops[(T k).B]? = some o → Src ops n T V a0 o (T k).tQ (.bool (q k)))
    (hP : ∀ i, i < ops.size → Pure n T i → ∃ o d, ops[i]? = some o ∧ o.dst = some d ∧ d < N ∧ (∀ k, k < n → d ≠ (T k).tR ∧ d ≠ (T k).tB ∧ d ≠ (T k).tA) ∧ ∀ (a : Act) (w : World) (K : Act → World → Prop), (∀ t v, Src ops n T V a0 o t v → a.tmps[t]? = some v) → K (a.put (some d) (V d)) w → wpOp Tryd.prog ops Q i K a w)
    (hr : Rows5 n w0 pl v xs) (hlen : ∀ k, k < n → (xs k).length ≤ 100000)
    (hQ : ∀ b a w cur, PV ops n T N V a0 (fun _ => true) b → Grown n T b w0 pl N xs q a w cur → Q .normal a w) :
    wpAny Tryd.prog .any ops Q ops.size (Array.replicate ops.size false) a0 w0 := by
  have h0 : Ex.Dof (Array.replicate ops.size false) = fun _ => false := by
    funext i
    unfold Ex.Dof
    simp only [Array.getD_eq_getD_getElem?, Array.getElem?_replicate]
    split <;> rfl
  have hcnt : ∀ k, Ex.cnt (fun _ => false) k ≤ k := fun k => by
    induction k with
    | zero => exact Nat.le_refl _
    | succ k ih => simp only [Ex.cnt]; simp; omega
  refine wpAny_inv (fun D a w => ∃ b cur g, PV ops n T N V a0 D b ∧ Gr n T b w0 pl N v xs q D a w cur g) O.back ?_ ?_ ops.size _ a0 w0 (by simp) ?_ (by rw [h0]; exact hcnt _)
  · rintro D i o a w hi hni hpre ⟨b, cur, g, pv, h⟩
    have hin : i < ops.size := (Array.getElem?_eq_some_iff.1 hi).1
    have hedge : ∀ j, hasEdge o j → D j = true := fun j ⟨e, he, hb, hj⟩ => by rw [← hj]; exact hpre e he hb
    rcases O.all i hin with ⟨k, hk, hcase⟩ | hno
    case inr =>
      obtain ⟨o', d, h1, h2, h3, h4, h5⟩ := hP i hin hno
      rw [hi] at h1
      cases h1
      exact h5 a w _ (fun t v hs => (h.other t hs.1).trans (pv.src hs hedge)) ⟨_, cur, g, pv.pure hi hno h2 h3, h.pure hno h4 h3 pv.size _⟩
    have hnp : ∀ i, (i = (T k).L ∨ i = (T k).B ∨ i = (T k).A ∨ i = (T k).S) → ¬ Pure n T i := fun i hc hp => by
      obtain ⟨p1, p2, p3, p4⟩ := hp k hk
      rcases hc with e | e | e | e
      · exact p1 e
      · exact p2 e
      · exact p3 e
      · exact p4 e
    obtain ⟨n1, n2, n3⟩ := hN k hk
    rcases hcase with rfl | rfl | rfl | rfl
    · obtain ⟨o', ho, hop, hd, hg⟩ := O.l k hk
      rw [hi] at ho
      cases ho
      have hS : D (T k).S = false := by
        cases hs : D (T k).S with
        | false => rfl
        | true => rw [h.al k hk (h.sa k hk hs)] at hni; cases hni
      have ht : a.tmps[(T k).tL]? = some (.pointer (some ⟨pl, k, none⟩)) := (h.other _ fun j hj => ⟨(O.pr k j hk hj).lr, (O.pr k j hk hj).llb, (O.pr k j hk hj).lla⟩).trans (pv.src (hL k hk o hi) hedge)
      have hc := (h.cell k hk).1
      rw [hS] at hc
      refine step_load hi hg hop ht rfl (by simpa using hc) ⟨b, cur, g, pv.thr (hnp _ (.inl rfl)), ?_⟩
      rw [hd]
      exact h.load O hk n1
    · obtain ⟨o', ho, hop, hd, hg⟩ := O.b k hk
      rw [hi] at ho
      cases ho
      have ht : a.tmps[(T k).tQ]? = some (.bool (q k)) := (h.other _ fun j hj => ⟨(O.pr k j hk hj).qr, (O.pr k j hk hj).qb, (O.pr k j hk hj).qa⟩).trans (pv.src (hB k hk o hi) hedge)
      refine step_build hi hg hop ht ⟨b, cur, (fun j => if j = k then w.heap.size else g j), pv.thr (hnp _ (.inr (.inl rfl))), ?_⟩
      rw [hd]
      exact h.build O hk n2
    · obtain ⟨o', ho, hop, hd, hg, e1, e2⟩ := O.a k hk
      rw [hi] at ho
      cases ho
      have hdL := hedge _ e1
      have hdB := hedge _ e2
      obtain ⟨b1, b2, b3, b4, b5⟩ := h.built k hk hdB hni
      have hrow := h.row k hk
      rw [h.cur0 k hk hni, hni] at hrow
      refine step_app hi hg hop (h.loaded k hk hdL) b1 (by simpa [rowX] using hrow) (by rw [addr_off]; exact b2) (hlen k hk) (by have := h.lt; omega) fun v' w' r1 r2 r3 => ⟨b, (fun j => if j = k then v' else cur j), g, pv.thr (hnp _ (.inr (.inr (.inl rfl)))), ?_⟩
      rw [hd]
      exact h.app O hk n3 hni hdL r1 r2 r3
    · obtain ⟨o', ho, hop, hd, hg, e1⟩ := O.s k hk
      rw [hi] at ho
      cases ho
      have hdA := hedge _ e1
      have ht : a.tmps[(T k).tP]? = some (.pointer (some ⟨pl, k, none⟩)) := (h.other _ fun j hj => ⟨(O.pr k j hk hj).pr, (O.pr k j hk hj).pb, (O.pr k j hk hj).pa⟩).trans (pv.src (hS k hk o hi) hedge)
      obtain ⟨c1, c2⟩ := h.cell k hk
      exact step_store hi hg hop ht rfl (h.cur1 k hk hdA) (own_slice (h.row k hk)) c1 c2 hd ⟨b, cur, g, pv.thr (hnp _ (.inr (.inr (.inr rfl)))), h.store O hk hdA⟩
  · rintro D a w ⟨b, cur, g, pv, h⟩ hall
    have hA : ∀ k, k < n → D (T k).A = true := fun k hk => by
      obtain ⟨o, ho, _⟩ := O.a k hk
      exact hall _ (Array.getElem?_eq_some_iff.1 ho).1
    have hS : ∀ k, k < n → D (T k).S = true := fun k hk => by
      obtain ⟨o, ho, _⟩ := O.s k hk
      exact hall _ (Array.getElem?_eq_some_iff.1 ho).1
    refine hQ b a w cur ⟨pv.size, pv.defers, fun j o t h1 h2 _ h4 => pv.vals j o t h1 h2 (hall j (Array.getElem?_eq_some_iff.1 h1).1) h4, pv.rest⟩ ⟨h.size, h.defers, h.other, h.below, fun k hk => ?_, h.apart, fun k hk => ?_, h.lt⟩
    · have := h.row k hk
      rw [hA k hk] at this
      simpa only [rowX, if_true] using this
    · have := h.cell k hk
      rw [hS k hk] at this
      simpa using this
  · rw [h0]
    refine ⟨a0, v, fun _ => 0, ⟨hsz, rfl, fun j o t _ _ h => (by cases h), fun t _ => rfl⟩, hsz, rfl, fun t _ => rfl, Below.refl _ _, hr.lt, fun k hk hd => (by cases hd), fun k hk hd => (by cases hd), fun k hk hd => (by cases hd), fun k hk _ => rfl, fun k hk hd => (by cases hd), fun k hk => ?_, hr.apart, fun k hk => ?_, fun k hk hd _ => (by cases hd)⟩
    · exact hr.row k hk
    · exact hr.cell k hk

end Go.Proofs.YtfjlhfalnciamaaDoor.Chars
