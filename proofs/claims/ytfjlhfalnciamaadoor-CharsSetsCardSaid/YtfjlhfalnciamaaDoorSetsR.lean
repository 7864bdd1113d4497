/- Rows that grow by one each, in a region that draws its order (law CharsSets): the whole. -/
import Derived.Test.YtfjlhfalnciamaaDoorSetsQ
namespace Go.Proofs.YtfjlhfalnciamaaDoor.Chars
open Go Go.RowKit Go.Proofs.Chars

/-- One row: the numbers of its four operations, and their slots. -/
structure Thr where
  L : Nat
  B : Nat
  A : Nat
  S : Nat
  tL : Nat
  tR : Nat
  tQ : Nat
  tB : Nat
  tA : Nat
  tP : Nat
/-- Numbers of two rows are unlike. -/
structure Pr (x y : Thr) : Prop where
  lb : x.L ≠ y.B
  la : x.L ≠ y.A
  ls : x.L ≠ y.S
  ba : x.B ≠ y.A
  bs : x.B ≠ y.S
  aas : x.A ≠ y.S
  rb : x.tR ≠ y.tB
  ra : x.tR ≠ y.tA
  tba : x.tB ≠ y.tA
  pr : x.tP ≠ y.tR
  pb : x.tP ≠ y.tB
  pa : x.tP ≠ y.tA
  qr : x.tQ ≠ y.tR
  qb : x.tQ ≠ y.tB
  qa : x.tQ ≠ y.tA
  lr : x.tL ≠ y.tR
  llb : x.tL ≠ y.tB
  lla : x.tL ≠ y.tA
structure Un (x y : Thr) : Prop where
  l : x.L ≠ y.L
  b : x.B ≠ y.B
  a : x.A ≠ y.A
  s : x.S ≠ y.S
  r : x.tR ≠ y.tR
  tb : x.tB ≠ y.tB
  ta : x.tA ≠ y.tA

def hasEdge (o : Oper) (i : Nat) : Prop := ∃ e ∈ o.after.toList, Region.binds .any e = true ∧ e.on = i
/-- The operations of the rows, in a region. -/
structure Ops (ops : Array Oper) (n : Nat) (T : Nat → Thr) : Prop where
  l : ∀ k, k < n → ∃ o, ops[(T k).L]? = some o ∧ o.op = .load 28 (.tmp (T k).tL) ∧ o.dst = some (T k).tR ∧ o.guard = none
  b : ∀ k, k < n → ∃ o, ops[(T k).B]? = some o ∧ o.op = .buildSlice 28 1 #[(0, .tmp (T k).tQ)] ∧ o.dst = some (T k).tB ∧ o.guard = none
  a : ∀ k, k < n → ∃ o, ops[(T k).A]? = some o ∧ o.op = .call { callee := .builtin .append, args := #[.tmp (T k).tR, .tmp (T k).tB], argTypes := #[28, 28] } ∧ o.dst = some (T k).tA ∧ o.guard = none ∧ hasEdge o (T k).L ∧ hasEdge o (T k).B
  s : ∀ k, k < n → ∃ o, ops[(T k).S]? = some o ∧ o.op = .store 28 (.tmp (T k).tP) (.tmp (T k).tA) ∧ o.dst = none ∧ o.guard = none ∧ hasEdge o (T k).A
  pr : ∀ j k, j < n → k < n → Pr (T j) (T k)
  un : ∀ j k, j < n → k < n → j ≠ k → Un (T j) (T k)
  all : ∀ i, i < ops.size → (∃ k, k < n ∧ (i = (T k).L ∨ i = (T k).B ∨ i = (T k).A ∨ i = (T k).S)) ∨ ∀ k, k < n → i ≠ (T k).L ∧ i ≠ (T k).B ∧ i ≠ (T k).A ∧ i ≠ (T k).S
  back : ∀ i o, ops[i]? = some o → ∀ e ∈ o.after.toList, Region.binds .any e = true → e.on < i

/-- The row's elements, before and behind. -/
def rowX (xs : List Bool) (q : Bool) (d : Bool) : List Bool := if d = true then xs ++ [q] else xs
/-- What is so, when some operations have come. -/
structure Gr (n : Nat) (T : Nat → Thr) (a0 : Act) (w0 : World) (pl N : Nat) (v : Nat → Value) (xs : Nat → List Bool) (q : Nat → Bool) (D : Nat → Bool) (a : Act) (w : World) (cur : Nat → Value) (g : Nat → Nat) : Prop where
  size : a.tmps.size = N
  defers : a.defers = a0.defers
  other : ∀ t, (∀ k, k < n → t ≠ (T k).tR ∧ t ≠ (T k).tB ∧ t ≠ (T k).tA) → a.tmps[t]? = a0.tmps[t]?
  below : Below pl w0 w
  lt : pl < w.heap.size
  loaded : ∀ k, k < n → D (T k).L = true → a.tmps[(T k).tR]? = some (v k)
  al : ∀ k, k < n → D (T k).A = true → D (T k).L = true
  sa : ∀ k, k < n → D (T k).S = true → D (T k).A = true
  cur0 : ∀ k, k < n → D (T k).A = false → cur k = v k
  cur1 : ∀ k, k < n → D (T k).A = true → a.tmps[(T k).tA]? = some (cur k)
  row : ∀ k, k < n → w.ownsRow (pl + 1) 4 1 (cur k) (rowX (xs k) (q k) (D (T k).A)).length ((rowX (xs k) (q k) (D (T k).A)).map fun b => .bool b)
  apart : ∀ j k, j < n → k < n → j ≠ k → ∀ b, (cur j).ownBlock = some b → (cur k).ownBlock ≠ some b
  cell : ∀ k, k < n → w.cell? ⟨pl, k, none⟩ = some (if D (T k).S = true then cur k else v k) ∧ w.frozen? ⟨pl, k, none⟩ = false
  built : ∀ k, k < n → D (T k).B = true → D (T k).A = false → a.tmps[(T k).tB]? = some (.slice (some ⟨g k, 0, none⟩) 1 1) ∧ w.cell? ⟨g k, 0, none⟩ = some (.bool (q k)) ∧ pl < g k ∧ g k < w.heap.size ∧ ∀ j, j < n → (cur j).ownBlock ≠ some (g k)

theorem put_ne {a : Act} {d t : Nat} {u : Value} (h : t ≠ d) : (a.put (some d) u).tmps[t]? = a.tmps[t]? := by
  simp only [Act.put]
  rw [Array.getElem?_setIfInBounds_ne (fun e => h e.symm)]
theorem put_eq {a : Act} {d : Nat} {u : Value} (h : d < a.tmps.size) : (a.put (some d) u).tmps[d]? = some u := by
  simp [Act.put, h]
theorem put_size {a : Act} {d : Option Nat} {u : Value} : (a.put d u).tmps.size = a.tmps.size := by
  cases d <;> simp [Act.put]
theorem with_ne {D : Nat → Bool} {i k : Nat} (h : k ≠ i) : Ex.with' D i k = D k := by
  have : (k == i) = false := by simpa using h
  simp [Ex.with', this]
theorem with_eq {D : Nat → Bool} {i : Nat} : Ex.with' D i i = true := by simp [Ex.with']

section
variable {ops : Array Oper} {n : Nat} {T : Nat → Thr} {a0 : Act} {w0 : World} {pl N : Nat} {v : Nat → Value} {xs : Nat → List Bool} {q : Nat → Bool} {D : Nat → Bool} {a : Act} {w : World} {cur : Nat → Value} {g : Nat → Nat}
/-- A row is loaded. -/
theorem Gr.load (h : Gr n T a0 w0 pl N v xs q D a w cur g) (O : Ops ops n T) {k : Nat} (hk : k < n) (hN : (T k).tR < N) : Gr n T a0 w0 pl N v xs q (Ex.with' D (T k).L) (a.put (some (T k).tR) (v k)) w cur g := by
  have hA : ∀ j, j < n → Ex.with' D (T k).L (T j).A = D (T j).A := fun j hj => with_ne ((O.pr k j hk hj).la.symm)
  have hS : ∀ j, j < n → Ex.with' D (T k).L (T j).S = D (T j).S := fun j hj => with_ne ((O.pr k j hk hj).ls.symm)
  have hB : ∀ j, j < n → Ex.with' D (T k).L (T j).B = D (T j).B := fun j hj => with_ne ((O.pr k j hk hj).lb.symm)
  refine ⟨put_size.trans h.size, h.defers, fun t ht => ?_, h.below, h.lt, fun j hj hd => ?_, fun j hj hd => ?_, fun j hj hd => ?_, fun j hj hd => ?_, fun j hj hd => ?_, fun j hj => ?_, h.apart, fun j hj => ?_, fun j hj hb ha => ?_⟩
  · rw [put_ne (ht k hk).1]; exact h.other t ht
  · by_cases e : j = k
    · subst e; exact put_eq (by rw [h.size]; exact hN)
    · rw [put_ne (O.un j k hj hk e).r]
      rw [with_ne (O.un j k hj hk e).l] at hd
      exact h.loaded j hj hd
  · rw [hA j hj] at hd
    unfold Ex.with'
    rw [h.al j hj hd]; rfl
  · rw [hS j hj] at hd
    rw [hA j hj]; exact h.sa j hj hd
  · rw [hA j hj] at hd; exact h.cur0 j hj hd
  · rw [hA j hj] at hd
    rw [put_ne (O.pr k j hk hj).ra.symm]
    exact h.cur1 j hj hd
  · rw [hA j hj]; exact h.row j hj
  · rw [hS j hj]; exact h.cell j hj
  · rw [hB j hj] at hb
    rw [hA j hj] at ha
    rw [put_ne (O.pr k j hk hj).rb.symm]
    exact h.built j hj hb ha
/-- An element is laid. -/
theorem Gr.build (h : Gr n T a0 w0 pl N v xs q D a w cur g) (O : Ops ops n T) {k : Nat} (hk : k < n) (hN : (T k).tB < N) : Gr n T a0 w0 pl N v xs q (Ex.with' D (T k).B) (a.put (some (T k).tB) (.slice (some ⟨w.heap.size, 0, none⟩) 1 1)) (w.alloc (.cells #[.bool (q k)] 4)) cur (fun j => if j = k then w.heap.size else g j) := by
  have hA : ∀ j, j < n → Ex.with' D (T k).B (T j).A = D (T j).A := fun j hj => with_ne ((O.pr k j hk hj).ba.symm)
  have hS : ∀ j, j < n → Ex.with' D (T k).B (T j).S = D (T j).S := fun j hj => with_ne ((O.pr k j hk hj).bs.symm)
  have hL : ∀ j, j < n → Ex.with' D (T k).B (T j).L = D (T j).L := fun j hj => with_ne ((O.pr j k hj hk).lb)
  have hlt := h.lt
  have hsz : (w.alloc (.cells #[.bool (q k)] 4)).heap.size = w.heap.size + 1 := by simp
  have hold : ∀ (p : Addr), p.block < w.heap.size → (w.alloc (.cells #[.bool (q k)] 4)).heap[p.block]? = w.heap[p.block]? := fun p hp => Below.heap_alloc _ _ _ hp
  refine ⟨put_size.trans h.size, h.defers, fun t ht => ?_, h.below.alloc (Nat.le_of_lt hlt) _, by rw [hsz]; omega, fun j hj hd => ?_, fun j hj hd => ?_, fun j hj hd => ?_, fun j hj hd => ?_, fun j hj hd => ?_, fun j hj => ?_, h.apart, fun j hj => ?_, fun j hj hb ha => ?_⟩
  · rw [put_ne (ht k hk).2.1]; exact h.other t ht
  · rw [hL j hj] at hd
    rw [put_ne (O.pr j k hj hk).rb]; exact h.loaded j hj hd
  · rw [hA j hj] at hd
    rw [hL j hj]; exact h.al j hj hd
  · rw [hS j hj] at hd
    rw [hA j hj]; exact h.sa j hj hd
  · rw [hA j hj] at hd; exact h.cur0 j hj hd
  · rw [hA j hj] at hd
    rw [put_ne (O.pr k j hk hj).tba.symm]
    exact h.cur1 j hj hd
  · rw [hA j hj]; exact (h.row j hj).alloc _
  · rw [hS j hj]
    exact ⟨(World.cell?_of_block (hold ⟨pl, j, none⟩ hlt)).trans (h.cell j hj).1, (World.frozen?_of_block (hold ⟨pl, j, none⟩ hlt)).trans (h.cell j hj).2⟩
  · rw [hA j hj] at ha
    by_cases e : j = k
    · subst e
      simp only [if_true]
      refine ⟨put_eq (by rw [h.size]; exact hN), cell_of_one (heap_alloc_new _ _), hlt, by rw [hsz]; omega, fun i hi e => ?_⟩
      have := ((h.row i hi).lt _ e).2
      omega
    · rw [with_ne (O.un j k hj hk e).b] at hb
      simp only [if_neg e]
      obtain ⟨b1, b2, b3, b4, b5⟩ := h.built j hj hb ha
      refine ⟨?_, (World.cell?_of_block (hold ⟨g j, 0, none⟩ b4)).trans b2, b3, by rw [hsz]; omega, b5⟩
      rw [put_ne (O.un j k hj hk e).tb]; exact b1
/-- An element is appended. -/
theorem Gr.app (h : Gr n T a0 w0 pl N v xs q D a w cur g) (O : Ops ops n T) {k : Nat} (hk : k < n) (hN : (T k).tA < N) (hd0 : D (T k).A = false) (hdL : D (T k).L = true) {v' : Value} {w' : World}
    (hr : w'.ownsRow (pl + 1) 4 1 v' ((xs k).length + 1) ((xs k).map (fun b => Value.bool b) ++ [.bool (q k)])) (hg : w.grownBy w' (v k).ownBlock) (hv : v'.ownBlock = (v k).ownBlock ∨ v'.ownBlock = some w.heap.size) :
    Gr n T a0 w0 pl N v xs q (Ex.with' D (T k).A) (a.put (some (T k).tA) v') w' (fun j => if j = k then v' else cur j) g := by
  have hS : ∀ j, j < n → Ex.with' D (T k).A (T j).S = D (T j).S := fun j hj => with_ne ((O.pr k j hk hj).aas.symm)
  have hL : ∀ j, j < n → Ex.with' D (T k).A (T j).L = D (T j).L := fun j hj => with_ne ((O.pr j k hj hk).la)
  have hB : ∀ j, j < n → Ex.with' D (T k).A (T j).B = D (T j).B := fun j hj => with_ne ((O.pr j k hj hk).ba)
  have hA : ∀ j, j < n → j ≠ k → Ex.with' D (T k).A (T j).A = D (T j).A := fun j hj e => with_ne (O.un j k hj hk e).a
  have hlt := h.lt
  have hck := h.cur0 k hk hd0
  have hvb : ∀ b, (v k).ownBlock = some b → pl + 1 ≤ b ∧ b < w.heap.size := fun b hb => (h.row k hk).lt b (by rw [hck]; exact hb)
  have hother : ∀ j, j < n → j ≠ k → (cur j).ownBlock = none ∨ (cur j).ownBlock ≠ (v k).ownBlock := fun j hj e => by
    cases hc : (cur j).ownBlock with
    | none => exact .inl rfl
    | some b =>
      right
      intro he
      exact h.apart j k hj hk e b hc (by rw [hck, ← he])
  have hS0 : D (T k).S = false := by
    cases hs : D (T k).S with
    | false => rfl
    | true => have := h.sa k hk hs; rw [hd0] at this; cases this
  refine ⟨put_size.trans h.size, h.defers, fun t ht => ?_, h.below.grown hg (Nat.le_of_lt hlt) (fun b hb => by have := hvb b hb; omega), Nat.lt_of_lt_of_le hlt hg.size, fun j hj hd => ?_, fun j hj hd => ?_, fun j hj hd => ?_, fun j hj hd => ?_, fun j hj hd => ?_, fun j hj => ?_, fun i j hi hj hij b hb => ?_, fun j hj => ?_, fun j hj hb ha => ?_⟩
  · rw [put_ne (ht k hk).2.2]; exact h.other t ht
  · rw [hL j hj] at hd
    rw [put_ne (O.pr j k hj hk).ra]; exact h.loaded j hj hd
  · rw [hL j hj]
    by_cases e : j = k
    · subst e; exact hdL
    · rw [hA j hj e] at hd; exact h.al j hj hd
  · rw [hS j hj] at hd
    by_cases e : j = k
    · subst e; exact with_eq
    · rw [hA j hj e]; exact h.sa j hj hd
  · by_cases e : j = k
    · subst e; rw [with_eq] at hd; cases hd
    · rw [hA j hj e] at hd
      simp only [if_neg e]; exact h.cur0 j hj hd
  · by_cases e : j = k
    · subst e
      simp only [if_true]; exact put_eq (by rw [h.size]; exact hN)
    · rw [hA j hj e] at hd
      simp only [if_neg e]
      rw [put_ne (O.un j k hj hk e).ta]; exact h.cur1 j hj hd
  · by_cases e : j = k
    · subst e
      simp only [if_true, with_eq, rowX, List.length_append, List.length_cons, List.length_nil, List.map_append, List.map_cons, List.map_nil, Nat.zero_add]
      exact hr
    · simp only [if_neg e]
      rw [hA j hj e]
      exact (h.row j hj).kept hg (hother j hj e)
  · by_cases e1 : i = k
    · subst e1
      rw [if_pos rfl] at hb
      rw [if_neg (fun e => hij e.symm)]
      intro he
      have hjb := (h.row j hj).lt b he
      rcases hv with hv | hv
      · rw [hv] at hb
        exact h.apart i j hi hj hij b (by rw [hck]; exact hb) he
      · rw [hv] at hb; cases hb; omega
    · rw [if_neg e1] at hb
      by_cases e2 : j = k
      · subst e2
        rw [if_pos rfl]
        intro he
        have hib := (h.row i hi).lt b hb
        rcases hv with hv | hv
        · rw [hv] at he
          exact h.apart i j hi hj hij b hb (by rw [hck]; exact he)
        · rw [hv] at he; cases he; omega
      · rw [if_neg e2]; exact h.apart i j hi hj hij b hb
  · rw [hS j hj]
    have hne : some pl ≠ (v k).ownBlock := fun e => by have := hvb pl e.symm; omega
    have hbl := hg.block pl hlt hne
    obtain ⟨c1, c2⟩ := h.cell j hj
    refine ⟨?_, (World.frozen?_of_block (a := ⟨pl, j, none⟩) hbl).trans c2⟩
    rw [World.cell?_of_block (a := ⟨pl, j, none⟩) hbl, c1]
    by_cases e : j = k
    · subst e; rw [hS0]; simp
    · simp only [if_neg e]
  · rw [hB j hj] at hb
    by_cases e : j = k
    · subst e; rw [with_eq] at ha; cases ha
    · rw [hA j hj e] at ha
      obtain ⟨b1, b2, b3, b4, b5⟩ := h.built j hj hb ha
      have hne : some (g j) ≠ (v k).ownBlock := fun e => b5 k hk (by rw [hck]; exact e.symm)
      have hbl := hg.block (g j) b4 hne
      refine ⟨?_, (World.cell?_of_block (a := ⟨g j, 0, none⟩) hbl).trans b2, b3, Nat.lt_of_lt_of_le b4 hg.size, fun i hi => ?_⟩
      · rw [put_ne (O.pr j k hj hk).tba]; exact b1
      · by_cases e2 : i = k
        · rw [if_pos e2]
          rcases hv with hv | hv
          · rw [hv]; exact fun e => hne e.symm
          · rw [hv]; intro e; have := Option.some.inj e; omega
        · rw [if_neg e2]; exact b5 i hi
/-- A row is stored. -/
theorem Gr.store (h : Gr n T a0 w0 pl N v xs q D a w cur g) (O : Ops ops n T) {k : Nat} (hk : k < n) (hdA : D (T k).A = true) : Gr n T a0 w0 pl N v xs q (Ex.with' D (T k).S) a (w.setCell ⟨pl, k, none⟩ (cur k)) cur g := by
  have hA : ∀ j, j < n → Ex.with' D (T k).S (T j).A = D (T j).A := fun j hj => with_ne ((O.pr j k hj hk).aas)
  have hB : ∀ j, j < n → Ex.with' D (T k).S (T j).B = D (T j).B := fun j hj => with_ne ((O.pr j k hj hk).bs)
  have hL : ∀ j, j < n → Ex.with' D (T k).S (T j).L = D (T j).L := fun j hj => with_ne ((O.pr j k hj hk).ls)
  have hsz : (w.setCell ⟨pl, k, none⟩ (cur k)).heap.size = w.heap.size := by simp [World.setCell]
  have hold : ∀ b, b ≠ pl → (w.setCell ⟨pl, k, none⟩ (cur k)).heap[b]? = w.heap[b]? := fun b hb => Below.heap_setCell _ _ _ _ hb
  refine ⟨h.size, h.defers, h.other, h.below.setCell (Nat.le_refl _) _, by rw [hsz]; exact h.lt, fun j hj hd => ?_, fun j hj hd => ?_, fun j hj hd => ?_, fun j hj hd => ?_, fun j hj hd => ?_, fun j hj => ?_, h.apart, fun j hj => ?_, fun j hj hb ha => ?_⟩
  · rw [hL j hj] at hd; exact h.loaded j hj hd
  · rw [hA j hj] at hd
    rw [hL j hj]; exact h.al j hj hd
  · rw [hA j hj]
    by_cases e : j = k
    · subst e; exact hdA
    · rw [with_ne (O.un j k hj hk e).s] at hd; exact h.sa j hj hd
  · rw [hA j hj] at hd; exact h.cur0 j hj hd
  · rw [hA j hj] at hd; exact h.cur1 j hj hd
  · rw [hA j hj]
    refine ownsRow_setCell_other (h.row j hj) (fun e => ?_) _
    have := ((h.row j hj).lt _ e).1
    simp only at this
    omega
  · obtain ⟨c1, c2⟩ := h.cell j hj
    refine ⟨?_, ?_⟩
    · by_cases e : j = k
      · subst e
        rw [with_eq]
        simp only [if_true]
        exact World.cell?_setCell_same _ _ _ c1
      · rw [with_ne (O.un j k hj hk e).s, ← c1]
        exact World.cell?_setCell_other _ _ _ _ (fun he => e (Addr.mk.inj he).2.1.symm)
    · rw [← c2]; exact World.frozen?_setCell _ _ _ _
  · rw [hB j hj] at hb
    rw [hA j hj] at ha
    obtain ⟨b1, b2, b3, b4, b5⟩ := h.built j hj hb ha
    exact ⟨b1, (World.cell?_of_block (a := ⟨g j, 0, none⟩) (hold (g j) (by omega))).trans b2, b3, by rw [hsz]; exact b4, b5⟩
end

end Go.Proofs.YtfjlhfalnciamaaDoor.Chars
