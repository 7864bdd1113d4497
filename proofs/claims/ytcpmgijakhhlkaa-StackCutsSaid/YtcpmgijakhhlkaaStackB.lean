/- Package stack in memory: rows of nodes, the two maps. -/
import Derived.Test.YtcpmgijakhhlkaaStackA
import Derived.DeepKeys5
import Derived.Maps.OwnSet
import Derived.Lib.Hide
import Derived.WalkSpells
import Derived.OwnWalk
import Derived.Deep.AppendLies
namespace Go.Proofs.Ytcpmgijakhhlkaa.Stack
open Go Go.RowKit

abbrev in64 (n : Int) : Prop := -9223372036854775808 ≤ n ∧ n ≤ 9223372036854775807
theorem laidT : laidOutB Try.prog = true := by kernel_rfl
theorem keyPl : Maps.Keyed Try.prog 68 := Maps.Keyed.of_law (deep_law_gate laidT (of_decide_eq_true (by kernel_rfl)) (of_decide_eq_true (by kernel_rfl)) (by kernel_rfl) (by kernel_rfl))
theorem keyLk : Maps.Keyed Try.prog 98 := Maps.Keyed.of_law (deep_law_gate laidT (of_decide_eq_true (by kernel_rfl)) (of_decide_eq_true (by kernel_rfl)) (by kernel_rfl) (by kernel_rfl))
theorem ktPl : Try.prog.keyType 68 = true := by kernel_rfl
theorem ktLk : Try.prog.keyType 98 = true := by kernel_rfl
theorem csPl : Try.prog.cellsOf 68 = 2 := by kernel_rfl
theorem csLk : Try.prog.cellsOf 98 = 2 := by kernel_rfl
theorem csI : Try.prog.cellsOf 3 = 1 := by kernel_rfl
theorem zeroI (w : World) : (zeroValue 3).run Try.prog w = .ok (.int .i64 0) w := by kernel_rfl
def kp (r a : Int) : Lit := .string (keyBytes [.int .i64 r, .int .i64 a])
abbrev pair (r a : Int) : Value := .agg #[.int .i64 r, .int .i64 a]
theorem keyOf_place {r a : Int} (hr : in64 r) (ha : in64 a) : keyOf Try.prog 68 (pair r a) = some (kp r a) := by
  have h1 : (Lit.int .i64 r).wf = true := WalkArith.wf_i64 hr
  have h2 : (Lit.int .i64 a).wf = true := WalkArith.wf_i64 ha
  unfold keyOf
  simp only [Try.underlying68]
  rw [if_pos (by simp [ktPl, Value.formed, Try.underlying68, csPl])]
  unfold Program.keyLits
  simp only [Try.underlying68, Value.cells]
  unfold Program.keyLits
  simp [Try.underlying3, h1, h2, csI, csPl, kp]
theorem keyOf_link {r a : Int} (hr : in64 r) (ha : in64 a) : keyOf Try.prog 98 (pair r a) = some (kp r a) := by
  have h1 : (Lit.int .i64 r).wf = true := WalkArith.wf_i64 hr
  have h2 : (Lit.int .i64 a).wf = true := WalkArith.wf_i64 ha
  unfold keyOf
  simp only [Try.underlying98]
  rw [if_pos (by simp [ktLk, Value.formed, Try.underlying98, csLk])]
  unfold Program.keyLits
  simp only [Try.underlying98, Value.cells]
  unfold Program.keyLits
  simp [Try.underlying3, h1, h2, csI, csLk, kp]
theorem kp_ne {r a r' a' : Int} (h1 : in64 r) (h2 : in64 a) (h3 : in64 r') (h4 : in64 a') (hne : (r, a) ≠ (r', a')) : kp r' a' ≠ kp r a := by
  intro e
  have := keyPl.inj (keyOf_place h1 h2) (by rw [keyOf_place h3 h4, e])
  simp at this
  exact hne (by rw [this.1, this.2])

/-! ### The maps -/
def told (o : Option Nat) (z : DataW Unit) : DataW Unit := match o with | some i => .lit (.int .i64 (i : Int)) | none => z
def FoundAt (w : World) (m : Nat) (K : List Ky) : Prop :=
  ∃ (D : DataW Unit) (n : Nat), n ≤ K.length ∧ w.ownsMap Try.prog 68 (plainElem Try.prog 3) m n D ∧ ∀ r a z, in64 r → in64 a → D.atKey (kp r a) z = told (idx K (r, a)) z
def ManyAt (w : World) (m c : Nat) : Prop := ∃ (D : DataW Unit) (n : Nat), n ≤ c ∧ w.ownsMap Try.prog 98 (plainElem Try.prog 3) m n D
theorem FoundAt.same {w w' : World} {m : Nat} {K : List Ky} (h : FoundAt w m K) (e : w'.heap[m]? = w.heap[m]?) : FoundAt w' m K := by
  obtain ⟨D, n, hn, ⟨es, clock, e1, e2⟩, h3⟩ := h
  exact ⟨D, n, hn, ⟨es, clock, e.trans e1, e2⟩, h3⟩
theorem ManyAt.same {w w' : World} {m c : Nat} (h : ManyAt w m c) (e : w'.heap[m]? = w.heap[m]?) : ManyAt w' m c := by
  obtain ⟨D, n, hn, ⟨es, clock, e1, e2⟩⟩ := h
  exact ⟨D, n, hn, ⟨es, clock, e.trans e1, e2⟩⟩
theorem FoundAt.lt {w : World} {m : Nat} {K : List Ky} (h : FoundAt w m K) : m < w.heap.size := by
  obtain ⟨D, n, _, h2, _⟩ := h
  exact h2.lt
theorem ManyAt.lt {w : World} {m c : Nat} (h : ManyAt w m c) : m < w.heap.size := by
  obtain ⟨D, n, _, h2⟩ := h
  exact h2.lt
theorem ManyAt.mono {w : World} {m c c' : Nat} (h : ManyAt w m c) (hc : c ≤ c') : ManyAt w m c' := by
  obtain ⟨D, n, hn, h2⟩ := h
  exact ⟨D, n, by omega, h2⟩
theorem wf0 : (Lit.int .i64 0).wf = true := by decide
theorem FoundAt.look {w : World} {m : Nat} {K : List Ky} (h : FoundAt w m K) {r a : Int} (hr : in64 r) (ha : in64 a) :
    (Instr.lookup 39 (.map (some m)) (pair r a) true).run Try.prog w = .ok (.tuple #[.int .i64 (((idx K (r, a)).getD 0 : Nat) : Int), .bool (idx K (r, a)).isSome]) w := by
  obtain ⟨D, n, hn, h2, h3⟩ := h
  obtain ⟨v, ps, hrun, hv⟩ := h2.look_ok keyPl Try.underlying39 (zeroI w) (plainElem_int Try.underlying3 wf0) (keyOf_place hr ha)
  rw [h3 r a _ hr ha] at hv
  have hat := fun z => h3 r a z hr ha
  rw [hrun]
  cases hi : idx K (r, a) with
  | none =>
    rw [hi] at hv hat
    obtain ⟨c, rfl, hc, _⟩ := plainElem_int_inv Try.underlying3 hv
    simp [told] at hc
    rw [Maps.has_false_of_atKey (D := D) hat]
    simp [hc.1]
  | some i =>
    rw [hi] at hv hat
    obtain ⟨c, rfl, hc, _⟩ := plainElem_int_inv Try.underlying3 hv
    simp [told] at hc
    rw [Maps.has_true_of_atKey (D := D) (y := .lit (.int .i64 (i : Int))) hat]
    simp [hc.1]
theorem mapTurned_block {w w' : World} {m : Nat} (h : w.mapTurned w' m) (b : Nat) (hb : b ≠ m) : w'.heap[b]? = w.heap[b]? := by
  obtain ⟨_, _, _, _, h1, rfl⟩ := h
  exact ChangeMaps.heap_setBlock_other h1 _ hb
theorem mapTurned_below {w w' : World} {m B : Nat} (h : w.mapTurned w' m) (hB : B ≤ m) : Below B w w' := by
  have hb := mapTurned_block h
  obtain ⟨_, _, _, _, h1, rfl⟩ := h
  exact ⟨rfl, rfl, rfl, by simp [ChangeMaps.setBlock], fun k hk => hb k (by omega)⟩
theorem mapTurned_size {w w' : World} {m : Nat} (h : w.mapTurned w' m) : w'.heap.size = w.heap.size := by
  obtain ⟨_, _, _, _, h1, rfl⟩ := h
  simp [ChangeMaps.setBlock]
/-- A key more, whose number is how many there were. -/
theorem FoundAt.put {w : World} {m : Nat} {K : List Ky} (h : FoundAt w m K) {r a : Int} (hr : in64 r) (ha : in64 a) (hK : K.length ≤ 1000) (h1 : 1 ≤ K.length) (hno : idx K (r, a) = none) :
    ∃ w', (Instr.mapUpdate 39 (.map (some m)) (pair r a) (.int .i64 (K.length : Int))).run Try.prog w = .ok () w' ∧ FoundAt w' m (K ++ [(r, a)]) ∧ w.mapTurned w' m := by
  obtain ⟨D, n, hn, h2, h3⟩ := h
  obtain ⟨w', hrun, hown, ht⟩ := h2.store keyPl Try.underlying39 (by unfold maxLen; omega) (keyOf_place hr ha) (plainElem_int Try.underlying3 (WalkArith.wf_i64 (n := (K.length : Int)) (by omega)))
  refine ⟨w', hrun, ⟨_, n + 1, by simp; omega, hown, fun r' a' z hr' ha' => ?_⟩, ht⟩
  have hsn : idx (K ++ [(r, a)]) (r', a') = match idx K (r', a') with | some j => some j | none => if (r, a) = (r', a') then some K.length else none := by
    unfold idx
    rw [List.tail_append_of_ne_nil (by rintro rfl; simp at h1), look_snoc]
    rw [show 1 + K.tail.length = K.length by rw [List.length_tail]; omega]
    cases Stack.look K.tail 1 (r', a') <;> simp
  by_cases e : (r, a) = (r', a')
  · cases e
    rw [Maps.atKey_put_same h2.isMap (by simp [WideAt.IsKeyLit, kp]), hsn, hno]
    simp [told]
  · rw [Maps.atKey_put_other (kp_ne hr ha hr' ha' e), h3 _ _ _ hr' ha', hsn]
    cases hi : idx K (r', a') with
    | none => simp [e]
    | some j => rfl
theorem ManyAt.look {w : World} {m c : Nat} (h : ManyAt w m c) {r a : Int} (hr : in64 r) (ha : in64 a) :
    ∃ x : Int, (Instr.lookup 40 (.map (some m)) (pair r a) false).run Try.prog w = .ok (.int .i64 x) w := by
  obtain ⟨D, n, hn, h2⟩ := h
  obtain ⟨x, hrun, _, _⟩ := h2.lookup_int keyLk Try.underlying40 Try.underlying3 (zeroI w) (keyOf_link hr ha)
  exact ⟨x, hrun⟩
theorem ManyAt.put {w : World} {m c : Nat} (h : ManyAt w m c) (hc : c ≤ 100000) {r a : Int} (hr : in64 r) (ha : in64 a) :
    ∃ w', (Instr.mapUpdate 40 (.map (some m)) (pair r a) (.int .i64 1)).run Try.prog w = .ok () w' ∧ ManyAt w' m (c + 1) ∧ w.mapTurned w' m := by
  obtain ⟨D, n, hn, h2⟩ := h
  obtain ⟨w', hrun, hown, ht⟩ := h2.store keyLk Try.underlying40 (by unfold maxLen; omega) (keyOf_link hr ha) (plainElem_int Try.underlying3 (by decide : (Lit.int .i64 1).wf = true))
  exact ⟨w', hrun, ⟨_, n + 1, by omega, hown⟩, ht⟩

/-! ### Rows -/
def intC (L : List Int) : List Value := L.map fun n => .int .i64 n
def IntRow (w : World) (B : Nat) (v : Value) (L : List Int) : Prop := w.ownsRow B 3 1 v L.length (intC L)
def upI (x : Nd) : List Int := x.u.map fun (n : Nat) => (n : Int)
theorem ownsRow_agree {w w' : World} {S e n size : Nat} {v : Value} {xs : List Value} (h : w.ownsRow S e size v n xs) (hk : ∀ k, v.ownBlock = some k → w'.heap[k]? = w.heap[k]?) : w'.ownsRow S e size v n xs := by
  refine ⟨h.1, ?_⟩
  rcases h.2 with h0 | ⟨g, cap, cur, e1, e2, e3, e4⟩
  · exact .inl h0
  · exact .inr ⟨g, cap, cur, e1, e2, (hk g (by rw [e1]; rfl)).trans e3, e4⟩
theorem ownsRow_block {w : World} {S e n size : Nat} {v : Value} {xs : List Value} (h : w.ownsRow S e size v n xs) {k : Nat} (hk : v.ownBlock = some k) : S ≤ k ∧ k < w.heap.size ∧ ∃ cur, w.heap[k]? = some (Obj.cells cur e (0, 0)) := by
  rcases h.2 with ⟨rfl, _⟩ | ⟨g, cap, cur, rfl, e2, e3, _⟩
  · cases hk
  · cases hk
    exact ⟨e2, (Array.getElem?_eq_some_iff.1 e3).1, cur, e3⟩
theorem ownsRow_form {w : World} {S e n size : Nat} {v : Value} {xs : List Value} (h : w.ownsRow S e size v n xs) : ∃ A cap, v = .slice A n cap ∧ n ≤ cap ∧ cap ≤ maxLen := by
  rcases h.2 with ⟨rfl, rfl⟩ | ⟨g, cap, cur, rfl, _, _, h1, h2, _⟩
  · exact ⟨none, 0, rfl, Nat.le_refl _, by unfold maxLen; omega⟩
  · exact ⟨_, cap, rfl, h1, h2⟩
/-- One cell of a row is written. -/
theorem ownsRow_set {w : World} {S e n size g cap : Nat} {xs : List Value} (h : w.ownsRow S e size (.slice (some ⟨g, 0, none⟩) n cap) n xs) (j : Nat) (u : Value) :
    (w.setCell ⟨g, j, none⟩ u).ownsRow S e size (.slice (some ⟨g, 0, none⟩) n cap) n (xs.set j u) := by
  refine ⟨by simpa using h.1, .inr ?_⟩
  rcases h.2 with ⟨h0, _⟩ | ⟨g', cap', cur, e1, e2, e3, e4, e5, e6, e7⟩
  · cases h0
  · cases e1
    refine ⟨g, cap, cur.setIfInBounds j u, rfl, e2, ?_, e4, e5, by simpa using e6, ?_⟩
    · simp [World.setCell, Array.getElem?_modify, e3]
    · rw [← e7, Array.toList_setIfInBounds]
      rw [List.take_set]
structure Nm where
  nd : Nd
  v : Value
def nmC (x : Nm) : List Value := [.int .i64 x.nd.r, .int .i64 x.nd.a, x.v]
def nmCells (L : List Nm) : List Value := L.flatMap nmC
theorem nmCells_snoc (L : List Nm) (x : Nm) : nmCells (L ++ [x]) = nmCells L ++ nmC x := by simp [nmCells]
theorem nmCells_len (L : List Nm) : (nmCells L).length = L.length * 3 := by
  induction L with
  | nil => rfl
  | cons x r ih => simp only [nmCells, List.flatMap_cons, List.length_append] at ih ⊢; rw [ih]; simp [nmC]; omega
theorem nmCells_get {L : List Nm} {i : Nat} {x : Nm} (h : L[i]? = some x) : (nmCells L)[i * 3]? = some (.int .i64 x.nd.r) ∧ (nmCells L)[i * 3 + 1]? = some (.int .i64 x.nd.a) ∧ (nmCells L)[i * 3 + 2]? = some x.v := by
  induction L generalizing i with
  | nil => cases h
  | cons y r ih =>
    cases i with
    | zero => simp at h; subst h; simp [nmCells, nmC]
    | succ i =>
      simp at h
      have := ih h
      simp only [nmCells, List.flatMap_cons] at this ⊢
      rw [show (i + 1) * 3 = i * 3 + 3 by omega, show i * 3 + 3 + 1 = i * 3 + 1 + 3 by omega, show i * 3 + 3 + 2 = i * 3 + 2 + 3 by omega]
      rw [List.getElem?_append_right (by simp [nmC]), List.getElem?_append_right (by simp [nmC]), List.getElem?_append_right (by simp [nmC])]
      simpa [nmC] using this
theorem nmCells_set : ∀ (L : List Nm) (i : Nat) (x y : Nm), L[i]? = some x → y.nd.r = x.nd.r → y.nd.a = x.nd.a → (nmCells L).set (i * 3 + 2) y.v = nmCells (L.set i y)
  | [], _, _, _, h, _, _ => by cases h
  | z :: r, 0, x, y, h, h1, h2 => by
    simp at h
    subst h
    simp [nmCells, nmC, h1, h2]
  | z :: r, i + 1, x, y, h, h1, h2 => by
    simp at h
    have := nmCells_set r i x y h h1 h2
    simp only [nmCells, List.flatMap_cons, List.set_cons_succ] at this ⊢
    rw [show (i + 1) * 3 + 2 = (nmC z).length + (i * 3 + 2) by simp [nmC]; omega, List.set_append_right _ _ (by omega)]
    rw [show (nmC z).length + (i * 3 + 2) - (nmC z).length = i * 3 + 2 by omega, this]
abbrev Apart (x y : Nm) : Prop := ∀ k, x.v.ownBlock = some k → y.v.ownBlock ≠ some k
theorem Apart.symm {x y : Nm} (h : Apart x y) : Apart y x := fun k hk hx => h k hx hk
def NodesAt (w : World) (B : Nat) (v : Value) (N : List Nd) : Prop :=
  ∃ L : List Nm, L.map (·.nd) = N ∧ w.ownsRow B 70 3 v L.length (nmCells L) ∧ (∀ x ∈ L, IntRow w B x.v (upI x.nd)) ∧ L.Pairwise Apart
theorem intC_get {L : List Int} {i : Nat} {x : Int} (h : L[i]? = some x) : (intC L)[i]? = some (.int .i64 x) := by unfold intC; rw [List.getElem?_map, h]; rfl
theorem addr_add (g n : Nat) : (⟨g, 0, none⟩ : Addr).add n = ⟨g, n, none⟩ := by
  by_cases h : n = 0
  · subst h; simp [Addr.add]
  · simp [Addr.add, h]
theorem IntRow.stay {w w' : World} {B : Nat} {v : Value} {L : List Int} (h : IntRow w B v L) (hb : Below w.heap.size w w') : IntRow w' B v L :=
  ownsRow_agree h fun k hk => hb.block k (ownsRow_block h hk).2.1
theorem IntRow.at {w : World} {B : Nat} {v : Value} {L : List Int} (h : IntRow w B v L) (hn : 0 < L.length) : ∃ g cap, v = .slice (some ⟨g, 0, none⟩) L.length cap ∧ L.length ≤ maxLen ∧ g < w.heap.size ∧ ∀ (i : Nat) (x : Int), L[i]? = some x → w.cell? ⟨g, i, none⟩ = some (.int .i64 x) := by
  have h' := h
  rcases h.2 with ⟨_, h0⟩ | ⟨g, cap, cur, hv, h1, h3, h4, h5, h6, h7⟩
  · omega
  · refine ⟨g, cap, hv, Nat.le_trans h4 h5, (Array.getElem?_eq_some_iff.1 h3).1, fun i x hx => ?_⟩
    have := World.ownsRow.cells h' (g := g) (by rw [hv]; rfl) i _ (intC_get hx)
    rw [addr_add] at this
    exact this
/-- A node's cells. -/
theorem NodesAt.get {w : World} {B : Nat} {v : Value} {N : List Nd} (h : NodesAt w B v N) {i : Nat} {x : Nd} (hx : N[i]? = some x) :
    ∃ g cap u, v = .slice (some ⟨g, 0, none⟩) N.length cap ∧ B ≤ g ∧ w.heap.size > g ∧ N.length ≤ maxLen ∧ (∀ o, w.frozen? ⟨g, o, none⟩ = false) ∧ w.cell? ⟨g, i * 3, none⟩ = some (.int .i64 x.r) ∧ w.cell? ⟨g, i * 3 + 1, none⟩ = some (.int .i64 x.a) ∧ w.cell? ⟨g, i * 3 + 2, none⟩ = some u ∧ IntRow w B u (upI x) ∧ u.ownBlock ≠ some g := by
  obtain ⟨L, rfl, ho, hr, hp⟩ := h
  rw [List.getElem?_map] at hx
  cases hy : L[i]? with
  | none => rw [hy] at hx; cases hx
  | some y =>
    rw [hy] at hx
    simp at hx
    subst hx
    have hl : i < L.length := (List.getElem?_eq_some_iff.1 hy).1
    have ho' := ho
    rcases ho.2 with ⟨_, h0⟩ | ⟨g, cap, cur, hv, h1, h3, h4, h5, h6, h7⟩
    · omega
    · have hc := World.ownsRow.cells ho' (g := g) (by rw [hv]; rfl)
      obtain ⟨c0, c1, c2⟩ := nmCells_get hy
      have d0 := hc _ _ c0
      have d1 := hc _ _ c1
      have d2 := hc _ _ c2
      rw [addr_add] at d0 d1 d2
      refine ⟨g, cap, y.v, by rw [List.length_map]; exact hv, h1, (Array.getElem?_eq_some_iff.1 h3).1, by rw [List.length_map]; omega, fun o => by simp [World.frozen?, h3], d0, d1, d2, hr y (List.mem_of_getElem? hy), fun e => ?_⟩
      obtain ⟨_, _, cur', hb⟩ := ownsRow_block (hr y (List.mem_of_getElem? hy)) e
      rw [h3] at hb
      cases hb
theorem NodesAt.form {w : World} {B : Nat} {v : Value} {N : List Nd} (h : NodesAt w B v N) : ∃ A cap, v = .slice A N.length cap ∧ N.length ≤ cap ∧ cap ≤ maxLen := by
  obtain ⟨L, rfl, ho, _, _⟩ := h
  obtain ⟨A, cap, h1, h2, h3⟩ := ownsRow_form ho
  exact ⟨A, cap, by rw [List.length_map]; exact h1, by rw [List.length_map]; exact h2, h3⟩
theorem NodesAt.agree {w w' : World} {B : Nat} {v : Value} {N : List Nd} (h : NodesAt w B v N) (hk : ∀ (k : Nat) (cur : Array Value) ty, w.heap[k]? = some (Obj.cells cur ty (0, 0)) → B ≤ k → ty = 70 ∨ ty = 3 → w'.heap[k]? = w.heap[k]?) : NodesAt w' B v N := by
  obtain ⟨L, hL, ho, hr, hp⟩ := h
  refine ⟨L, hL, ownsRow_agree ho fun k hv => ?_, fun x hx => ownsRow_agree (hr x hx) fun k hv => ?_, hp⟩
  · obtain ⟨h1, _, cur, hc⟩ := ownsRow_block ho hv
    exact hk k cur _ hc h1 (.inl rfl)
  · obtain ⟨h1, _, cur, hc⟩ := ownsRow_block (hr x hx) hv
    exact hk k cur _ hc h1 (.inr rfl)
theorem NodesAt.stay {w w' : World} {B : Nat} {v : Value} {N : List Nd} (h : NodesAt w B v N) (hb : Below w.heap.size w w') : NodesAt w' B v N :=
  h.agree fun k _ _ hc _ _ => hb.block k (Array.getElem?_eq_some_iff.1 hc).1

end Go.Proofs.Ytcpmgijakhhlkaa.Stack
