/- Package stack: what is cut, node by node. -/
import Derived.Test.YtcpmgijakhhlkaaStackI
namespace Go.Proofs.Ytcpmgijakhhlkaa.Stack
open Go Go.RowKit

abbrev Z : Nd := ⟨0, 0, []⟩
def cutNd (n : Nat) (x : Nd) : Nd := { x with u := x.u.filter (· < n) }
theorem cutN_eq (N : List Nd) (n : Nat) : cutN N n = (N.take n).map (cutNd n) := rfl
/-- The first i nodes are cut. -/
def part (N : List Nd) (n i : Nat) : List Nd := ((N.take i).map (cutNd n)) ++ List.replicate (n - i) Z
/-- .. and of the next one some ways on. -/
def part2 (N : List Nd) (n i : Nat) (r a : Int) (us : List Nat) : List Nd := ((N.take i).map (cutNd n)) ++ ⟨r, a, us⟩ :: List.replicate (n - i - 1) Z
theorem part_len {N : List Nd} {n i : Nat} (hi : i ≤ n) (hn : n ≤ N.length) : (part N n i).length = n := by simp [part]; omega
theorem part2_len {N : List Nd} {n i : Nat} {r a : Int} {us : List Nat} (hi : i < n) (hn : n ≤ N.length) : (part2 N n i r a us).length = n := by simp [part2]; omega
theorem part2_get {N : List Nd} {n i : Nat} {r a : Int} {us : List Nat} (hi : i < n) (hn : n ≤ N.length) : (part2 N n i r a us)[i]? = some ⟨r, a, us⟩ := by
  unfold part2
  rw [List.getElem?_append_right (by simp; omega)]
  simp
  rw [show i - min i N.length = 0 by omega]
  rfl
theorem part2_add {N : List Nd} {n i : Nat} {r a : Int} {us : List Nat} {up : Nat} (hi : i < n) (hn : n ≤ N.length) : addUp (part2 N n i r a us) i up = part2 N n i r a (us ++ [up]) := by
  apply List.ext_getElem?
  intro j
  rw [addUp_get]
  split
  · rename_i e
    subst e
    rw [part2_get hi hn, part2_get hi hn]
    rfl
  · rename_i e
    unfold part2
    rcases Nat.lt_or_ge j i with hj | hj
    · rw [List.getElem?_append_left (by simp; omega), List.getElem?_append_left (by simp; omega)]
    · rw [List.getElem?_append_right (by simp; omega), List.getElem?_append_right (by simp; omega)]
      obtain ⟨d, hd⟩ : ∃ d, j - ((N.take i).map (cutNd n)).length = d + 1 := ⟨j - ((N.take i).map (cutNd n)).length - 1, by simp; omega⟩
      rw [hd]
      rfl
theorem part2_done {N : List Nd} {n i : Nat} {x : Nd} (hx : N[i]? = some x) : part2 N n i x.r x.a (x.u.filter (· < n)) = part N n (i + 1) := by
  unfold part2 part
  have hl : i < N.length := (List.getElem?_eq_some_iff.1 hx).1
  have e : N.take (i + 1) = N.take i ++ [x] := by
    rw [List.take_add_one, hx]
    rfl
  rw [e, List.map_append, List.append_assoc]
  congr 1
theorem part_all {N : List Nd} {n : Nat} : part N n n = cutN N n := by simp [part, cutN_eq]
theorem lk_append (N M : List Nd) : lk (N ++ M) = lk N + lk M := by simp [lk]
theorem lk_rep (k : Nat) : lk (List.replicate k Z) = 0 := by simp [lk]
theorem lk_cut (N : List Nd) (n : Nat) : lk (N.map (cutNd n)) ≤ lk N := by
  induction N with
  | nil => simp [lk]
  | cons x l ih =>
    have : (x.u.filter (· < n)).length ≤ x.u.length := List.length_filter_le _ _
    simp only [lk, List.map_cons, List.sum_cons, cutNd] at ih ⊢
    omega
theorem lk_split {N : List Nd} {i : Nat} {x : Nd} (hx : N[i]? = some x) : lk (N.take i) + x.u.length ≤ lk N := by
  have hl : i < N.length := (List.getElem?_eq_some_iff.1 hx).1
  have e : N = N.take i ++ N.drop i := (List.take_append_drop i N).symm
  have e2 : N.drop i = x :: N.drop (i + 1) := by
    rw [List.drop_eq_getElem_cons hl]
    congr 1
    exact (List.getElem?_eq_some_iff.1 hx).2
  have : lk N = lk (N.take i) + lk (x :: N.drop (i + 1)) := by
    rw [← e2, ← lk_append, ← e]
  rw [this]
  simp only [lk, List.map_cons, List.sum_cons]
  omega
theorem part2_lk {N : List Nd} {n i : Nat} {x : Nd} (hx : N[i]? = some x) (us : List Nat) : lk (part2 N n i x.r x.a us) + x.u.length ≤ lk N + us.length := by
  have h1 := lk_split hx
  have h2 := lk_cut (N.take i) n
  have : lk (part2 N n i x.r x.a us) = lk ((N.take i).map (cutNd n)) + us.length := by
    unfold part2
    rw [lk_append]
    have : lk (⟨x.r, x.a, us⟩ :: List.replicate (n - i - 1) Z) = us.length + lk (List.replicate (n - i - 1) Z) := by simp only [lk, List.map_cons, List.sum_cons]
    rw [this, lk_rep]
    rfl
  omega
theorem part0 (N : List Nd) (n : Nat) : part N n 0 = List.replicate n Z := by simp [part]
theorem part_get {N : List Nd} {n i : Nat} (hi : i < n) (hn : n ≤ N.length) : (part N n i)[i]? = some Z := by
  unfold part
  rw [List.getElem?_append_right (by simp; omega), List.getElem?_replicate, if_pos (by simp; omega)]
theorem part_set {N : List Nd} {n i : Nat} (hi : i < n) (hn : n ≤ N.length) (r a : Int) : (part N n i).set i ⟨r, a, []⟩ = part2 N n i r a [] := by
  apply List.ext_getElem?
  intro j
  rw [List.getElem?_set]
  split
  · rename_i e
    subst e
    rw [part2_get hi hn, if_pos (by rw [part_len (by omega) hn]; exact hi)]
  · rename_i e
    unfold part2 part
    rcases Nat.lt_or_ge j i with hj | hj
    · rw [List.getElem?_append_left (by simp; omega), List.getElem?_append_left (by simp; omega)]
    · rw [List.getElem?_append_right (by simp; omega), List.getElem?_append_right (by simp; omega)]
      obtain ⟨d, hd⟩ : ∃ d, j - ((N.take i).map (cutNd n)).length = d + 1 := ⟨j - ((N.take i).map (cutNd n)).length - 1, by simp; omega⟩
      rw [hd, List.getElem?_cons_succ, List.getElem?_replicate, List.getElem?_replicate]
      congr 1
      simp
      simp at hd
      omega

theorem made_nodes (n : Nat) : (madeCells (#[.int .i64 0, .int .i64 0, .slice none 0 0] : Array Value) (n * 3)).toList = nmCells (List.replicate n ⟨Z, .slice none 0 0⟩) := by
  apply List.ext_getElem?
  intro j
  have hl : (madeCells (#[.int .i64 0, .int .i64 0, .slice none 0 0] : Array Value) (n * 3)).toList.length = n * 3 := by simp [madeCells]
  rcases Nat.lt_or_ge j (n * 3) with hj | hj
  · obtain ⟨i, r, hr, rfl⟩ : ∃ i r, r < 3 ∧ j = i * 3 + r := ⟨j / 3, j % 3, Nat.mod_lt _ (by omega), by omega⟩
    have hi : i < n := by omega
    have hx : (List.replicate n (⟨Z, .slice none 0 0⟩ : Nm))[i]? = some ⟨Z, .slice none 0 0⟩ := by rw [List.getElem?_replicate, if_pos hi]
    obtain ⟨c0, c1, c2⟩ := nmCells_get hx
    have hm : (madeCells (#[.int .i64 0, .int .i64 0, .slice none 0 0] : Array Value) (n * 3)).toList[i * 3 + r]? = some ((#[.int .i64 0, .int .i64 0, .slice none 0 0] : Array Value)[(i * 3 + r) % 3]!) := by
      simp [madeCells, hj]
    rw [hm, show (i * 3 + r) % 3 = r by omega]
    rcases (by omega : r = 0 ∨ r = 1 ∨ r = 2) with rfl | rfl | rfl
    · exact c0.symm
    · exact c1.symm
    · exact c2.symm
  · rw [List.getElem?_eq_none (by omega), List.getElem?_eq_none (by rw [nmCells_len]; simp; omega)]
theorem nmCells_place : ∀ (L : List Nm) (i : Nat) (x : Nm) (r a : Int), L[i]? = some x → ((nmCells L).set (i * 3) (.int .i64 r)).set (i * 3 + 1) (.int .i64 a) = nmCells (L.set i ⟨⟨r, a, x.nd.u⟩, x.v⟩)
  | [], _, _, _, _, h => by cases h
  | z :: l, 0, x, r, a, h => by
    simp at h
    subst h
    simp [nmCells, nmC]
  | z :: l, i + 1, x, r, a, h => by
    simp at h
    have := nmCells_place l i x r a h
    simp only [nmCells, List.flatMap_cons, List.set_cons_succ] at this ⊢
    rw [show (i + 1) * 3 = (nmC z).length + i * 3 by simp [nmC]; omega, List.set_append_right _ _ (by omega)]
    rw [show (nmC z).length + i * 3 + 1 = (nmC z).length + (i * 3 + 1) by omega, List.set_append_right _ _ (by omega)]
    rw [show (nmC z).length + i * 3 - (nmC z).length = i * 3 by omega, show (nmC z).length + (i * 3 + 1) - (nmC z).length = i * 3 + 1 by omega, this]
/-- A node's place is written. -/
theorem Core.setPlace {w : World} {B p k cap mf mm g : Nat} {N : List Nd} {K : List Ky} {c M : Nat} (h : Core w B p (.slice (some ⟨g, 0, none⟩) k cap) mf mm N K c M) {i : Nat} {x : Nd} (hx : N[i]? = some x) (r a : Int) :
    Core ((w.setCell ⟨g, i * 3, none⟩ (.int .i64 r)).setCell ⟨g, i * 3 + 1, none⟩ (.int .i64 a)) B p (.slice (some ⟨g, 0, none⟩) k cap) mf mm (N.set i ⟨r, a, x.u⟩) K c M ∧ Below B w ((w.setCell ⟨g, i * 3, none⟩ (.int .i64 r)).setCell ⟨g, i * 3 + 1, none⟩ (.int .i64 a)) := by
  obtain ⟨L, hL, ho, hr, hp⟩ := h.nodes
  obtain ⟨gB, glt, gcur, gblk⟩ := ownsRow_block ho (k := g) rfl
  have hkl : k = L.length := by
    obtain ⟨A, c1, e, _, _⟩ := ownsRow_form ho
    cases e
    rfl
  subst hkl
  obtain ⟨y, hy, hyx⟩ : ∃ y, L[i]? = some y ∧ y.nd = x := by
    rw [← hL, List.getElem?_map] at hx
    cases hy : L[i]? with
    | none => rw [hy] at hx; cases hx
    | some y => rw [hy] at hx; simp at hx; exact ⟨y, rfl, hx⟩
  subst hyx
  have hk : ∀ q, q ≠ g → ((w.setCell ⟨g, i * 3, none⟩ (.int .i64 r)).setCell ⟨g, i * 3 + 1, none⟩ (.int .i64 a)).heap[q]? = w.heap[q]? := fun q hq => by
    rw [Below.heap_setCell _ _ _ _ hq, Below.heap_setCell _ _ _ _ hq]
  have hne : ∀ (q : Nat) (o : Obj), w.heap[q]? = some o → (∀ cur f, o ≠ Obj.cells cur 70 f) → q ≠ g := fun q o ho1 ho2 e => by
    subst e
    rw [gblk] at ho1
    exact ho2 _ _ (Option.some.inj ho1).symm
  have hlkN : lk (N.set i ⟨r, a, y.nd.u⟩) = lk N := by
    have : N.set i ⟨r, a, y.nd.u⟩ = N.modify i fun z => ⟨r, a, z.u⟩ := by
      apply List.ext_getElem?
      intro j
      rw [List.getElem?_set, List.getElem?_modify]
      split
      · rename_i e
        subst e
        rw [hx, if_pos (List.getElem?_eq_some_iff.1 hx).1]
        rfl
      · simp
    rw [this]
    unfold lk
    congr 1
    apply List.ext_getElem?
    intro j
    rw [List.getElem?_map, List.getElem?_map, List.getElem?_modify]
    cases N[j]? <;> simp
    split <;> rfl
  refine ⟨⟨?_, h.pB, h.fB, h.mB, h.ne, ⟨L.set i ⟨⟨r, a, y.nd.u⟩, y.v⟩, ?_, ?_, ?_, ?_⟩, ?_, ?_, by simp; exact h.pos, by simp; exact h.len, by rw [hlkN]; exact h.lks, ?_⟩, ?_⟩
  · rw [hk p (hne p _ h.head (fun cur f e => by cases e))]
    exact h.head
  · rw [← hL]
    apply List.ext_getElem?
    intro j
    rw [List.getElem?_map, List.getElem?_set, List.getElem?_set, List.getElem?_map]
    split
    · rename_i e
      subst e
      rw [if_pos (List.getElem?_eq_some_iff.1 hy).1, if_pos (by simpa using (List.getElem?_eq_some_iff.1 hy).1)]
      rfl
    · rfl
  · rw [List.length_set, ← nmCells_place L i y r a hy]
    exact ownsRow_set (ownsRow_set ho _ _) _ _
  · intro z hz
    have hz' : ∃ z' ∈ L, z'.v = z.v ∧ z'.nd.u = z.nd.u := by
      obtain ⟨j, hj⟩ := List.mem_iff_getElem?.1 hz
      rw [List.getElem?_set] at hj
      split at hj
      · split at hj
        · simp only [Option.some.injEq] at hj
          subst hj
          exact ⟨y, List.mem_of_getElem? hy, rfl, rfl⟩
        · cases hj
      · exact ⟨z, List.mem_of_getElem? hj, rfl, rfl⟩
    obtain ⟨z', hz1, hz2, hz3⟩ := hz'
    have := hr z' hz1
    unfold upI at this ⊢
    rw [hz2, hz3] at this
    exact ownsRow_agree this fun q hq => hk q (by
      obtain ⟨_, _, cur, hb⟩ := ownsRow_block this hq
      exact hne q _ hb (fun cur f e => by cases e))
  · exact apart_set hp fun j z hj hz => fun q hq => apart_of hp hj hz hy q hq
  · exact h.found.same (hk mf (by
      obtain ⟨D, n', _, ⟨es, cl, e1, _⟩, _⟩ := h.found
      exact hne mf _ e1 (fun cur f e => by cases e)))
  · exact h.many.same (hk mm (by
      obtain ⟨D, n', _, ⟨es, cl, e1, _⟩⟩ := h.many
      exact hne mm _ e1 (fun cur f e => by cases e)))
  · intro z hz u hu
    obtain ⟨j, hj⟩ := List.mem_iff_getElem?.1 hz
    rw [List.getElem?_set] at hj
    split at hj
    · split at hj
      · simp only [Option.some.injEq] at hj
        subst hj
        exact h.ups _ (List.mem_of_getElem? hx) u hu
      · cases hj
    · exact h.ups z (List.mem_of_getElem? hj) u hu
  · exact ((Below.refl B w).setCell (p := ⟨g, i * 3, none⟩) gB _).setCell (p := ⟨g, i * 3 + 1, none⟩) gB _

theorem part2_lk0 {N : List Nd} {n i : Nat} (r a : Int) : lk (part2 N n i r a []) = lk (part N n i) := by
  unfold part2 part
  rw [lk_append, lk_append, lk_rep]
  have : lk (⟨r, a, []⟩ :: List.replicate (n - i - 1) Z) = 0 + lk (List.replicate (n - i - 1) Z) := by simp only [lk, List.map_cons, List.sum_cons, List.length_nil]
  rw [this, lk_rep]
/-- Within a round of Cut. -/
def RowP (w : World) (B c : Nat) (N : List Nd) (n i : Nat) (x : Nd) (us : List Nat) (wr : World) : Prop := Stk wr B c (part2 N n i x.r x.a us) (keys (N.take (i + 1))) ∧ Below B w wr
theorem take_filter {l : List Nat} {j y n : Nat} (h : l[j]? = some y) : (l.take (j + 1)).filter (· < n) = (l.take j).filter (· < n) ++ (if y < n then [y] else []) := by
  rw [List.take_add_one, h, List.filter_append]
  congr 1
  simp only [Option.toList_some]
  split
  · rename_i e
    simp [e]
  · rename_i e
    simp [e]
theorem keys_take {N : List Nd} {i : Nat} {x : Nd} (hx : N[i]? = some x) : keys (N.take i) ++ [(x.r, x.a)] = keys (N.take (i + 1)) := by
  rw [List.take_add_one, hx]
  simp [keys]
theorem idx_take {N : List Nd} (hd : (keys N).tail.Nodup) {i : Nat} {x : Nd} (h1 : 1 ≤ i) (hx : N[i]? = some x) : idx (keys (N.take i)) (x.r, x.a) = none := by
  cases h : idx (keys (N.take i)) (x.r, x.a) with
  | none => rfl
  | some j =>
    obtain ⟨j1, y, hy, e⟩ := idx_some h
    have hj := idx_lt h
    have hji : j < i := by
      rw [List.length_take] at hj
      omega
    rw [List.getElem?_take_of_lt hji] at hy
    have a1 := idx_at hd j1 hy
    have a2 := idx_at hd h1 hx
    rw [e, a2] at a1
    cases a1
    omega

end Go.Proofs.Ytcpmgijakhhlkaa.Stack
