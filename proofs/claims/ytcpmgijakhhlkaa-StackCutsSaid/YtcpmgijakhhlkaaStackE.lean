/- Package stack in memory: a node goes on to one more. -/
import Derived.Test.YtcpmgijakhhlkaaStackD
namespace Go.Proofs.Ytcpmgijakhhlkaa.Stack
open Go Go.RowKit

theorem apart_of {L : List Nm} (hp : L.Pairwise Apart) {i j : Nat} {x y : Nm} (hij : i ≠ j) (hx : L[i]? = some x) (hy : L[j]? = some y) : Apart x y := by
  obtain ⟨h1, rfl⟩ := List.getElem?_eq_some_iff.1 hx
  obtain ⟨h2, rfl⟩ := List.getElem?_eq_some_iff.1 hy
  rw [List.pairwise_iff_getElem] at hp
  rcases Nat.lt_or_ge i j with h | h
  · exact hp i j h1 h2 h
  · exact (hp j i h2 h1 (by omega)).symm
theorem apart_set {L : List Nm} (hp : L.Pairwise Apart) {n : Nat} {y' : Nm} (hy : ∀ i x, i ≠ n → L[i]? = some x → Apart x y') : (L.set n y').Pairwise Apart := by
  rw [List.pairwise_iff_getElem]
  intro i j hi hj hij
  simp only [List.length_set] at hi hj
  rw [List.getElem_set, List.getElem_set]
  split
  · rename_i e
    split
    · omega
    · rename_i e2
      exact (hy j _ (fun h => e2 h.symm) (List.getElem?_eq_getElem hj)).symm
  · rename_i e
    split
    · exact hy i _ (fun h => e h.symm) (List.getElem?_eq_getElem hi)
    · exact apart_of hp (by omega) (List.getElem?_eq_getElem hi) (List.getElem?_eq_getElem hj)

def moreUp (y : Nm) (up : Nat) (v : Value) : Nm := ⟨⟨y.nd.r, y.nd.a, y.nd.u ++ [up]⟩, v⟩
/-- The nodes' row, and the others' rows, where one row of ways on grew. -/
theorem NodesAt.grow {w w5 : World} {B g cap k : Nat} {N : List Nd} (h : NodesAt w B (.slice (some ⟨g, 0, none⟩) k cap) N) {n up : Nat} {x : Nd} (hx : N[n]? = some x) {u : Value} (hu : w.cell? ⟨g, n * 3 + 2, none⟩ = some u)
    (hgrow : ∀ b, b < w.heap.size → some b ≠ u.ownBlock → w5.heap[b]? = w.heap[b]?) {gg c5 : Nat} (hrow : IntRow w5 B (.slice (some ⟨gg, 0, none⟩) (x.u.length + 1) c5) (upI x ++ [(up : Int)])) (hat : u.ownBlock = some gg ∨ w.heap.size ≤ gg) :
    NodesAt (w5.setCell ⟨g, n * 3 + 2, none⟩ (.slice (some ⟨gg, 0, none⟩) (x.u.length + 1) c5)) B (.slice (some ⟨g, 0, none⟩) k cap) (addUp N n up) := by
  obtain ⟨L, hL, ho, hr, hp⟩ := h
  have hkl : k = L.length := by
    obtain ⟨A, c1, e, _, _⟩ := ownsRow_form ho
    cases e
    rfl
  subst hkl
  obtain ⟨y, hy, hyx⟩ : ∃ y, L[n]? = some y ∧ y.nd = x := by
    rw [← hL, List.getElem?_map] at hx
    cases hy : L[n]? with
    | none => rw [hy] at hx; cases hx
    | some y => rw [hy] at hx; simp at hx; exact ⟨y, rfl, hx⟩
  obtain ⟨_, glt, gcur, gblk⟩ := ownsRow_block ho (k := g) rfl
  have hyu : y.v = u := by
    have hc := World.ownsRow.cells ho (g := g) rfl _ _ (nmCells_get hy).2.2
    rw [addr_add] at hc
    rw [hc] at hu
    exact Option.some.inj hu
  subst hyx
  have hlt : ∀ (i : Nat) (x : Nm), L[i]? = some x → ∀ b, x.v.ownBlock = some b → b < w.heap.size ∧ b ≠ g := fun i x hi b hb => by
    obtain ⟨_, h2, cur, h3⟩ := ownsRow_block (hr x (List.mem_of_getElem? hi)) hb
    refine ⟨h2, ?_⟩
    rintro rfl
    rw [gblk] at h3
    cases h3
  have hgu : some g ≠ u.ownBlock := fun e => (hlt n y hy g (by rw [hyu]; exact e.symm)).2 rfl
  have hgg : gg ≠ g := by
    rintro rfl
    obtain ⟨_, _, cur, h3⟩ := ownsRow_block hrow (k := gg) rfl
    rw [hgrow gg glt hgu, gblk] at h3
    cases h3
  have other : ∀ (i : Nat) (z : Nm), i ≠ n → L[i]? = some z → Apart z y := fun i z hi hz => apart_of hp hi hz hy
  refine ⟨L.set n (moreUp y up (.slice (some ⟨gg, 0, none⟩) (y.nd.u.length + 1) c5)), ?_, ?_, ?_, ?_⟩
  · rw [← hL]
    apply List.ext_getElem?
    intro i
    rw [addUp_get, List.getElem?_map, List.getElem?_set, List.getElem?_map]
    by_cases hi : n = i
    · subst hi
      rw [if_pos rfl, if_pos rfl, hy, if_pos (List.getElem?_eq_some_iff.1 hy).1]
      rfl
    · rw [if_neg hi, if_neg hi]
  · rw [← nmCells_set L n y (moreUp y up (.slice (some ⟨gg, 0, none⟩) (y.nd.u.length + 1) c5)) hy rfl rfl, List.length_set]
    have ho5 := ownsRow_agree (w' := w5) ho fun k hk => by cases hk; exact hgrow g glt hgu
    exact ownsRow_set ho5 _ _
  · intro z hz
    obtain ⟨i, hi⟩ := List.mem_iff_getElem?.1 hz
    rw [List.getElem?_set] at hi
    by_cases e : n = i
    · subst e
      rw [if_pos rfl] at hi
      split at hi
      · simp only [Option.some.injEq] at hi
        subst hi
        have e1 : upI (moreUp y up (.slice (some ⟨gg, 0, none⟩) (y.nd.u.length + 1) c5)).nd = upI y.nd ++ [(up : Int)] := by simp [upI, moreUp]
        show IntRow _ _ _ (upI (moreUp y up (.slice (some ⟨gg, 0, none⟩) (y.nd.u.length + 1) c5)).nd)
        rw [e1]
        exact ownsRow_agree hrow fun k hk => Below.heap_setCell _ _ _ _ (by cases hk; exact hgg)
      · cases hi
    · rw [if_neg e] at hi
      refine ownsRow_agree (hr z (List.mem_of_getElem? hi)) fun k hk => ?_
      obtain ⟨h1, h2⟩ := hlt i z hi k hk
      rw [Below.heap_setCell _ _ _ _ h2]
      exact hgrow k h1 fun e2 => other i z (fun h => e h.symm) hi k hk (by rw [hyu]; exact e2.symm)
  · refine apart_set hp fun i z hi hz k hk hk2 => ?_
    cases hk2
    rcases hat with hat | hat
    · exact other i z hi hz _ hk (by rw [hyu]; exact hat)
    · have h9 : gg < w.heap.size := (hlt i z hz _ hk).1
      omega

theorem addUp_ups {N : List Nd} (h : ∀ x ∈ N, ∀ u ∈ x.u, u ≤ 1000) (n : Nat) {up : Nat} (hu : up ≤ 1000) : ∀ x ∈ addUp N n up, ∀ u ∈ x.u, u ≤ 1000 := by
  intro x hx u hxu
  obtain ⟨i, hi⟩ := List.mem_iff_getElem?.1 hx
  rw [addUp_get] at hi
  split at hi
  · cases hy : N[i]? with
    | none => rw [hy] at hi; cases hi
    | some y =>
      rw [hy] at hi
      simp at hi
      subst hi
      simp at hxu
      rcases hxu with h1 | rfl
      · exact h y (List.mem_of_getElem? hy) u h1
      · exact hu
  · exact h x (List.mem_of_getElem? hi) u hxu
/-- A row of ways on grew, its value stored. -/
theorem Core.grow {w w5 : World} {B p g cap k mf mm : Nat} {N : List Nd} {K : List Ky} {c M : Nat} (h : Core w B p (.slice (some ⟨g, 0, none⟩) k cap) mf mm N K c M) {n up : Nat} {x : Nd} (hx : N[n]? = some x) {u : Value} (hu : w.cell? ⟨g, n * 3 + 2, none⟩ = some u)
    (hub : ∀ q, u.ownBlock = some q → B ≤ q ∧ ∃ cur, w.heap[q]? = some (Obj.cells cur 3 (0, 0))) (O : Obj) (hgrow : (w.alloc O).grownBy w5 u.ownBlock) {gg c5 : Nat} (hrow : w5.ownsRow B 3 1 (.slice (some ⟨gg, 0, none⟩) (x.u.length + 1) c5) (x.u.length + 1) (intC (upI x) ++ [.int .i64 (up : Int)])) (hat : u.ownBlock = some gg ∨ gg = w.heap.size + 1)
    (hup : up ≤ 1000) (hl : lk N ≤ 98) :
    Core (w5.setCell ⟨g, n * 3 + 2, none⟩ (.slice (some ⟨gg, 0, none⟩) (x.u.length + 1) c5)) B p (.slice (some ⟨g, 0, none⟩) k cap) mf mm (addUp N n up) K c M ∧ Below B w (w5.setCell ⟨g, n * 3 + 2, none⟩ (.slice (some ⟨gg, 0, none⟩) (x.u.length + 1) c5)) := by
  have hn : n < N.length := (List.getElem?_eq_some_iff.1 hx).1
  obtain ⟨L, hL, ho, _, _⟩ := h.nodes
  obtain ⟨gB, glt, gcur, gblk⟩ := ownsRow_block ho (k := g) rfl
  have hg : ∀ b, b < w.heap.size → some b ≠ u.ownBlock → w5.heap[b]? = w.heap[b]? := fun b hb hne => (hgrow.block b (by simp; omega) hne).trans (Below.heap_alloc _ _ _ hb)
  have hrow' : IntRow w5 B (.slice (some ⟨gg, 0, none⟩) (x.u.length + 1) c5) (upI x ++ [(up : Int)]) := by
    unfold IntRow
    have e1 : (upI x ++ [(up : Int)]).length = x.u.length + 1 := by simp [upI]
    have e2 : intC (upI x ++ [(up : Int)]) = intC (upI x) ++ [.int .i64 (up : Int)] := by simp [intC]
    rw [e1, e2]
    exact hrow
  have hk : ∀ (q : Nat) (o : Obj), w.heap[q]? = some o → (∀ cur f, o ≠ Obj.cells cur 3 f) → q ≠ g → (w5.setCell ⟨g, n * 3 + 2, none⟩ (.slice (some ⟨gg, 0, none⟩) (x.u.length + 1) c5)).heap[q]? = w.heap[q]? := fun q o ho1 ho2 hqg => by
    rw [Below.heap_setCell _ _ _ _ hqg]
    refine hg q (Array.getElem?_eq_some_iff.1 ho1).1 fun e => ?_
    obtain ⟨_, cur, hb⟩ := hub q e.symm
    rw [ho1] at hb
    exact ho2 _ _ (Option.some.inj hb)
  have hBs : B ≤ w.heap.size := by have := h.pB; have := h.lt; omega
  have hsz : w.heap.size ≤ (w.alloc O).heap.size := by simp
  refine ⟨⟨?_, h.pB, h.fB, h.mB, h.ne, h.nodes.grow hx hu hg hrow' (hat.imp id (by omega)), ?_, ?_, by rw [addUp_len]; exact h.pos, by rw [addUp_len]; exact h.len, by rw [addUp_lk up hn]; omega, addUp_ups h.ups n hup⟩, ?_⟩
  · rw [hk p _ h.head (fun cur f e => by cases e) (by rintro rfl; rw [h.head] at gblk; cases gblk)]
    exact h.head
  · obtain ⟨D, n', _, ⟨es, cl, e1, _⟩, _⟩ := h.found
    exact h.found.same (hk mf _ e1 (fun cur f e => by cases e) (by rintro rfl; rw [e1] at gblk; cases gblk))
  · obtain ⟨D, n', _, ⟨es, cl, e1, _⟩⟩ := h.many
    exact h.many.same (hk mm _ e1 (fun cur f e => by cases e) (by rintro rfl; rw [e1] at gblk; cases gblk))
  · exact (Below.grown (((Below.refl B w).alloc hBs O)) hgrow (by omega) fun q hq => (hub q hq).1).setCell (p := ⟨g, n * 3 + 2, none⟩) gB _

end Go.Proofs.Ytcpmgijakhhlkaa.Stack
