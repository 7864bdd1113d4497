/- Package stack: one made new, one node more, walked. -/
import Derived.Test.YtcpmgijakhhlkaaStackF
namespace Go.Proofs.Ytcpmgijakhhlkaa.Stack
open Go Go.RowKit

theorem infoN : (Try.prog.info? 70).map (fun i => (i.zero, i.size, i.bytes)) = some (some (.agg #[.int .i64 0, .int .i64 0, .slice none 0 0]), 3, 40) := by kernel_rfl
abbrev N0 : List Nd := [⟨-1, 0, []⟩]
theorem good0 : Good N0 := by
  refine ⟨⟨_, rfl, rfl⟩, ?_, ?_, ?_⟩
  · intro x hx
    simp at hx
  · simp [keys]
  · intro x hx u hu
    simp at hx
    subst hx
    cases hu
theorem heap_below {w w' : World} (h : Below w.heap.size w w') {k : Nat} {o : Obj} (hk : w.heap[k]? = some o) : w'.heap[k]? = some o := (h.block k (Array.getElem?_eq_some_iff.1 hk).1).trans hk
theorem new_any (w : World) : Calls Try.prog 7 #[] w fun e w' => ∃ p, e = .returned (ptr p) ∧ Stk w' w.heap.size p N0 (keys N0) ∧ Below w.heap.size w w' := by
  have hm1 := @run_makeMap Try.prog
  go_enter Try.func7, Try.ntmps7
  go_wp2
  go_ret
  refine ⟨_, rfl, ⟨.slice (some ⟨w.heap.size, 0, none⟩) 1 1, w.heap.size + 1, w.heap.size + 1 + 1, ?_⟩, ?_⟩
  · have b0 : ∀ (w : World) O, Below w.heap.size w (w.alloc O) := fun w O => (Below.refl _ _).alloc (Nat.le_refl _) _
    obtain ⟨w1, hw1⟩ : ∃ w1, w.alloc (Obj.cells #[Value.int IntKind.i64 (-1), Value.int IntKind.i64 0, Value.slice none 0 0] 70) = w1 := ⟨_, rfl⟩
    have s1 : w1.heap.size = w.heap.size + 1 := by rw [← hw1]; simp
    have n1 : w1.heap[w.heap.size]? = some (Obj.cells #[Value.int IntKind.i64 (-1), Value.int IntKind.i64 0, Value.slice none 0 0] 70 (0, 0)) := by rw [← hw1]; exact heap_alloc_new w _
    rw [hw1, ← s1]
    obtain ⟨w2, hw2⟩ : ∃ w2, w1.alloc (Obj.map #[] 0) = w2 := ⟨_, rfl⟩
    have s2 : w2.heap.size = w1.heap.size + 1 := by rw [← hw2]; simp
    have n2 : w2.ownsMap Try.prog 68 (plainElem (H := Unit) Try.prog 3) w1.heap.size 0 (.map []) := by rw [← hw2]; exact World.ownsMap_made _ _ _ _
    have b2 : Below w1.heap.size w1 w2 := by rw [← hw2]; exact b0 _ _
    rw [hw2, ← s2]
    obtain ⟨w3, hw3⟩ : ∃ w3, w2.alloc (Obj.map #[] 0) = w3 := ⟨_, rfl⟩
    have s3 : w3.heap.size = w2.heap.size + 1 := by rw [← hw3]; simp
    have n3 : w3.ownsMap Try.prog 98 (plainElem (H := Unit) Try.prog 3) w2.heap.size 0 (.map []) := by rw [← hw3]; exact World.ownsMap_made _ _ _ _
    have b3 : Below w2.heap.size w2 w3 := by rw [← hw3]; exact b0 _ _
    rw [hw3, ← s3]
    have b4 := b0 w3 (Obj.cells #[Value.slice (some { block := w.heap.size, off := 0 }) 1 1, Value.map (some w1.heap.size), Value.map (some w2.heap.size), Value.int IntKind.i64 0] 42)
    refine ⟨heap_alloc_new w3 _, by omega, by omega, by omega, by omega, ⟨[⟨⟨-1, 0, []⟩, .slice none 0 0⟩], rfl, ⟨rfl, .inr ⟨w.heap.size, 1, _, rfl, Nat.le_refl _, heap_below b4 (heap_below b3 (heap_below b2 n1)), Nat.le_refl _, by unfold maxLen; omega, rfl, rfl⟩⟩, ?_, by simp⟩, ?_, ?_, by simp, by simp, by simp [lk], ?_⟩
    · intro x hx
      simp only [List.mem_singleton] at hx
      subst hx
      exact ⟨rfl, .inl ⟨rfl, rfl⟩⟩
    · refine FoundAt.same (w := w2) ⟨.map [], 0, by simp, n2, fun r a z _ _ => rfl⟩ ?_
      rw [b4.block _ (by omega), b3.block _ (by omega)]
    · refine ManyAt.same (w := w3) ⟨.map [], 0, by simp, n3⟩ ?_
      rw [b4.block _ (by omega)]
    · intro x hx u hu
      simp only [List.mem_singleton] at hx
      subst hx
      cases hu
  · exact ((((Below.refl _ _).alloc (Nat.le_refl _) _).alloc (by simp) _).alloc (by simp; omega) _).alloc (by simp; omega) _

/-- A node more, its row's value stored. -/
theorem Core.added {w w5 : World} {B p mf mm : Nat} {vn : Value} {N : List Nd} {K : List Ky} {c M : Nat} (h : Core w B p vn mf mm N K c M) (O : Obj) {L : List Nm} (hL : L.map (·.nd) = N) (ho : w.ownsRow B 70 3 vn L.length (nmCells L)) (hr : ∀ x ∈ L, IntRow w B x.v (upI x.nd)) (hp : L.Pairwise Apart)
    (hgrow : (w.alloc O).grownBy w5 vn.ownBlock) {gg cap : Nat} {r a : Int} (hown : w5.ownsRow B 70 3 (.slice (some ⟨gg, 0, none⟩) (L.length + 1) cap) (L.length + 1) (nmCells L ++ [.int .i64 r, .int .i64 a, .slice none 0 0])) (hlen : N.length ≤ 199) :
    Core (w5.setCell ⟨p, 0, none⟩ (.slice (some ⟨gg, 0, none⟩) (L.length + 1) cap)) B p (.slice (some ⟨gg, 0, none⟩) (L.length + 1) cap) mf mm (N ++ [⟨r, a, []⟩]) K c M ∧ Below B w (w5.setCell ⟨p, 0, none⟩ (.slice (some ⟨gg, 0, none⟩) (L.length + 1) cap)) := by
  have hBs : B ≤ w.heap.size := by have := h.pB; have := h.lt; omega
  have hvb : ∀ q, vn.ownBlock = some q → B ≤ q ∧ ∃ cur, w.heap[q]? = some (Obj.cells cur 70 (0, 0)) := fun q hq => by
    obtain ⟨h1, _, h3⟩ := ownsRow_block ho hq
    exact ⟨h1, h3⟩
  have hg : ∀ b, b < w.heap.size → some b ≠ vn.ownBlock → w5.heap[b]? = w.heap[b]? := fun b hb hne => (hgrow.block b (by simp; omega) hne).trans (Below.heap_alloc _ _ _ hb)
  have hk5 : ∀ (q : Nat) (o : Obj), w.heap[q]? = some o → (∀ cur f, o ≠ Obj.cells cur 70 f) → w5.heap[q]? = w.heap[q]? := fun q o ho1 ho2 => by
    refine hg q (Array.getElem?_eq_some_iff.1 ho1).1 fun e => ?_
    obtain ⟨_, cur, hb⟩ := hvb q e.symm
    rw [ho1] at hb
    exact ho2 _ _ (Option.some.inj hb)
  have hk : ∀ (q : Nat) (o : Obj), w.heap[q]? = some o → (∀ cur f, o ≠ Obj.cells cur 70 f) → q ≠ p → (w5.setCell ⟨p, 0, none⟩ (.slice (some ⟨gg, 0, none⟩) (L.length + 1) cap)).heap[q]? = w.heap[q]? := fun q o ho1 ho2 hqp => by
    rw [Below.heap_setCell _ _ _ _ hqp]
    exact hk5 q o ho1 ho2
  have hp5 := (hk5 p _ h.head (fun cur f e => by cases e)).trans h.head
  have hggp : gg ≠ p := by
    rintro rfl
    obtain ⟨_, _, cur, hb⟩ := ownsRow_block hown (k := gg) rfl
    rw [hp5] at hb
    cases hb
  refine ⟨⟨?_, h.pB, h.fB, h.mB, h.ne, ⟨L ++ [⟨⟨r, a, []⟩, .slice none 0 0⟩], by simp [hL], ?_, ?_, ?_⟩, ?_, ?_, by simp, by simp; omega, by rw [lk_snoc]; exact h.lks, ?_⟩, ?_⟩
  · simp [World.setCell, Array.getElem?_modify, hp5]
  · rw [nmCells_snoc, List.length_append]
    exact ownsRow_agree hown fun q hq => Below.heap_setCell _ _ _ _ (by cases hq; exact hggp)
  · intro x hx
    rcases List.mem_append.1 hx with hx | hx
    · exact ownsRow_agree (hr x hx) fun q hq => by
        obtain ⟨_, _, cur, hb⟩ := ownsRow_block (hr x hx) hq
        exact hk q _ hb (fun cur f e => by cases e) (by rintro rfl; rw [h.head] at hb; cases hb)
    · simp only [List.mem_singleton] at hx
      subst hx
      exact ⟨rfl, .inl ⟨rfl, rfl⟩⟩
  · rw [List.pairwise_append]
    refine ⟨hp, by simp, fun x _ y hy => ?_⟩
    simp only [List.mem_singleton] at hy
    subst hy
    exact fun k _ hk => by cases hk
  · obtain ⟨D, n', _, ⟨es, cl, e1, _⟩, _⟩ := h.found
    exact h.found.same (hk mf _ e1 (fun cur f e => by cases e) (fun e => h.pf e.symm))
  · obtain ⟨D, n', _, ⟨es, cl, e1, _⟩⟩ := h.many
    exact h.many.same (hk mm _ e1 (fun cur f e => by cases e) (fun e => h.pm e.symm))
  · intro x hx u hu
    rcases List.mem_append.1 hx with hx | hx
    · exact h.ups x hx u hu
    · simp only [List.mem_singleton] at hx
      subst hx
      cases hu
  · exact (Below.grown (((Below.refl B w).alloc hBs O)) hgrow (by simp; omega) fun q hq => (hvb q hq).1).setCell (p := ⟨p, 0, none⟩) h.pB _

end Go.Proofs.Ytcpmgijakhhlkaa.Stack
