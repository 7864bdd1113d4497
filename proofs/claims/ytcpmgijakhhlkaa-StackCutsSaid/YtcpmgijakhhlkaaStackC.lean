/- Package stack: what reads alone, walked. -/
import Derived.Test.YtcpmgijakhhlkaaStackB
import Derived.WalkKit
import Derived.BigRegion
import Derived.Deep.LoopGhost
namespace Go.Proofs.Ytcpmgijakhhlkaa.Stack
open Go Go.RowKit

/-- A stack in memory: c is what its cell says of links, M how many the second map may have. -/
structure Core (w : World) (B p : Nat) (vn : Value) (mf mm : Nat) (N : List Nd) (K : List Ky) (c M : Nat) : Prop where
  head : w.heap[p]? = some (Obj.cells #[vn, .map (some mf), .map (some mm), .int .i64 (c : Int)] 42 (0, 0))
  pB : B ≤ p
  fB : B ≤ mf
  mB : B ≤ mm
  ne : mf ≠ mm
  nodes : NodesAt w B vn N
  found : FoundAt w mf K
  many : ManyAt w mm M
  pos : 0 < N.length
  len : N.length ≤ 200
  lks : lk N ≤ 99
  ups : ∀ x ∈ N, ∀ u ∈ x.u, u ≤ 1000
def Stk (w : World) (B p : Nat) (N : List Nd) (K : List Ky) : Prop := ∃ vn mf mm, Core w B p vn mf mm N K (lk N) (100 * lk N)
abbrev ptr (b : Nat) : Value := .pointer (some ⟨b, 0, none⟩)
section
variable {w w' : World} {B p : Nat} {vn : Value} {mf mm : Nat} {N : List Nd} {K : List Ky} {c M : Nat}
theorem Core.pf (h : Core w B p vn mf mm N K c M) : p ≠ mf := by
  rintro rfl
  obtain ⟨D, n, _, ⟨es, cl, e1, _⟩, _⟩ := h.found
  rw [h.head] at e1
  cases e1
theorem Core.pm (h : Core w B p vn mf mm N K c M) : p ≠ mm := by
  rintro rfl
  obtain ⟨D, n, _, ⟨es, cl, e1, _⟩⟩ := h.many
  rw [h.head] at e1
  cases e1
theorem Core.lt (h : Core w B p vn mf mm N K c M) : p < w.heap.size := (Array.getElem?_eq_some_iff.1 h.head).1
theorem Core.stay (h : Core w B p vn mf mm N K c M) (hb : Below w.heap.size w w') : Core w' B p vn mf mm N K c M :=
  ⟨(hb.block p h.lt).trans h.head, h.pB, h.fB, h.mB, h.ne, h.nodes.stay hb, h.found.same (hb.block mf h.found.lt), h.many.same (hb.block mm h.many.lt), h.pos, h.len, h.lks, h.ups⟩
theorem Stk.stay (h : Stk w B p N K) (hb : Below w.heap.size w w') : Stk w' B p N K := by
  obtain ⟨vn, mf, mm, hc⟩ := h
  exact ⟨vn, mf, mm, hc.stay hb⟩
theorem Core.cells (h : Core w B p vn mf mm N K c M) :
    w.cell? ⟨p, 0, none⟩ = some vn ∧ w.cell? ⟨p, 1, none⟩ = some (.map (some mf)) ∧ w.cell? ⟨p, 2, none⟩ = some (.map (some mm)) ∧ w.cell? ⟨p, 3, none⟩ = some (.int .i64 (c : Int)) ∧ ∀ o, w.frozen? ⟨p, o, none⟩ = false := by
  have := h.head
  refine ⟨?_, ?_, ?_, ?_, fun o => ?_⟩
  all_goals simp [World.cell?, World.frozen?, this]
/-- The second map alone turned. -/
theorem Core.turnM (h : Core w B p vn mf mm N K c M) (hk : ∀ k, k ≠ mm → w'.heap[k]? = w.heap[k]?) {M' : Nat} (hm : ManyAt w' mm M') : Core w' B p vn mf mm N K c M' :=
  ⟨(hk p h.pm).trans h.head, h.pB, h.fB, h.mB, h.ne, h.nodes.agree fun k cur ty hc _ _ => hk k (by
    rintro rfl
    obtain ⟨D, n, _, ⟨es, cl, e1, _⟩⟩ := h.many
    rw [hc] at e1
    cases e1), h.found.same (hk mf h.ne), hm, h.pos, h.len, h.lks, h.ups⟩
/-- The first map alone turned. -/
theorem Core.turnF (h : Core w B p vn mf mm N K c M) (hk : ∀ k, k ≠ mf → w'.heap[k]? = w.heap[k]?) {K' : List Ky} (hm : FoundAt w' mf K') : Core w' B p vn mf mm N K' c M :=
  ⟨(hk p h.pf).trans h.head, h.pB, h.fB, h.mB, h.ne, h.nodes.agree fun k cur ty hc _ _ => hk k (by
    rintro rfl
    obtain ⟨D, n, _, ⟨es, cl, e1, _⟩, _⟩ := h.found
    rw [hc] at e1
    cases e1), hm, h.many.same (hk mm (fun e => h.ne e.symm)), h.pos, h.len, h.lks, h.ups⟩
/-- The links' cell is written. -/
theorem Core.setLinks (h : Core w B p vn mf mm N K c M) (c' : Nat) : Core (w.setCell ⟨p, 3, none⟩ (.int .i64 (c' : Int))) B p vn mf mm N K c' M :=
  ⟨by simp [World.setCell, Array.getElem?_modify, h.head], h.pB, h.fB, h.mB, h.ne, h.nodes.agree fun k cur ty hc _ hty => Below.heap_setCell _ _ _ _ (by
    rintro rfl
    rw [h.head] at hc
    cases hc
    rcases hty with hty | hty <;> exact absurd hty (by decide)), h.found.same (Below.heap_setCell _ _ _ _ (fun e => h.pf e.symm)), h.many.same (Below.heap_setCell _ _ _ _ (fun e => h.pm e.symm)), h.pos, h.len, h.lks, h.ups⟩
end

theorem plain_any {w : World} {B p : Nat} {N : List Nd} {K : List Ky} (h : Stk w B p N K) : Calls Try.prog 29 #[ptr p] w fun e w' => e = .returned (.bool false) ∧ w = w' := by
  obtain ⟨vn, mf, mm, hc⟩ := h
  obtain ⟨c0, _, _, _, _⟩ := hc.cells
  obtain ⟨A, cap, rfl, _, _⟩ := hc.nodes.form
  have h1 : ((N.length : Int) == 0) = false := beq_eq_false_iff_ne.2 (by have := hc.pos; omega)
  clear hc
  go_enter Try.func29, Try.ntmps29
  go_wp2
  go_ret
  exact ⟨rfl, rfl⟩
theorem plain_nil (w : World) : Calls Try.prog 29 #[.pointer none] w fun e w' => e = .returned (.bool true) ∧ w = w' := by
  go_enter Try.func29, Try.ntmps29
  go_wp2
  go_ret
  exact ⟨rfl, rfl⟩
theorem plain_zero (w : World) (p : Nat) (c0 : w.cell? ⟨p, 0, none⟩ = some (.slice none 0 0)) : Calls Try.prog 29 #[ptr p] w fun e w' => e = .returned (.bool true) ∧ w = w' := by
  go_enter Try.func29, Try.ntmps29
  go_wp2
  go_ret
  exact ⟨rfl, rfl⟩
theorem has_any {w : World} {B p : Nat} {N : List Nd} {K : List Ky} (h : Stk w B p N K) (k : Int) : Calls Try.prog 30 #[ptr p, .int .i64 k] w fun e w' => e = .returned (.bool (decide (0 ≤ k ∧ k < (N.length : Int)))) ∧ w = w' := by
  have HP := Lib.hid (plain_any h)
  obtain ⟨vn, mf, mm, hc⟩ := h
  obtain ⟨c0, _, _, _, _⟩ := hc.cells
  obtain ⟨A, cap, rfl, _, _⟩ := hc.nodes.form
  clear hc
  by_cases h1 : 0 ≤ k
  · by_cases h2 : k < (N.length : Int)
    · have g1 : decide (k < (N.length : Int)) = true := decide_eq_true h2
      rw [decide_eq_true (⟨h1, h2⟩ : 0 ≤ k ∧ k < (N.length : Int))]
      go_enter Try.func30, Try.ntmps30
      go_wp2_with fail
      refine HP.out.mono ?_
      rintro e w' ⟨rfl, rfl⟩
      go_wp2
      go_ret
      exact ⟨rfl, rfl⟩
    · have g1 : decide (k < (N.length : Int)) = false := decide_eq_false h2
      rw [decide_eq_false (fun h : 0 ≤ k ∧ k < (N.length : Int) => h2 h.2)]
      go_enter Try.func30, Try.ntmps30
      go_wp2_with fail
      refine HP.out.mono ?_
      rintro e w' ⟨rfl, rfl⟩
      go_wp2
      go_ret
      exact ⟨rfl, rfl⟩
  · rw [decide_eq_false (fun h : 0 ≤ k ∧ k < (N.length : Int) => h1 h.1)]
    go_enter Try.func30, Try.ntmps30
    go_wp2_with fail
    refine HP.out.mono ?_
    rintro e w' ⟨rfl, rfl⟩
    go_wp2
    go_ret
    exact ⟨rfl, rfl⟩
/-- Of a stack that nobody made nothing is there. -/
theorem has_not {w : World} {v : Value} (h : Calls Try.prog 29 #[v] w fun e w' => e = .returned (.bool true) ∧ w = w') (k : Int) : Calls Try.prog 30 #[v, .int .i64 k] w fun e w' => e = .returned (.bool false) ∧ w = w' := by
  have HP := Lib.hid h
  clear h
  go_enter Try.func30, Try.ntmps30
  go_wp2_with fail
  refine HP.out.mono ?_
  rintro e w' ⟨rfl, rfl⟩
  go_wp2
  go_ret
  exact ⟨rfl, rfl⟩
theorem long_any {w : World} {B p : Nat} {N : List Nd} {K : List Ky} (h : Stk w B p N K) : Calls Try.prog 10 #[ptr p] w fun e w' => e = .returned (.int .i64 (N.length : Int)) ∧ w = w' := by
  obtain ⟨vn, mf, mm, hc⟩ := h
  obtain ⟨c0, _, _, _, _⟩ := hc.cells
  obtain ⟨A, cap, rfl, _, _⟩ := hc.nodes.form
  clear hc
  go_enter Try.func10, Try.ntmps10
  go_wp2
  go_ret
  exact ⟨rfl, rfl⟩
theorem links_any {w : World} {B p : Nat} {N : List Nd} {K : List Ky} (h : Stk w B p N K) : Calls Try.prog 15 #[ptr p] w fun e w' => e = .returned (.int .i64 (lk N : Int)) ∧ w = w' := by
  obtain ⟨vn, mf, mm, hc⟩ := h
  obtain ⟨_, _, _, c3, _⟩ := hc.cells
  clear hc
  go_enter Try.func15, Try.ntmps15
  go_wp2
  go_ret
  exact ⟨rfl, rfl⟩
theorem long_nil (w : World) : Calls Try.prog 10 #[.pointer none] w fun e w' => e = .returned (.int .i64 0) ∧ w = w' := by
  go_enter Try.func10, Try.ntmps10
  go_wp2
  go_ret
  exact ⟨rfl, rfl⟩
theorem links_nil (w : World) : Calls Try.prog 15 #[.pointer none] w fun e w' => e = .returned (.int .i64 0) ∧ w = w' := by
  go_enter Try.func15, Try.ntmps15
  go_wp2
  go_ret
  exact ⟨rfl, rfl⟩
theorem long_zero (w : World) (p : Nat) (c0 : w.cell? ⟨p, 0, none⟩ = some (.slice none 0 0)) : Calls Try.prog 10 #[ptr p] w fun e w' => e = .returned (.int .i64 0) ∧ w = w' := by
  go_enter Try.func10, Try.ntmps10
  go_wp2
  go_ret
  exact ⟨rfl, rfl⟩
theorem links_zero (w : World) (p : Nat) (c3 : w.cell? ⟨p, 3, none⟩ = some (.int .i64 0)) : Calls Try.prog 15 #[ptr p] w fun e w' => e = .returned (.int .i64 0) ∧ w = w' := by
  go_enter Try.func15, Try.ntmps15
  go_wp2
  go_ret
  exact ⟨rfl, rfl⟩

end Go.Proofs.Ytcpmgijakhhlkaa.Stack
