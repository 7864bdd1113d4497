/- Ranges in memory: slices of ranges that read, rows of ranges that the call made. -/
import Derived.Test.YtfjlhfalnciamaaDoorChecked
import Derived.Test.YtfjlhfalnciamaaDoorCharsD
import Derived.Lib.Hide
import Derived.WalkKit
import Derived.WalkSpells
import Derived.Below
import Derived.Deep.AppendLies
import Derived.Deep.Draws
import Derived.OwnWalk
namespace Go.Proofs.YtfjlhfalnciamaaDoor.Chars
open Go Go.RowKit Go.Proofs.Chars

def rcells (L : List Rg) : List Value := L.flatMap fun x => [.int .i32 x.1, .int .i32 x.2]
theorem rcells_len (L : List Rg) : (rcells L).length = L.length * 2 := by
  induction L with
  | nil => rfl
  | cons x r ih => simp only [rcells, List.flatMap_cons, List.length_append] at ih ⊢; rw [ih]; simp; omega
theorem rcells_append (L M : List Rg) : rcells (L ++ M) = rcells L ++ rcells M := by simp [rcells]
theorem rcells_get {L : List Rg} {i : Nat} {x : Rg} (h : L[i]? = some x) : (rcells L)[i * 2]? = some (.int .i32 x.1) ∧ (rcells L)[i * 2 + 1]? = some (.int .i32 x.2) := by
  induction L generalizing i with
  | nil => cases h
  | cons y r ih =>
    cases i with
    | zero => simp at h; subst h; simp [rcells]
    | succ i =>
      simp at h
      have := ih h
      simp only [rcells, List.flatMap_cons] at this ⊢
      rw [show (i + 1) * 2 = i * 2 + 2 by omega, show i * 2 + 2 + 1 = i * 2 + 1 + 2 by omega]
      rw [List.getElem?_append_right (by simp), List.getElem?_append_right (by simp)]
      simpa using this
def in32 (x : Rg) : Prop := (-2147483648 ≤ x.1 ∧ x.1 ≤ 2147483647) ∧ (-2147483648 ≤ x.2 ∧ x.2 ≤ 2147483647)
theorem canon_in32 : ∀ {L : List Rg} {b : Int}, Canon b L → 0 ≤ b → ∀ x ∈ L, in32 x
  | [], _, _, _, x, h => by cases h
  | y :: l, b, hc, hb, x, h => by
    have h1 := hc.1
    have h2 := hc.2.1
    have h3 := hc.2.2.1
    unfold most at h3
    rcases List.mem_cons.1 h with rfl | h
    · exact ⟨⟨by omega, by omega⟩, by omega, by omega⟩
    · exact canon_in32 hc.2.2.2 (by omega) x h
/-- A value that is a slice of these ranges. -/
def Rgs (w : World) (v : Value) (L : List Rg) : Prop :=
  (∀ x ∈ L, in32 x) ∧ ∃ A cap, v = .slice A L.length cap ∧ L.length ≤ cap ∧ cap ≤ maxLen ∧
    (0 < L.length → ∃ b off, A = some ⟨b, off, none⟩ ∧ b < w.heap.size ∧ ∀ i x, L[i]? = some x → w.cell? ⟨b, off + i * 2, none⟩ = some (.int .i32 x.1) ∧ w.cell? ⟨b, off + i * 2 + 1, none⟩ = some (.int .i32 x.2))
theorem Rgs.stay {w w' : World} {v : Value} {L : List Rg} (h : Rgs w v L) (hb : Below w.heap.size w w') : Rgs w' v L := by
  obtain ⟨h0, A, cap, h1, h2, h3, h4⟩ := h
  refine ⟨h0, A, cap, h1, h2, h3, fun hn => ?_⟩
  obtain ⟨b, off, e, hlt, hc⟩ := h4 hn
  exact ⟨b, off, e, Nat.lt_of_lt_of_le hlt hb.size, fun i x hx => ⟨(hb.cell (p := ⟨b, _, none⟩) hlt).trans (hc i x hx).1, (hb.cell (p := ⟨b, _, none⟩) hlt).trans (hc i x hx).2⟩⟩
theorem Rgs.len {w : World} {v : Value} {L : List Rg} (h : Rgs w v L) (ty : TypeId) (w' : World) : (Builtin.len_ #[23] ty #[v]).run Tryd.prog w' = .ok (.int .i64 (L.length : Int)) w' := by
  obtain ⟨_, A, cap, rfl, _⟩ := h
  kernel_rfl
theorem Rgs.len22 {w : World} {v : Value} {L : List Rg} (h : Rgs w v L) (ty : TypeId) (w' : World) : (Builtin.len_ #[22] ty #[v]).run Tryd.prog w' = .ok (.int .i64 (L.length : Int)) w' := by
  obtain ⟨_, A, cap, rfl, _⟩ := h
  kernel_rfl
/-- A row of ranges that the call made. -/
def Rowed (w : World) (S : Nat) (v : Value) (L : List Rg) : Prop := w.ownsRow S 44 2 v L.length (rcells L)
theorem Rowed.stay {w w' : World} {S : Nat} {v : Value} {L : List Rg} (h : Rowed w S v L) (hb : Below w.heap.size w w') : Rowed w' S v L := by
  refine ⟨h.1, ?_⟩
  rcases h.2 with h0 | ⟨g, cap, cur, e1, e2, e3, e4⟩
  · exact .inl h0
  · exact .inr ⟨g, cap, cur, e1, e2, (hb.block g (Array.getElem?_eq_some_iff.1 e3).1).trans e3, e4⟩
theorem Rowed.block_lt {w : World} {S : Nat} {v : Value} {L : List Rg} (h : Rowed w S v L) {g : Nat} (hg : v.ownBlock = some g) : g < w.heap.size := by
  rcases h.2 with ⟨rfl, _⟩ | ⟨g', cap, cur, rfl, _, e3, _⟩
  · cases hg
  · cases hg
    exact (Array.getElem?_eq_some_iff.1 e3).1
theorem Rowed.low {w : World} {S S' : Nat} {v : Value} {L : List Rg} (h : Rowed w S v L) (hS : S' ≤ S) : Rowed w S' v L := by
  refine ⟨h.1, ?_⟩
  rcases h.2 with h0 | ⟨g, cap, cur, e1, e2, e3⟩
  · exact .inl h0
  · exact .inr ⟨g, cap, cur, e1, Nat.le_trans hS e2, e3⟩
theorem addr_add (g n : Nat) : (⟨g, 0, none⟩ : Addr).add n = ⟨g, n, none⟩ := by
  by_cases h : n = 0
  · subst h; simp [Addr.add]
  · simp [Addr.add, h]
theorem Rowed.rgs {w : World} {S : Nat} {v : Value} {L : List Rg} (h : Rowed w S v L) (hi : ∀ x ∈ L, in32 x) : Rgs w v L := by
  refine ⟨hi, ?_⟩
  rcases h.2 with ⟨rfl, h0⟩ | ⟨g, cap, cur, hv, h1, h3, h4, h5, h6, h7⟩
  · exact ⟨none, 0, by rw [h0], by omega, by simp [maxLen], fun hn => by omega⟩
  · refine ⟨_, cap, hv, h4, h5, fun _ => ⟨g, 0, rfl, (Array.getElem?_eq_some_iff.1 h3).1, fun i x hx => ?_⟩⟩
    have hc := World.ownsRow.cells h (g := g) (by rw [hv]; rfl)
    have h2 := rcells_get hx
    rw [Nat.zero_add]
    have e1 := hc _ _ h2.1
    have e2 := hc _ _ h2.2
    rw [addr_add] at e1 e2
    exact ⟨e1, e2⟩

end Go.Proofs.YtfjlhfalnciamaaDoor.Chars
