/- Package stack, plain: nodes of a stack, their keys, what putting a node and cutting make of them. -/
import Derived.Test.YtcpmgijakhhlkaaChecked
import Derived.WalkKit
namespace Go.Proofs.Ytcpmgijakhhlkaa.Stack
open Go Go.RowKit

/-- A node: the state to go back to, the place, the nodes that it goes on to. -/
structure Nd where
  r : Int
  a : Int
  u : List Nat
abbrev Ky := Int × Int
def keys (N : List Nd) : List Ky := N.map fun x => (x.r, x.a)
/-- Links. -/
def lk (N : List Nd) : Nat := (N.map fun x => x.u.length).sum
def look : List Ky → Nat → Ky → Option Nat
  | [], _, _ => none
  | x :: l, i, k => if x = k then some i else look l (i + 1) k
/-- Where a key stands, behind the bottom. -/
def idx (K : List Ky) (k : Ky) : Option Nat := look K.tail 1 k

theorem look_some {l : List Ky} {i j : Nat} {k : Ky} (h : look l i k = some j) : i ≤ j ∧ l[j - i]? = some k := by
  induction l generalizing i with
  | nil => cases h
  | cons x l ih =>
    unfold look at h
    split at h
    · rename_i e
      cases h
      simp [e]
    · obtain ⟨h1, h2⟩ := ih h
      refine ⟨by omega, ?_⟩
      rw [show j - i = (j - (i + 1)) + 1 by omega]
      simpa using h2
theorem look_none {l : List Ky} {i : Nat} {k : Ky} (h : look l i k = none) : k ∉ l := by
  induction l generalizing i with
  | nil => simp
  | cons x l ih =>
    unfold look at h
    split at h
    · cases h
    · rename_i e
      simp only [List.mem_cons, not_or]
      exact ⟨fun e2 => e e2.symm, ih h⟩
theorem look_not {l : List Ky} {i : Nat} {k : Ky} (h : k ∉ l) : look l i k = none := by
  cases h2 : look l i k with
  | none => rfl
  | some j => exact absurd (List.mem_of_getElem? (look_some h2).2) h
theorem look_snoc (l : List Ky) (i : Nat) (x k : Ky) : look (l ++ [x]) i k = match look l i k with | some j => some j | none => if x = k then some (i + l.length) else none := by
  induction l generalizing i with
  | nil => simp [look]
  | cons y l ih =>
    simp only [List.cons_append, look]
    split
    · rfl
    · rw [ih]
      simp only [List.length_cons]
      rw [show i + 1 + l.length = i + (l.length + 1) by omega]
theorem look_at {l : List Ky} (hd : l.Nodup) {i j : Nat} {k : Ky} (h : l[j]? = some k) : look l i k = some (i + j) := by
  induction l generalizing i j with
  | nil => cases h
  | cons x l ih =>
    unfold look
    cases j with
    | zero => simp at h; simp [h]
    | succ j =>
      simp at h
      have hn : x ≠ k := by
        rintro rfl
        exact (List.nodup_cons.1 hd).1 (List.mem_of_getElem? h)
      rw [if_neg hn, ih (List.nodup_cons.1 hd).2 h]
      congr 1
      omega
/-- What a stack is: its bottom, places that are not below 0, each once, ways on that are. -/
structure Good (N : List Nd) : Prop where
  bot : ∃ x, N[0]? = some x ∧ x.r = -1
  pos : ∀ x ∈ N.tail, (0 ≤ x.r ∧ x.r ≤ 9223372036854775807) ∧ 0 ≤ x.a ∧ x.a ≤ 9223372036854775807
  nd : (keys N).tail.Nodup
  ups : ∀ x ∈ N, ∀ u ∈ x.u, u < N.length
theorem keys_len (N : List Nd) : (keys N).length = N.length := by simp [keys]
theorem keys_tail (N : List Nd) : (keys N).tail = keys N.tail := by cases N <;> rfl
theorem idx_some {N : List Nd} {k : Ky} {i : Nat} (h : idx (keys N) k = some i) : 1 ≤ i ∧ ∃ x, N[i]? = some x ∧ (x.r, x.a) = k := by
  obtain ⟨h1, h2⟩ := look_some h
  refine ⟨h1, ?_⟩
  rw [keys_tail, keys, List.getElem?_map, List.getElem?_tail, show i - 1 + 1 = i by omega] at h2
  cases hx : N[i]? with
  | none => rw [hx] at h2; cases h2
  | some x => rw [hx] at h2; simp at h2; exact ⟨x, rfl, by rw [← h2]⟩
theorem idx_lt {N : List Nd} {k : Ky} {i : Nat} (h : idx (keys N) k = some i) : i < N.length := by
  obtain ⟨_, x, hx, _⟩ := idx_some h
  exact (List.getElem?_eq_some_iff.1 hx).1
theorem idx_at {N : List Nd} (hg : (keys N).tail.Nodup) {i : Nat} {x : Nd} (hi : 1 ≤ i) (hx : N[i]? = some x) : idx (keys N) (x.r, x.a) = some i := by
  unfold idx
  rw [look_at hg (j := i - 1)]
  · congr 1; omega
  · rw [keys_tail, keys, List.getElem?_map, List.getElem?_tail, show i - 1 + 1 = i by omega, hx]; rfl
/-- One more way on. -/
def addUp (N : List Nd) (n up : Nat) : List Nd := N.modify n fun x => { x with u := x.u ++ [up] }
theorem addUp_len (N : List Nd) (n up : Nat) : (addUp N n up).length = N.length := by simp [addUp]
theorem addUp_get (N : List Nd) (n up i : Nat) : (addUp N n up)[i]? = if n = i then (N[i]?).map (fun x => { x with u := x.u ++ [up] }) else N[i]? := by
  unfold addUp
  rw [List.getElem?_modify]
  split <;> simp
theorem addUp_keys (N : List Nd) (n up : Nat) : keys (addUp N n up) = keys N := by
  apply List.ext_getElem?
  intro i
  unfold keys
  rw [List.getElem?_map, addUp_get, List.getElem?_map]
  split
  · cases N[i]? <;> rfl
  · rfl
theorem addUp_lk {N : List Nd} {n : Nat} (up : Nat) (h : n < N.length) : lk (addUp N n up) = lk N + 1 := by
  induction N generalizing n with
  | nil => simp at h
  | cons x l ih =>
    cases n with
    | zero => simp [addUp, lk]; omega
    | succ n =>
      simp at h
      have := ih h
      simp only [addUp, lk, List.modify_succ_cons, List.map_cons, List.sum_cons] at this ⊢
      omega
theorem lk_snoc (N : List Nd) (r a : Int) : lk (N ++ [⟨r, a, []⟩]) = lk N := by simp [lk]
theorem lk_mem {N : List Nd} {x : Nd} (h : x ∈ N) : x.u.length ≤ lk N := by
  induction N with
  | nil => cases h
  | cons y l ih =>
    simp only [lk, List.map_cons, List.sum_cons] at ih ⊢
    rcases List.mem_cons.1 h with rfl | h
    · omega
    · have := ih h
      omega
theorem Good.snoc {N : List Nd} (h : Good N) {r a : Int} (hr : 0 ≤ r ∧ r ≤ 9223372036854775807) (ha : 0 ≤ a ∧ a ≤ 9223372036854775807) (hn : idx (keys N) (r, a) = none) : Good (N ++ [⟨r, a, []⟩]) := by
  obtain ⟨b, hb, hbr⟩ := h.bot
  have h0 : 0 < N.length := (List.getElem?_eq_some_iff.1 hb).1
  obtain ⟨y, l, rfl⟩ : ∃ y l, N = y :: l := by
    cases N with
    | nil => simp at h0
    | cons y l => exact ⟨y, l, rfl⟩
  refine ⟨⟨b, by simpa using hb, hbr⟩, ?_, ?_, ?_⟩
  · intro x hx
    simp only [List.cons_append, List.tail_cons, List.mem_append, List.mem_singleton] at hx
    rcases hx with hx | rfl
    · exact h.pos x (by simpa using hx)
    · exact ⟨hr, ha⟩
  · have := h.nd
    have hk := look_none hn
    simp only [keys, List.map_cons, List.tail_cons, List.map_append, List.map_nil, List.cons_append] at this hk ⊢
    rw [List.nodup_append]
    refine ⟨this, by simp, ?_⟩
    rintro x hx y hy rfl
    simp only [List.mem_singleton] at hy
    subst hy
    exact hk hx
  · intro x hx u hu
    simp only [List.mem_append, List.mem_singleton, List.length_append, List.length_cons, List.length_nil] at hx ⊢
    rcases hx with hx | rfl
    · have := h.ups x hx u hu
      simp only [List.length_cons] at this
      omega
    · cases hu
theorem Good.addUp {N : List Nd} (h : Good N) (n : Nat) {up : Nat} (hu : up < N.length) : Good (addUp N n up) := by
  have hget : ∀ (i : Nat) (x : Nd), (Stack.addUp N n up)[i]? = some x → ∃ y : Nd, N[i]? = some y ∧ x.r = y.r ∧ x.a = y.a ∧ ∀ v ∈ x.u, v ∈ y.u ∨ v = up := by
    intro i x hx
    rw [addUp_get] at hx
    split at hx
    · cases hy : N[i]? with
      | none => rw [hy] at hx; cases hx
      | some y =>
        rw [hy] at hx
        simp at hx
        subst hx
        exact ⟨y, rfl, rfl, rfl, fun v hv => by simpa using hv⟩
    · exact ⟨x, hx, rfl, rfl, fun v hv => .inl hv⟩
  refine ⟨?_, ?_, by rw [addUp_keys]; exact h.nd, ?_⟩
  · obtain ⟨b, hb, hbr⟩ := h.bot
    rw [addUp_get, hb]
    split
    · exact ⟨_, rfl, hbr⟩
    · exact ⟨_, rfl, hbr⟩
  · intro x hx
    obtain ⟨i, hi⟩ := List.mem_iff_getElem?.1 hx
    rw [List.getElem?_tail] at hi
    obtain ⟨y, hy, e1, e2, _⟩ := hget _ _ hi
    have := h.pos y (List.mem_iff_getElem?.2 ⟨i, by rw [List.getElem?_tail]; exact hy⟩)
    rw [e1, e2]
    exact this
  · intro x hx u hxu
    rw [addUp_len]
    obtain ⟨i, hi⟩ := List.mem_iff_getElem?.1 hx
    obtain ⟨y, hy, _, _, hv⟩ := hget _ _ hi
    rcases hv u hxu with h1 | rfl
    · exact h.ups y (List.mem_of_getElem? hy) u h1
    · exact hu
/-- The first nodes alone. -/
def cutN (N : List Nd) (n : Nat) : List Nd := (N.take n).map fun x => { x with u := x.u.filter (· < n) }
theorem cutN_all {N : List Nd} (h : ∀ x ∈ N, ∀ u ∈ x.u, u < N.length) : cutN N N.length = N := by
  unfold cutN
  rw [List.take_length]
  have : ∀ x ∈ N, (fun x : Nd => ({ x with u := x.u.filter (· < N.length) } : Nd)) x = x := by
    intro x hx
    have : x.u.filter (· < N.length) = x.u := List.filter_eq_self.2 fun u hu => by simpa using h x hx u hu
    simp only [this]
  exact (List.map_congr_left this).trans (List.map_id _)

end Go.Proofs.Ytcpmgijakhhlkaa.Stack
