/- What the law of BitsTell keeps, at the end. -/
import Derived.Test.YtfcdmkfbkkogbaaDoorBitsAB
namespace Go.Proofs.YtfcdmkfbkkogbaaDoor.Bits
open Go Go.RowKit

theorem nextTo_spec {n : Int} {L : List Nat} (hp : L.Pairwise (· < ·)) : ∀ j, j ≤ L.length →
    (nextTo n L j = -1 ∧ ∀ z ∈ L.take j, (z : Int) < n) ∨ (∃ m : Nat, nextTo n L j = (m : Int) ∧ m ∈ L.take j ∧ n ≤ (m : Int) ∧ ∀ z ∈ L.take j, n ≤ (z : Int) → m ≤ z)
  | 0, _ => .inl ⟨rfl, by simp⟩
  | j + 1, hj => by
    have ih := nextTo_spec (n := n) hp j (by omega)
    obtain ⟨x, hx⟩ : ∃ x, L[j]? = some x := ⟨L[j], List.getElem?_eq_getElem _⟩
    have e : L.getD j 0 = x := by rw [List.getD_eq_getElem?_getD, hx]; rfl
    have hs : nextTo n L (j + 1) = if nextTo n L j < 0 ∧ n ≤ (x : Int) then (x : Int) else nextTo n L j := by rw [nextTo, e]
    rw [hs]
    rcases ih with ⟨h1, h2⟩ | ⟨m, h1, h2, h3, h4⟩
    · by_cases hle : n ≤ (x : Int)
      · rw [if_pos ⟨by omega, hle⟩]
        refine .inr ⟨x, rfl, (take_mem hx).2 (.inr rfl), hle, fun z hz hnz => ?_⟩
        rcases (take_mem hx).1 hz with h | rfl
        · have := h2 z h; omega
        · exact Nat.le_refl _
      · rw [if_neg (fun h => hle h.2)]
        refine .inl ⟨h1, fun z hz => ?_⟩
        rcases (take_mem hx).1 hz with h | rfl
        · exact h2 z h
        · omega
    · rw [if_neg (by omega)]
      refine .inr ⟨m, h1, (take_mem hx).2 (.inl h2), h3, fun z hz hnz => ?_⟩
      rcases (take_mem hx).1 hz with h | rfl
      · exact h4 z h hnz
      · exact Nat.le_of_lt (take_lt hp hx h2)

theorem hd_spec (p : Nat → Bool) (k s : Nat) : (hd (filt p k s) = -1 ∧ ∀ z, s ≤ z → z < s + k → p z = false) ∨ (∃ m : Nat, hd (filt p k s) = (m : Int) ∧ s ≤ m ∧ m < s + k ∧ p m = true ∧ ∀ z, s ≤ z → z < s + k → p z = true → m ≤ z) := by
  cases h : filt p k s with
  | nil =>
    refine .inl ⟨rfl, fun z h1 h2 => ?_⟩
    cases hz : p z with
    | false => rfl
    | true =>
      have := (mem_filt (p := p) (x := z) k s).2 ⟨h1, h2, hz⟩
      rw [h] at this
      cases this
  | cons m r =>
    have hm := (mem_filt (p := p) (x := m) k s).1 (by rw [h]; simp)
    refine .inr ⟨m, rfl, hm.1, hm.2.1, hm.2.2, fun z h1 h2 hz => ?_⟩
    have hz2 := (mem_filt (p := p) (x := z) k s).2 ⟨h1, h2, hz⟩
    rw [h] at hz2
    have hr := filt_rise p k s
    rw [h] at hr
    rcases List.mem_cons.1 hz2 with rfl | hz3
    · exact Nat.le_refl _
    · exact Nat.le_of_lt ((List.pairwise_cons.1 hr).1 z hz3)

theorem next_end {n : Int} {l : List Nat} : nextTo n (allOf l) (allOf l).length = nextI l n.toNat := by
  have hp : (allOf l).Pairwise (· < ·) := filt_rise (mem l) 65536 0
  have h1 := nextTo_spec (n := n) hp (allOf l).length (Nat.le_refl _)
  rw [List.take_length] at h1
  have h2 := hd_spec (mem l) (65536 - n.toNat) n.toNat
  have e : hd (filt (mem l) (65536 - n.toNat) n.toNat) = nextI l n.toNat := rfl
  rw [e] at h2
  rcases h1 with ⟨a1, a2⟩ | ⟨m, a1, a2, a3, a4⟩
  · rcases h2 with ⟨b1, b2⟩ | ⟨q, b1, b2, b3, b4, b5⟩
    · rw [a1, b1]
    · have := a2 q (mem_all.2 b4)
      omega
  · have hm := mem_all.1 a2
    have hml := mem_lt hm
    rcases h2 with ⟨b1, b2⟩ | ⟨q, b1, b2, b3, b4, b5⟩
    · rw [b2 m (by omega) (by omega)] at hm
      cases hm
    · have c1 := b5 m (by omega) (by omega) hm
      have c2 := a4 q (mem_all.2 b4) (by omega)
      rw [a1, b1]
      omega

/-- 'with' at the end, the number itself put behind it where it had not come. -/
def withEnd (n : Int) (L : List Nat) : List Nat := if hadTo n L L.length = true then withTo n L L.length else withTo n L L.length ++ [n.toNat]

theorem with_end {n : Int} {L : List Nat} (hp : L.Pairwise (· < ·)) (hlt : ∀ x ∈ L, x < 65536) :
    (withEnd n L).Pairwise (· < ·) ∧ (∀ x ∈ withEnd n L, x < 65536) ∧ ∀ y : Nat, y ∈ withEnd n L ↔ y ∈ L ∨ ((y : Int) = n ∧ y < 65536) := by
  obtain ⟨h0, h⟩ := with_spec (n := n) hp hlt L.length (Nat.le_refl _)
  rw [List.take_length] at h
  have key : (withEnd n L).Pairwise (· < ·) ∧ ∀ y : Nat, y ∈ withEnd n L ↔ y ∈ L ∨ ((y : Int) = n ∧ y < 65536) := by
    rcases h with ⟨ho, h1, h2⟩ | ⟨ho, h1, h2, _⟩ | ⟨ho, h1, h2, h3⟩
    · have h9 := out_true (n := n) ho
      unfold withEnd
      rw [if_pos h1]
      refine ⟨h0, fun y => ?_⟩
      rw [h2]
      constructor
      · intro h; exact .inl h
      · rintro (h | h)
        · exact h
        · omega
    · have h9 := out_false (n := n) ho
      unfold withEnd
      rw [if_pos h1]
      refine ⟨h0, fun y => ?_⟩
      rw [h2]
      constructor
      · rintro (h | h)
        · exact .inl h
        · exact .inr ⟨h, by omega⟩
      · rintro (h | h)
        · exact .inl h
        · exact .inr h.1
    · have h9 := out_false (n := n) ho
      unfold withEnd
      rw [if_neg (by rw [h1]; simp)]
      refine ⟨rise_snoc h0 fun y hy => by have := h3 y ((h2 y).1 hy); omega, fun y => ?_⟩
      rw [List.mem_append, h2, List.mem_singleton]
      constructor
      · rintro (h | h)
        · exact .inl h
        · exact .inr (by omega)
      · rintro (h | h)
        · exact .inl h
        · exact .inr (by omega)
  refine ⟨key.1, fun x hx => ?_, key.2⟩
  rcases (key.2 x).1 hx with h | h
  · exact hlt x h
  · exact h.2

theorem without_end {n : Int} {L : List Nat} (hp : L.Pairwise (· < ·)) :
    (withoutTo n L L.length).Pairwise (· < ·) ∧ ∀ y : Nat, y ∈ withoutTo n L L.length ↔ y ∈ L ∧ (y : Int) ≠ n := by
  have := without_spec (n := n) hp L.length (Nat.le_refl _)
  rw [List.take_length] at this
  exact this

/-! ### The sets that are made of them -/
theorem of_all_tidy {l r : List Nat} (hr : ∀ x ∈ r, x < 18446744073709551616) (tr : tl r = r.length) (h2 : ∀ n, mem r n = true ↔ n ∈ allOf l)
    (hof : tl (ofL ((allOf l).map Int.ofNat)) = (ofL ((allOf l).map Int.ofNat)).length) : ofL ((allOf l).map Int.ofNat) = r := by
  refine tidy_eq (ofL_lt _) hr hof tr fun n => ?_
  rw [Bool.eq_iff_iff, mem_of, h2 n, List.mem_map]
  constructor
  · rintro ⟨_, m, hm, e⟩
    have : m = n := Int.ofNat.inj e
    subst this
    exact hm
  · intro h
    exact ⟨mem_lt (mem_all.1 h), n, h, rfl⟩

/-- A set made of numbers is tidy. -/
theorem ofL_tidy (ns : List Int) : tl (ofL ns) = (ofL ns).length := by
  have hlen : (ofL ns).length = lgTo ns ns.length := ofTo_length _ _ _
  have hle := lgTo_le ns ns.length
  refine tl_tidy (by omega) ?_
  have key : ∀ j, j ≤ ns.length → lgTo ns j = 0 ∨ ∃ k : Nat, k < 65536 ∧ (k : Int) ∈ ns ∧ lgTo ns j = k / 64 + 1 := by
    intro j
    induction j with
    | zero => intro _; exact .inl rfl
    | succ j ih =>
      intro hj
      obtain ⟨x, hx⟩ : ∃ x, ns[j]? = some x := ⟨ns[j], List.getElem?_eq_getElem _⟩
      by_cases h : 0 ≤ x ∧ x < 65536
      · obtain ⟨k, rfl⟩ := Int.eq_ofNat_of_zero_le h.1
        rw [lgTo_yes hx (by omega)]
        by_cases hm : lgTo ns j ≤ k / 64 + 1
        · exact .inr ⟨k, by omega, List.mem_of_getElem? hx, Nat.max_eq_right hm⟩
        · rw [Nat.max_eq_left (by omega)]
          exact ih (by omega)
      · rw [lgTo_no hx h]
        exact ih (by omega)
  rcases key ns.length (Nat.le_refl _) with h | ⟨k, h1, h2, h3⟩
  · exact .inl (by rw [hlen, h])
  · right
    intro h0
    have := (mem_of ns k).2 ⟨h1, h2⟩
    unfold mem wd at this
    rw [if_pos (by omega), show k / 64 = (ofL ns).length - 1 by omega, h0, Nat.zero_testBit] at this
    cases this

theorem with_set {s l' r : List Nat} {n : Int} (hb : ∀ x ∈ l', x < 18446744073709551616) (hr : ∀ x ∈ r, x < 18446744073709551616) (t1 : tl l' = l'.length) (tr : tl r = r.length)
    (hw : ∀ i, wd l' i = wd s i ||| wd (ofL [n]) i) (hm : ∀ y, mem r y = true ↔ y ∈ withEnd n (allOf s)) : l' = r := by
  have hp : (allOf s).Pairwise (· < ·) := filt_rise (mem s) 65536 0
  have hlt : ∀ x ∈ allOf s, x < 65536 := fun x hx => mem_lt (mem_all.1 hx)
  refine tidy_eq hb hr t1 tr fun y => ?_
  rw [Bool.eq_iff_iff, hm, (with_end hp hlt).2.2 y, mem_all]
  have h1 : mem l' y = (mem s y || mem (ofL [n]) y) := by unfold mem; rw [hw, Nat.testBit_or]
  rw [h1, Bool.or_eq_true, mem_of, List.mem_singleton]
  constructor
  · rintro (h | ⟨h, h2⟩)
    · exact .inl h
    · exact .inr ⟨h2, h⟩
  · rintro (h | ⟨h, h2⟩)
    · exact .inl h
    · exact .inr ⟨h2, h⟩
theorem without_set {s l' r : List Nat} {n : Int} (hb : ∀ x ∈ l', x < 18446744073709551616) (hr : ∀ x ∈ r, x < 18446744073709551616) (t1 : tl l' = l'.length) (tr : tl r = r.length)
    (hw : ∀ i, wd l' i = lessF (ofL [n]) i (wd s i)) (hm : ∀ y, mem r y = true ↔ y ∈ withoutTo n (allOf s) (allOf s).length) : l' = r := by
  have hp : (allOf s).Pairwise (· < ·) := filt_rise (mem s) 65536 0
  refine tidy_eq hb hr t1 tr fun y => ?_
  rw [Bool.eq_iff_iff, hm, (without_end hp).2 y, mem_all, less_mem (ofL_lt _) hw y]
  unfold lessP
  rw [Bool.and_eq_true, Bool.not_eq_true']
  constructor
  · rintro ⟨h1, h2⟩
    refine ⟨h1, fun e => ?_⟩
    have := (mem_of [n] y).2 ⟨mem_lt h1, by rw [e]; simp⟩
    rw [h2] at this
    cases this
  · rintro ⟨h1, h2⟩
    refine ⟨h1, ?_⟩
    cases h : mem (ofL [n]) y with
    | false => rfl
    | true =>
      have := ((mem_of [n] y).1 h).2
      exact absurd (by simpa using this) h2

end Go.Proofs.YtfcdmkfbkkogbaaDoor.Bits
