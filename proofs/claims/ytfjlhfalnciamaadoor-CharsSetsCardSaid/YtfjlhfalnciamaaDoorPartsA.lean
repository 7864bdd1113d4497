/- What the parts of three sets are: plain maths (package chars). -/
import Derived.Test.YtfjlhfalnciamaaDoorCharsD
namespace Go.Proofs.Chars

/-- The parts by borders in order. -/
def partsOf : List (Int × Int) → List Rg
  | [] => []
  | y :: l => partsGo y.1 y.2 l
theorem tot_borders (O : List Rg) : tot (borders O) = 0 := by
  induction O with
  | nil => rfl
  | cons x l ih =>
    have e : borders (x :: l) = [(x.1, 1), (x.2 + 1, -1)] ++ borders l := rfl
    rw [e, tot_app, ih]
    simp [tot]
theorem tot_perm {l m : List (Int × Int)} (h : l.Perm m) : tot l = tot m := by
  induction h with
  | nil => rfl
  | cons x _ ih => rw [tot, tot, ih]
  | swap x y l => rw [tot, tot, tot, tot]; omega
  | trans _ _ h1 h2 => rw [h1, h2]
/-- Where something may change. -/
theorem agree_upto {P : Int → Prop} {e f : Int} (h : ∀ r, e < r → r ≤ f → (P r ↔ P (r - 1))) : ∀ r, e ≤ r → r ≤ f → (P r ↔ P e) := by
  intro r hr hf
  obtain ⟨n, hn⟩ : ∃ n : Nat, r = e + (n : Int) := ⟨(r - e).toNat, by omega⟩
  subst hn
  clear hr
  induction n with
  | zero => simp
  | succ n ih =>
    have h1 := h (e + ((n + 1 : Nat) : Int)) (by omega) hf
    rw [show e + ((n + 1 : Nat) : Int) - 1 = e + (n : Int) by omega] at h1
    exact h1.trans (ih (by omega))
/-- What the parts of sets are. -/
structure PartsP (S : List (List Rg)) (l : List Rg) : Prop where
  mem : ∀ r, memC l r ↔ ∃ O ∈ S, memC O r
  asc : ∃ b, 0 ≤ b ∧ Asc b l
  whole : ∀ z ∈ l, z.1 ≤ z.2 ∧ ∀ O ∈ S, ∀ r, z.1 ≤ r → r ≤ z.2 → (memC O r ↔ memC O z.1)
  split : ∀ z ∈ l, ∃ O ∈ S, ¬ (memC O z.1 ↔ memC O (z.1 - 1))
  top : ∀ z ∈ l, 0 ≤ z.1 ∧ z.2 ≤ most
theorem border_in {O : List Rg} (hc : Canon 0 O) {y : Int × Int} (hy : y ∈ borders O) : 0 ≤ y.1 ∧ y.1 ≤ most + 1 := by
  rcases border_changes O 0 hc y hy with ⟨h, _⟩ | ⟨_, h⟩
  · have := hc.mem_in h
    omega
  · have := hc.mem_in h
    omega
theorem parts_of {S : List (List Rg)} (hS : ∀ O ∈ S, Canon 0 O) {Q : List (Int × Int)} (hp : Q.Perm (S.flatMap borders)) (hr : RiseB 0 Q) : PartsP S (partsOf Q) := by
  have hmemQ : ∀ y, y ∈ Q ↔ ∃ O ∈ S, y ∈ borders O := fun y => by rw [hp.mem_iff, List.mem_flatMap]
  have htot : tot Q = 0 := by
    rw [tot_perm hp]
    clear hp hmemQ hr
    induction S with
    | nil => rfl
    | cons O S ih =>
      rw [List.flatMap_cons, tot_app, tot_borders, ih fun O hO => hS O (List.mem_cons_of_mem _ hO)]
      rfl
  have hdep : ∀ v, 0 < dep Q v ↔ ∃ O ∈ S, memC O v := by
    intro v
    rw [dep_perm hp]
    clear hp hmemQ hr htot
    have key : (0 ≤ dep (S.flatMap borders) v) ∧ (0 < dep (S.flatMap borders) v ↔ ∃ O ∈ S, memC O v) := by
      induction S with
      | nil => simp [dep]
      | cons O S ih =>
        obtain ⟨i1, i2⟩ := ih fun O hO => hS O (List.mem_cons_of_mem _ hO)
        have h1 := dep_borders O 0 (hS O List.mem_cons_self) v
        rw [List.flatMap_cons, dep_app, h1]
        by_cases hm : memC O v
        · rw [if_pos hm]
          exact ⟨by omega, fun _ => ⟨O, List.mem_cons_self, hm⟩, fun _ => by omega⟩
        · rw [if_neg hm]
          refine ⟨by omega, fun h => ?_, fun h => ?_⟩
          · obtain ⟨O', h2, h3⟩ := i2.1 (by omega)
            exact ⟨O', List.mem_cons_of_mem _ h2, h3⟩
          · obtain ⟨O', h2, h3⟩ := h
            rcases List.mem_cons.1 h2 with rfl | h2
            · exact absurd h3 hm
            · have := i2.2 ⟨O', h2, h3⟩
              omega
    exact key.2
  cases Q with
  | nil =>
    refine ⟨fun r => ?_, ⟨0, Int.le_refl _, trivial⟩, fun z hz => by simp [partsOf] at hz, fun z hz => by simp [partsOf] at hz, fun z hz => by simp [partsOf] at hz⟩
    rw [← hdep r]
    simp [partsOf, memC_nil, dep]
  | cons y l =>
    have hpo := parts_ok l [y] y.1 (fun x hx => by simp at hx; subst hx; exact Int.le_refl _) hr.2
    have ht : tot [y] = y.2 := by simp [tot]
    rw [ht] at hpo
    obtain ⟨h1, h2, h3⟩ := hpo
    have e0 : [y] ++ l = y :: l := rfl
    rw [e0] at h1 h3
    show PartsP S (partsGo y.1 y.2 l)
    have hborder : ∀ z ∈ partsGo y.1 y.2 l, ∃ x ∈ y :: l, z.1 = x.1 := fun z hz => by
      rcases (h3 z hz).1 with h | ⟨x, hx, h⟩
      · exact ⟨y, List.mem_cons_self, h⟩
      · exact ⟨x, List.mem_cons_of_mem _ hx, h⟩
    refine ⟨fun r => ?_, ⟨y.1, hr.1, h2⟩, fun z hz => ⟨(h3 z hz).2.2.1.2, fun O hO r hr1 hr2 => ?_⟩, fun z hz => ?_, fun z hz => ?_⟩
    · rw [h1 r, ← hdep r]
      constructor
      · exact fun h => h.2.2
      · intro h
        refine ⟨?_, ?_, h⟩
        · rcases Int.lt_or_le r y.1 with hlt | hle
          · have := dep_none (l := y :: l) (v := r) (fun x hx => by
              rcases List.mem_cons.1 hx with rfl | hx
              · exact hlt
              · have := hr.2.low x hx
                omega)
            omega
          · exact hle
        · apply Classical.byContradiction
          intro hno
          have hall : ∀ x ∈ y :: l, x.1 ≤ r := by
            intro x hx
            rcases Int.lt_or_le r x.1 with hlt | hle
            · exfalso
              rcases List.mem_cons.1 hx with rfl | hx
              · have := dep_none (l := x :: l) (v := r) (fun x' hx' => by
                  rcases List.mem_cons.1 hx' with rfl | hx'
                  · exact hlt
                  · have := hr.2.low x' hx'
                    omega)
                omega
              · exact hno ⟨x, hx, hlt⟩
            · exact hle
          rw [dep_all hall, htot] at h
          omega
    · refine agree_upto (P := fun r => memC O r) (e := z.1) (f := z.2) (fun q hq1 hq2 => no_border O q fun b hb e => ?_) r hr1 hr2
      exact (h3 z hz).2.2.2 b ((hmemQ b).2 ⟨O, hO, hb⟩) ⟨by omega, by omega⟩
    · obtain ⟨x, hx, e⟩ := hborder z hz
      obtain ⟨O, hO, hb⟩ := (hmemQ x).1 hx
      refine ⟨O, hO, fun hiff => ?_⟩
      rw [e] at hiff
      rcases border_changes O 0 (hS O hO) x hb with ⟨a, b⟩ | ⟨a, b⟩
      · exact b (hiff.1 a)
      · exact a (hiff.2 b)
    · obtain ⟨x, hx, e⟩ := hborder z hz
      obtain ⟨O, hO, hb⟩ := (hmemQ x).1 hx
      obtain ⟨x2, hx2, e2⟩ := (h3 z hz).2.1
      obtain ⟨O2, hO2, hb2⟩ := (hmemQ x2).1 (List.mem_cons_of_mem _ hx2)
      have a1 := border_in (hS O hO) hb
      have a2 := border_in (hS O2 hO2) hb2
      omega
theorem asc_next : ∀ {l : List Rg} {b : Int}, Asc b l → ∀ {i : Nat} {x y : Rg}, l[i]? = some x → l[i + 1]? = some y → x.2 < y.1
  | [], _, _, i, x, y, h, _ => by simp at h
  | z :: l, b, ha, 0, x, y, h, h2 => by
    simp at h h2
    subst h
    cases l with
    | nil => simp at h2
    | cons w l =>
      simp at h2
      subst h2
      have := ha.2.2.1
      omega
  | z :: l, b, ha, i + 1, x, y, h, h2 => by
    simp at h h2
    exact asc_next ha.2.2 h h2
/-- How many numbers a set and a range have both, where all or none of the range are the set's. -/
theorem count_part {a A D : List Rg} (ha : IsOf a A) {z : Rg} (h0 : 0 ≤ z.1) (h1 : z.1 ≤ z.2) (h2 : z.2 ≤ most) (hw : ∀ r, z.1 ≤ r → r ≤ z.2 → (memC A r ↔ memC A z.1)) {o : List Rg} (hD : IsOf o D) (ho : ∀ r, memU o r ↔ memU a r ∧ memU [z] r) :
    countC D = 0 ∨ countC D = z.2 - z.1 + 1 := by
  by_cases hm : memC A z.1
  · right
    have hc : Canon 0 [z] := ⟨h0, h1, h2, trivial⟩
    have : D = [z] := hD.uniq hc.isOf fun r => by
      rw [ho r]
      constructor
      · exact fun h => h.2
      · intro h0
        have h := (hc.memU r).1 h0
        have hz : z.1 ≤ r ∧ r ≤ z.2 := by
          rcases (memC_cons z [] r).1 h with h | h
          · exact h
          · exact absurd h (by rw [memC_nil]; exact id)
        exact ⟨(ha.2 r).1 ((hw r hz.1 hz.2).2 hm), h0⟩
    rw [this]
    simp [countC]
  · left
    have : D = [] := (empty_is hD).2 fun r hr => by
      obtain ⟨h3, h4⟩ := (ho r).1 hr
      obtain ⟨_, _, x, hx, h5⟩ := h4
      simp at hx
      subst hx
      exact hm ((hw r h5.1 h5.2).1 ((ha.2 r).2 h3))
    rw [this]
    rfl

end Go.Proofs.Chars
