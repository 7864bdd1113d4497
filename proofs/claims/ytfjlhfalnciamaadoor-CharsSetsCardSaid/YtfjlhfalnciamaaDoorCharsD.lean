/- What sets are, and the laws of sets: plain maths (package chars). -/
import Derived.Test.YtfjlhfalnciamaaDoorCharsC
namespace Go.Proofs.Chars

/-- The numbers of ranges in any order. -/
def memU (l : List Rg) (r : Int) : Prop := 0 ≤ r ∧ r ≤ most ∧ ∃ x ∈ l, x.1 ≤ r ∧ r ≤ x.2
instance (l : List Rg) (r : Int) : Decidable (memU l r) := by unfold memU; infer_instance
/-- The set of ranges. -/
def IsOf (l O : List Rg) : Prop := Canon 0 O ∧ ∀ r, memC O r ↔ memU l r
theorem IsOf.uniq {l m O Q : List Rg} (h : IsOf l O) (h2 : IsOf m Q) (e : ∀ r, memU l r ↔ memU m r) : O = Q :=
  h.1.uniq h2.1 fun r => by rw [h.2, h2.2, e]
theorem IsOf.same {l m O Q : List Rg} (h : IsOf l O) (h2 : IsOf m Q) : O = Q ↔ ∀ r, memU l r ↔ memU m r :=
  ⟨fun e r => by rw [← h.2, ← h2.2, e], h.uniq h2⟩
theorem Canon.memU {O : List Rg} (h : Canon 0 O) (r : Int) : memU O r ↔ memC O r :=
  ⟨fun hm => hm.2.2, fun hm => ⟨(h.mem_in hm).1, (h.mem_in hm).2, hm⟩⟩
theorem Canon.isOf {O : List Rg} (h : Canon 0 O) : IsOf O O := ⟨h, fun r => (h.memU r).symm⟩
theorem memU_app (l m : List Rg) (r : Int) : memU (l ++ m) r ↔ memU l r ∨ memU m r := by
  have := memC_app l m r
  unfold memC at this
  unfold memU
  rw [this]
  constructor
  · rintro ⟨a, b, c | c⟩
    · exact .inl ⟨a, b, c⟩
    · exact .inr ⟨a, b, c⟩
  · rintro (⟨a, b, c⟩ | ⟨a, b, c⟩)
    · exact ⟨a, b, .inl c⟩
    · exact ⟨a, b, .inr c⟩
theorem memU_perm {l m : List Rg} (h : l.Perm m) (r : Int) : memU l r ↔ memU m r := by
  unfold memU
  constructor
  · rintro ⟨a, b, x, hx, c⟩
    exact ⟨a, b, x, h.mem_iff.1 hx, c⟩
  · rintro ⟨a, b, x, hx, c⟩
    exact ⟨a, b, x, h.mem_iff.2 hx, c⟩
/-- The ranges that Of takes: cut to what is a number of a set. -/
def cutR (l : List Rg) : List Rg := (l.map fun x => (max x.1 0, min x.2 most)).filter fun x => decide (x.1 ≤ x.2)
theorem cutR_ok (l : List Rg) : (∀ x ∈ cutR l, 0 ≤ x.1 ∧ x.1 ≤ x.2 ∧ x.2 ≤ most) ∧ ∀ r, memC (cutR l) r ↔ memU l r := by
  constructor
  · intro x hx
    have h := List.mem_filter.1 hx
    obtain ⟨y, _, rfl⟩ := List.mem_map.1 h.1
    have h2 := of_decide_eq_true h.2
    exact ⟨by show 0 ≤ max y.1 0; omega, h2, by show min y.2 most ≤ most; omega⟩
  · intro r
    constructor
    · rintro ⟨x, hx, h1, h2⟩
      obtain ⟨y, hy, rfl⟩ := List.mem_map.1 (List.mem_filter.1 hx).1
      have h3 : max y.1 0 ≤ r := h1
      have h4 : r ≤ min y.2 most := h2
      exact ⟨by omega, by omega, y, hy, by omega, by omega⟩
    · rintro ⟨h1, h2, x, hx, h3, h4⟩
      refine ⟨(max x.1 0, min x.2 most), List.mem_filter.2 ⟨List.mem_map.2 ⟨x, hx, rfl⟩, decide_eq_true ?_⟩, ?_, ?_⟩
      · show max x.1 0 ≤ min x.2 most; omega
      · show max x.1 0 ≤ r; omega
      · show r ≤ min x.2 most; omega
/-- What Of gives: ranges cut, by their beginnings in whatever way, and put together. -/
theorem of_is {l s : List Rg} (hp : s.Perm (cutR l)) (hs : Rising s) : IsOf l (s.foldl ofStep []) := by
  obtain ⟨h1, h2⟩ := cutR_ok l
  obtain ⟨k1, k2⟩ := of_ok s [] trivial hs (fun x hx => h1 x (hp.mem_iff.1 hx)) (fun c hc => by simp at hc)
  refine ⟨k1, fun r => ?_⟩
  rw [k2, memC_nil, false_or, ← h2]
  unfold memC
  constructor
  · rintro ⟨x, hx, c⟩
    exact ⟨x, hp.mem_iff.1 hx, c⟩
  · rintro ⟨x, hx, c⟩
    exact ⟨x, hp.mem_iff.2 hx, c⟩
/-- The set of both. -/
theorem and_is {a b A B : List Rg} (ha : IsOf a A) (hb : IsOf b B) : Canon 0 (andGo A B) ∧ ∀ r, memU (andGo A B) r ↔ memU a r ∧ memU b r := by
  obtain ⟨h1, h2⟩ := and_ok A B ha.1 hb.1
  have h3 : Canon 0 (andGo A B) := h1.mono (by omega)
  exact ⟨h3, fun r => by rw [h3.memU, h2, ha.2, hb.2]⟩
/-- The numbers that a set has not. -/
theorem not_is {a A : List Rg} (ha : IsOf a A) : Canon 0 (notGo 0 A) ∧ ∀ r, memU (notGo 0 A) r ↔ 0 ≤ r ∧ r ≤ most ∧ ¬ memU a r := by
  obtain ⟨h1, h2⟩ := not_ok A 0 ha.1
  exact ⟨h1, fun r => by rw [h1.memU, h2, ha.2]⟩
theorem empty_is {a A : List Rg} (ha : IsOf a A) : A = [] ↔ ∀ r, ¬ memU a r := by
  constructor
  · rintro rfl r hr
    exact (memC_nil r).1 ((ha.2 r).2 hr)
  · intro h
    cases A with
    | nil => rfl
    | cons x l =>
      have := (ha.2 x.1).1 ((memC_cons x l _).2 (.inl ⟨Int.le_refl _, ha.1.2.1⟩))
      exact (h _ this).elim
theorem count_is {a A : List Rg} (ha : IsOf a A) : countC A = card (fun i => decide (memU a (i : Int))) 1114112 := by
  have h : ∀ n, card (memB A) n = card (fun i => decide (memU a (i : Int))) n := fun n => card_same fun i _ => by
    unfold memB
    exact decide_eq_decide.2 (ha.2 i)
  rw [count_card A 0 ha.1 (Int.le_refl _), h]
/-- As many in any of two sets, and in both, as in each. -/
theorem count_both {a b c d A B C D : List Rg} (ha : IsOf a A) (hb : IsOf b B) (hc : IsOf c C) (hd : IsOf d D) (h1 : ∀ r, memU c r ↔ memU a r ∨ memU b r) (h2 : ∀ r, memU d r ↔ memU a r ∧ memU b r) :
    countC C + countC D = countC A + countC B := by
  rw [count_is ha, count_is hb, count_is hc, count_is hd]
  have h := card_or (fun i => decide (memU a (i : Int))) (fun i => decide (memU b (i : Int))) 1114112
  have e1 : card (fun i => decide (memU c (i : Int))) 1114112 = card (fun i => decide (memU a (i : Int)) || decide (memU b (i : Int))) 1114112 := by
    apply card_same
    intro i _
    rw [Bool.eq_iff_iff, Bool.or_eq_true, decide_eq_true_iff, decide_eq_true_iff, decide_eq_true_iff, h1]
  have e2 : card (fun i => decide (memU d (i : Int))) 1114112 = card (fun i => decide (memU a (i : Int)) && decide (memU b (i : Int))) 1114112 := by
    apply card_same
    intro i _
    rw [Bool.eq_iff_iff, Bool.and_eq_true, decide_eq_true_iff, decide_eq_true_iff, decide_eq_true_iff, h2]
  rw [e1, e2]
  omega

/-- The set that the laws ask of. -/
theorem known_canon : Canon 0 [(95, 95), (97, 99)] := by simp [Canon, most]
theorem known_is {O : List Rg} (h : IsOf [(97, 99), (95, 95)] O) : O = [(95, 95), (97, 99)] :=
  h.uniq known_canon.isOf fun r => memU_perm (List.Perm.swap _ _ _) r
theorem all_is {O : List Rg} (h : IsOf [(0, most)] O) : O = [(0, most)] :=
  h.uniq (Canon.isOf (O := [(0, most)]) (by simp [Canon, most])) fun _ => Iff.rfl
theorem all_count : countC [(0, most)] = 1114112 := by simp [countC, most]

end Go.Proofs.Chars
