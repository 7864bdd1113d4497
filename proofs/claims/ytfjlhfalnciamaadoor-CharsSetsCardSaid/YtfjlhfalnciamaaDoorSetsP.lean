/- The law CharsSets: long rows are told true at once; a clean set and the document's are one. -/
import Derived.Test.YtfjlhfalnciamaaDoorSetsN
namespace Go.Proofs.YtfjlhfalnciamaaDoor.Chars
open Go Go.RowKit Go.Proofs.Chars

/-- A clean set of those numbers is the document's. -/
theorem clean_is {O L : List Rg} {P : Int → Bool} (hc : Canon 0 O) (hO : ∀ r, memU O r ↔ 0 ≤ r ∧ r ≤ most ∧ P r = true) (hP : ∀ r, 0 < r → r ≤ 1114111 → r ∉ edgesE L → P r = P (r - 1)) :
    O = (pieces P (edgesE L)).foldl ofStep [] := by
  obtain ⟨h1, h2⟩ := clean_edges hP
  refine hc.uniq h1 fun r => ?_
  rw [← hc.memU, hO, h2]
  rfl
theorem memU_hasU (A : List Rg) (r : Int) : memU A r ↔ 0 ≤ r ∧ r ≤ most ∧ hasU A r = true := by
  rw [hasU_iff]
  exact ⟨fun h => ⟨h.1, h.2.1, h⟩, fun h => h.2.2⟩
/-- The five clean sets of the law: of a set, of both, of what is in both, of what is in one alone, of what is not. -/
theorem clean_of {A L O : List Rg} (hs : ∀ x ∈ A, x ∈ L) (h : IsOf A O) : O = (pieces (hasU A) (edgesE L)).foldl ofStep [] :=
  clean_is h.1 (fun r => by rw [h.1.memU, h.2]; exact memU_hasU A r) (fun r h0 h1 hn => hasU_change hs h0 h1 hn)
theorem clean_or {A B L O : List Rg} (hs : ∀ x ∈ A, x ∈ L) (ht : ∀ x ∈ B, x ∈ L) (hc : Canon 0 O) (h : ∀ r, memU O r ↔ memU A r ∨ memU B r) : O = (pieces (fun r => hasU A r || hasU B r) (edgesE L)).foldl ofStep [] :=
  clean_is hc (fun r => by rw [h, memU_hasU A, memU_hasU B]; simp only [Bool.or_eq_true]; exact ⟨fun h => h.elim (fun h => ⟨h.1, h.2.1, .inl h.2.2⟩) fun h => ⟨h.1, h.2.1, .inr h.2.2⟩, fun ⟨a, b, c⟩ => c.elim (fun c => .inl ⟨a, b, c⟩) fun c => .inr ⟨a, b, c⟩⟩)
    (fun r h0 h1 hn => by simp only [hasU_change hs h0 h1 hn, hasU_change ht h0 h1 hn])
theorem clean_and {A B L O : List Rg} (hs : ∀ x ∈ A, x ∈ L) (ht : ∀ x ∈ B, x ∈ L) (hc : Canon 0 O) (h : ∀ r, memU O r ↔ memU A r ∧ memU B r) : O = (pieces (fun r => hasU A r && hasU B r) (edgesE L)).foldl ofStep [] :=
  clean_is hc (fun r => by rw [h, memU_hasU A, memU_hasU B]; simp only [Bool.and_eq_true]; exact ⟨fun ⟨h, k⟩ => ⟨h.1, h.2.1, h.2.2, k.2.2⟩, fun ⟨a, b, c, d⟩ => ⟨⟨a, b, c⟩, a, b, d⟩⟩)
    (fun r h0 h1 hn => by simp only [hasU_change hs h0 h1 hn, hasU_change ht h0 h1 hn])
theorem clean_less {A B L O : List Rg} (hs : ∀ x ∈ A, x ∈ L) (ht : ∀ x ∈ B, x ∈ L) (hc : Canon 0 O) (h : ∀ r, memU O r ↔ memU A r ∧ ¬ memU B r) : O = (pieces (fun r => hasU A r && !hasU B r) (edgesE L)).foldl ofStep [] :=
  clean_is hc (fun r => by
    rw [h, memU_hasU A, ← hasU_iff B]
    cases hasU B r <;> simp)
    (fun r h0 h1 hn => by simp only [hasU_change hs h0 h1 hn, hasU_change ht h0 h1 hn])
theorem clean_not {A L O : List Rg} (hs : ∀ x ∈ A, x ∈ L) (hc : Canon 0 O) (h : ∀ r, memU O r ↔ 0 ≤ r ∧ r ≤ most ∧ ¬ memU A r) : O = (pieces (fun r => !hasU A r) (edgesE L)).foldl ofStep [] :=
  clean_is hc (fun r => by
    rw [h, ← hasU_iff A]
    cases hasU A r <;> simp)
    (fun r h0 h1 hn => by simp only [hasU_change hs h0 h1 hn])

set_option maxRecDepth 100000 in
theorem csets_long {w : World} {va vb : Value} {a b : List Rg} {r : Int} (Ha : Rgs w va a) (Hb : Rgs w vb b) (h : 20 < a.length ∨ 20 < b.length) :
    Calls Tryd.prog 3 #[va, vb, .int .i32 r] w fun e w' => e = .returned (.bool true) ∧ Below w.heap.size w w' := by
  have HLA := Ha.len 3 w
  have HLB := Hb.len 3 w
  clear Ha Hb
  by_cases ha : 20 < a.length
  · have h1 : (20 : Int) < a.length := by omega
    have h2 : decide ((20 : Int) < a.length) = true := decide_eq_true h1
    clear h
    go_enter Tryd.func3, Tryd.ntmps3
    go_wp2
    go_ret
    exact ⟨rfl, Below.refl _ _⟩
  · have h1 : ¬ (20 : Int) < a.length := by omega
    have h2 : decide ((20 : Int) < a.length) = false := decide_eq_false h1
    have h3 : (20 : Int) < b.length := by omega
    have h4 : decide ((20 : Int) < b.length) = true := decide_eq_true h3
    clear h
    go_enter Tryd.func3, Tryd.ntmps3
    go_wp2
    go_ret
    exact ⟨rfl, Below.refl _ _⟩

end Go.Proofs.YtfjlhfalnciamaaDoor.Chars
