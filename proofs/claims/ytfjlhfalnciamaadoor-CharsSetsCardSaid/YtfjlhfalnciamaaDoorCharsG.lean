/- Rows of ranges, sorted. -/
import Derived.Test.YtfjlhfalnciamaaDoorCharsF
namespace Go.Proofs.YtfjlhfalnciamaaDoor.Chars
open Go Go.RowKit Go.Proofs.Chars Go.Sort Go.Shelf

theorem flat_rcells (L : List Rg) : (flatK encR 2 L.toArray).toList = rcells L := by
  apply List.ext_getElem?
  intro j
  by_cases hj : j < L.length * 2
  · have h1 : (flatK encR 2 L.toArray)[j]! = (encR L.toArray[j / 2]!)[j % 2]! := get_flatK encR 2 L.toArray j (by simpa using hj)
    have hd : j / 2 < L.length := by omega
    have hx : L[j / 2]? = some L[j / 2] := List.getElem?_eq_getElem hd
    have hg := rcells_get hx
    have e0 : L.toArray[j / 2]! = L[j / 2] := by simp [hd]
    rw [e0] at h1
    have hs : j < (flatK encR 2 L.toArray).size := by simpa using hj
    rw [Array.getElem?_toList, Array.getElem?_eq_getElem hs, ← getElem!_pos _ j hs, h1]
    rcases Nat.mod_two_eq_zero_or_one j with h | h
    · have ej : j = j / 2 * 2 := by omega
      have e2 := hg.1
      rw [← ej] at e2
      rw [h, e2]; rfl
    · have ej : j = j / 2 * 2 + 1 := by omega
      have e2 := hg.2
      rw [← ej] at e2
      rw [h, e2]; rfl
  · rw [List.getElem?_eq_none (by simp; omega), List.getElem?_eq_none (by rw [rcells_len]; omega)]
theorem heap_sortedK {w : World} {g n : Nat} {os : Array Obj} {cur : Array Value} {e : TypeId} (d : Array Rg) (hb : w.heap[g]? = some (.cells cur e (0, 0))) :
    (sortWorldK encR 2 w g 0 n d os).heap[g]? = some (.cells (putCells id 0 (flatK encR 2 d) cur) e (0, 0)) := by
  have hlt : g < w.heap.size := (Array.getElem?_eq_some_iff.1 hb).1
  unfold sortWorldK grow putRowK putRow mapBlock Sort.ahead
  simp only []
  rw [Array.getElem?_append_left (by simpa using hlt), Array.getElem?_modify, if_pos rfl, hb]
  rfl
theorem take_flat (cur : Array Value) (ts : List Rg) (h : ts.length * 2 ≤ cur.size) : (putCells id 0 (flatK encR 2 ts.toArray) cur).toList.take (ts.length * 2) = rcells ts := by
  rw [← flat_rcells]
  apply List.ext_getElem?
  intro j
  have hsz : (flatK encR 2 ts.toArray).size = ts.length * 2 := by simp
  by_cases hj : j < ts.length * 2
  · rw [List.getElem?_take_of_lt hj, Array.getElem?_toList, Array.getElem?_toList]
    have hjs : j < (flatK encR 2 ts.toArray).size := by omega
    rw [putCells, Array.getElem?_mapIdx, Array.getElem?_eq_getElem (show j < cur.size by omega), Array.getElem?_eq_getElem hjs]
    simp only [Option.map_some]
    rw [if_pos ⟨Nat.zero_le _, by omega⟩, Nat.sub_zero, getElem!_pos _ j hjs]
    rfl
  · rw [List.getElem?_take_eq_none (by omega), List.getElem?_eq_none (by rw [Array.length_toList, hsz]; omega)]
/-- A row that is not empty, as the sort wants it. -/
theorem Rowed.holds {w : World} {S : Nat} {v : Value} {L : List Rg} (h : Rowed w S v L) (hne : 0 < L.length) :
    ∃ g cap, v = .slice (some ⟨g, 0, none⟩) L.length cap ∧ HoldsK encR 2 w g 0 L.toArray ∧ g < w.heap.size ∧ S ≤ g ∧
      ∀ n (L' : List Rg) os, L'.length = L.length → Rowed (sortWorldK encR 2 w g 0 n L'.toArray os) S v L' := by
  rcases h.2 with ⟨_, h0⟩ | ⟨g, cap, cur, hv, h1, h3, h4, h5, h6, h7⟩
  · omega
  · refine ⟨g, cap, hv, fun j hj => ?_, (Array.getElem?_eq_some_iff.1 h3).1, h1, fun n L' os hl => ?_⟩
    · have hs : j < L.length * 2 := by simpa using hj
      have e : (flatK encR 2 L.toArray)[j]! = (rcells L)[j]'(by rw [rcells_len]; exact hs) := by
        rw [getElem!_pos _ j hj, ← Array.getElem_toList (h := hj)]
        simp only [flat_rcells]
      have hc := World.ownsRow.cells h (g := g) (by rw [hv]; rfl) j _ (List.getElem?_eq_getElem (by rw [rcells_len]; exact hs))
      rw [addr_add] at hc
      refine ⟨by rw [Nat.zero_add, e]; exact hc, by simp [World.frozen?, h3]⟩
    · have hb := heap_sortedK (n := n) (os := os) L'.toArray h3
      refine ⟨by rw [rcells_len], .inr ⟨g, cap, _, by rw [hv, hl], h1, hb, by omega, h5, by simp [putCells, h6], ?_⟩⟩
      rw [hl]
      rw [← hl]
      exact take_flat cur L' (by rw [hl, h6]; exact Nat.mul_le_mul_right 2 h4)
theorem below_sorted {w : World} {S g n : Nat} {os : Array Obj} {d : Array Rg} (hS : S ≤ g) (hg : g < w.heap.size) : RowKit.Below S w (sortWorldK encR 2 w g 0 n d os) := by
  refine ⟨rfl, rfl, rfl, by unfold sortWorldK; simp [grow, putRowK, putRow, mapBlock, Sort.ahead], fun k hk => ?_⟩
  unfold sortWorldK grow putRowK putRow mapBlock Sort.ahead
  simp only []
  rw [Array.getElem?_append_left (by simpa using (show k < w.heap.size by omega)), Array.getElem?_modify, if_neg (by omega)]

theorem rising_of : ∀ (l : List Rg), (∀ i j, (hij : i < j) → (h : j < l.length) → (l[i]'(by omega)).1 ≤ l[j].1) → Rising l
  | [], _ => trivial
  | x :: l, h => ⟨fun y hy => by
      obtain ⟨j, hj, rfl⟩ := List.mem_iff_getElem.1 hy
      exact h 0 (j + 1) (by omega) (by simpa using hj), rising_of l fun i j hij hj => by
      have := h (i + 1) (j + 1) (by omega) (by simpa using hj)
      simpa using this⟩
/-- A row of ranges, sorted. -/
theorem sort_row {w : World} {S : Nat} {v : Value} {M : List Rg} (h : Rowed w S v M) (hM : M.length ≤ 1000000) :
    Calls Tryd.prog 42 #[v, .func (.func 43) #[] #[]] w fun e w' => e = .returned (.tuple #[]) ∧ ∃ M', M'.Perm M ∧ Rising M' ∧ Rowed w' S v M' ∧ RowKit.Below S w w' := by
  by_cases hne : 0 < M.length
  · obtain ⟨g, cap, rfl, hH, hg, hS, hrow⟩ := h.holds hne
    refine (sort_any g cap M.toArray w hH hg (by simpa using hM)).mono ?_
    rintro e w' ⟨rfl, d', n, os, hp, hs, rfl⟩
    have hsz : d'.size = M.length := by simpa using hp.1
    have hl : d'.toList.length = M.length := by simpa using hsz
    have hd : d'.toList.toArray = d' := by simp
    refine ⟨rfl, d'.toList, ?_, rising_of _ fun i j hij hj => ?_, ?_, below_sorted hS hg⟩
    · have := hp.2.2
      simp only [List.size_toArray] at this
      rw [← hsz] at this
      simp [hsz] at this
      rwa [List.take_of_length_le (by simp; omega)] at this
    · have hj' : j < M.length := by rw [← hl]; exact hj
      have := hs i j (Nat.zero_le _) hij (by simpa using hj')
      rw [lt_lo] at this
      have hi2 : i < d'.size := by omega
      have hj2 : j < d'.size := by omega
      rw [getElem!_pos d' j hj2, getElem!_pos d' i hi2] at this
      simp at this
      simpa using this
    · have := hrow n d'.toList os hl
      rwa [hd] at this
  · have hM0 : M = [] := by cases M with | nil => rfl | cons x l => simp at hne
    subst hM0
    rcases h.2 with ⟨rfl, _⟩ | ⟨g, cap, cur, rfl, h1, h3, h4, h5, h6, h7⟩
    · refine (sort_none w).mono ?_
      rintro e w' ⟨rfl, rfl⟩
      exact ⟨rfl, [], .refl _, trivial, h, RowKit.Below.refl _ _⟩
    · have hg := (Array.getElem?_eq_some_iff.1 h3).1
      refine (sort_any g cap #[] w (fun j hj => by simp at hj) hg (by simp)).mono ?_
      rintro e w' ⟨rfl, d', n, os, hp, hs, rfl⟩
      have hsz : d' = #[] := by have := hp.1; simpa using this
      subst hsz
      refine ⟨rfl, [], .refl _, trivial, ?_, below_sorted h1 hg⟩
      have hb := heap_sortedK (n := n) (os := os) #[] h3
      exact ⟨rfl, .inr ⟨g, cap, _, rfl, h1, hb, h4, h5, by simp [putCells, h6], by simp [rcells]⟩⟩

end Go.Proofs.YtfjlhfalnciamaaDoor.Chars
