/- Borders in memory: rows of them, sorted. -/
import Derived.Test.YtfjlhfalnciamaaDoorCharsI
import Derived.Test.YtfjlhfalnciamaaDoorPartsM
import Derived.Shelf.SlSortCmp.NoneTotal
namespace Go.Proofs.YtfjlhfalnciamaaDoor.Chars
open Go Go.RowKit Go.Proofs.Chars Go.Sort Go.Shelf

abbrev Bd := Int × Int
def encB (x : Bd) : List Value := [.int .i32 x.1, .int .i64 x.2]
def bcells (L : List Bd) : List Value := L.flatMap encB
theorem bcells_len (L : List Bd) : (bcells L).length = L.length * 2 := by
  induction L with
  | nil => rfl
  | cons x r ih => simp only [bcells, List.flatMap_cons, List.length_append] at ih ⊢; rw [ih]; simp [encB]; omega
theorem bcells_append (L M : List Bd) : bcells (L ++ M) = bcells L ++ bcells M := by simp [bcells]
theorem bcells_get {L : List Bd} {i : Nat} {x : Bd} (h : L[i]? = some x) : (bcells L)[i * 2]? = some (.int .i32 x.1) ∧ (bcells L)[i * 2 + 1]? = some (.int .i64 x.2) := by
  induction L generalizing i with
  | nil => cases h
  | cons y r ih =>
    cases i with
    | zero => simp at h; subst h; simp [bcells, encB]
    | succ i =>
      simp at h
      have := ih h
      simp only [bcells, List.flatMap_cons] at this ⊢
      rw [show (i + 1) * 2 = i * 2 + 2 by omega, show i * 2 + 2 + 1 = i * 2 + 1 + 2 by omega]
      rw [List.getElem?_append_right (by simp [encB]), List.getElem?_append_right (by simp [encB])]
      simpa [encB] using this
/-- A row of borders that the call made. -/
def BRow (w : World) (S : Nat) (v : Value) (L : List Bd) : Prop := w.ownsRow S 91 2 v L.length (bcells L)
theorem closureB_any (x y : Bd) (W : World) : Calls Tryd.prog 50 #[.agg #[.int .i32 x.1, .int .i64 x.2], .agg #[.int .i32 y.1, .int .i64 y.2]] W fun e w' => e = .returned (.int .i64 (cmpN x.1 y.1)) ∧ ∃ q os', w' = grow (W.drewN q) os' := by
  have hcon := fun W' => compare_any x.1 y.1 W'
  generalize cmpN x.1 y.1 = r at hcon ⊢
  go_enter Tryd.func50, Tryd.ntmps50
  go_wp2_with (go_at_call 44; refine (hcon _).mono ?_; rintro e w' ⟨rfl, rfl⟩)
  go_ret
  exact ⟨rfl, 0, _, by rw [alloc_eq_grow, alloc_eq_grow, grow_grow]; rfl⟩
theorem lt_at (x y : Bd) : ltOf (fun x y : Bd => cmpN x.1 y.1) x y = decide (x.1 < y.1) := by
  unfold ltOf cmpN
  by_cases h1 : x.1 < y.1
  · simp [h1]
  · by_cases h2 : y.1 < x.1 <;> simp [h1, h2]
theorem swo_at : SWO (ltOf fun x y : Bd => cmpN x.1 y.1) where
  irrefl x := by rw [lt_at]; simp
  trans x y z h1 h2 := by rw [lt_at] at *; simp at *; omega
  ntrans x y z h1 h2 := by rw [lt_at] at *; simp at *; omega
/-- slices.SortFunc, at borders that lie in a row. -/
theorem sortB_any (g cap : Nat) (d : Array Bd) (w : World) (hH : HoldsK encB 2 w g 0 d) (hblk : g < w.heap.size) (hsz : d.size ≤ 1000000) :
    Calls Tryd.prog 49 #[.slice (some ⟨g, 0, none⟩) d.size cap, .func (.func 50) #[] #[]] w fun e w' => e = .returned (.tuple #[]) ∧ ∃ d' n os, PermIn 0 d.size d d' ∧ SortedIn (ltOf fun x y : Bd => cmpN x.1 y.1) 0 d.size d' ∧ w' = sortWorldK encB 2 w g 0 n d' os := by
  have eg : ∀ args w, (callFunc 50 args).run Tryd.prog w = .ok (.enter 50 args) w := enters_of Tryd.func50 (by kernel_rfl) rfl
  exact AnyQ.slices_SortFunc Tryd.sortB 2 Tryd.isAgg91 Tryd.sizeOf91 encB (fun _ => rfl) (fun x v hv => by simp [encB] at hv; rcases hv with rfl | rfl <;> rfl) (fun x y : Bd => cmpN x.1 y.1) swo_at 50 #[] g 0 cap d w eg (fun _ _ _ _ x y => closureB_any x y _) hH hblk (by omega)
def RisingB : List Bd → Prop
  | [] => True
  | x :: l => (∀ y ∈ l, x.1 ≤ y.1) ∧ RisingB l
theorem riseB_of : ∀ (l : List Bd), (∀ i j, (hij : i < j) → (h : j < l.length) → (l[i]'(by omega)).1 ≤ l[j].1) → RisingB l
  | [], _ => trivial
  | x :: l, h => ⟨fun y hy => by
      obtain ⟨j, hj, rfl⟩ := List.mem_iff_getElem.1 hy
      exact h 0 (j + 1) (by omega) (by simpa using hj), riseB_of l fun i j hij hj => by
      have := h (i + 1) (j + 1) (by omega) (by simpa using hj)
      simpa using this⟩
theorem RisingB.rise : ∀ {l : List Bd} {b : Int}, RisingB l → (∀ x ∈ l, b ≤ x.1) → RiseB b l
  | [], _, _, _ => trivial
  | x :: _, _, h, hb => ⟨hb x List.mem_cons_self, RisingB.rise h.2 h.1⟩
theorem sortB_none (w : World) : Calls Tryd.prog 49 #[.slice none 0 0, .func (.func 50) #[] #[]] w fun e w' => e = .returned (.tuple #[]) ∧ w' = w :=
  AnyF.slices_SortFunc_none Tryd.sortB none 0 _ w

theorem flat_bcells (L : List Bd) : (flatK encB 2 L.toArray).toList = bcells L := by
  apply List.ext_getElem?
  intro j
  by_cases hj : j < L.length * 2
  · have h1 : (flatK encB 2 L.toArray)[j]! = (encB L.toArray[j / 2]!)[j % 2]! := get_flatK encB 2 L.toArray j (by simpa using hj)
    have hd : j / 2 < L.length := by omega
    have hx : L[j / 2]? = some L[j / 2] := List.getElem?_eq_getElem hd
    have hg := bcells_get hx
    have e0 : L.toArray[j / 2]! = L[j / 2] := by simp [hd]
    rw [e0] at h1
    have hs : j < (flatK encB 2 L.toArray).size := by simpa using hj
    rw [Array.getElem?_toList, Array.getElem?_eq_getElem hs, ← getElem!_pos _ j hs, h1]
    rcases Nat.mod_two_eq_zero_or_one j with h | h
    · have ej : j = j / 2 * 2 := by omega
      have e2 := hg.1
      rw [← ej] at e2
      rw [h, e2]; rfl
    · have ej : j = j / 2 * 2 + 1 := by omega
      have e2 := hg.2
      rw [← ej] at e2
      rw [h, e2]; rfl
  · rw [List.getElem?_eq_none (by simp; omega), List.getElem?_eq_none (by rw [bcells_len]; omega)]
theorem heap_sortedB {w : World} {g n : Nat} {os : Array Obj} {cur : Array Value} {e : TypeId} (d : Array Bd) (hb : w.heap[g]? = some (.cells cur e (0, 0))) :
    (sortWorldK encB 2 w g 0 n d os).heap[g]? = some (.cells (putCells id 0 (flatK encB 2 d) cur) e (0, 0)) := by
  have hlt : g < w.heap.size := (Array.getElem?_eq_some_iff.1 hb).1
  unfold sortWorldK grow putRowK putRow mapBlock Sort.ahead
  simp only []
  rw [Array.getElem?_append_left (by simpa using hlt), Array.getElem?_modify, if_pos rfl, hb]
  rfl
theorem take_flatB (cur : Array Value) (ts : List Bd) (h : ts.length * 2 ≤ cur.size) : (putCells id 0 (flatK encB 2 ts.toArray) cur).toList.take (ts.length * 2) = bcells ts := by
  rw [← flat_bcells]
  apply List.ext_getElem?
  intro j
  have hsz : (flatK encB 2 ts.toArray).size = ts.length * 2 := by simp
  by_cases hj : j < ts.length * 2
  · rw [List.getElem?_take_of_lt hj, Array.getElem?_toList, Array.getElem?_toList]
    have hjs : j < (flatK encB 2 ts.toArray).size := by omega
    rw [putCells, Array.getElem?_mapIdx, Array.getElem?_eq_getElem (show j < cur.size by omega), Array.getElem?_eq_getElem hjs]
    simp only [Option.map_some]
    rw [if_pos ⟨Nat.zero_le _, by omega⟩, Nat.sub_zero, getElem!_pos _ j hjs]
    rfl
  · rw [List.getElem?_take_eq_none (by omega), List.getElem?_eq_none (by rw [Array.length_toList, hsz]; omega)]
/-- A row that is not empty, as the sort wants it. -/
theorem BRow.holds {w : World} {S : Nat} {v : Value} {L : List Bd} (h : BRow w S v L) (hne : 0 < L.length) :
    ∃ g cap, v = .slice (some ⟨g, 0, none⟩) L.length cap ∧ HoldsK encB 2 w g 0 L.toArray ∧ g < w.heap.size ∧ S ≤ g ∧
      ∀ n (L' : List Bd) os, L'.length = L.length → BRow (sortWorldK encB 2 w g 0 n L'.toArray os) S v L' := by
  rcases h.2 with ⟨_, h0⟩ | ⟨g, cap, cur, hv, h1, h3, h4, h5, h6, h7⟩
  · omega
  · refine ⟨g, cap, hv, fun j hj => ?_, (Array.getElem?_eq_some_iff.1 h3).1, h1, fun n L' os hl => ?_⟩
    · have hs : j < L.length * 2 := by simpa using hj
      have e : (flatK encB 2 L.toArray)[j]! = (bcells L)[j]'(by rw [bcells_len]; exact hs) := by
        rw [getElem!_pos _ j hj, ← Array.getElem_toList (h := hj)]
        simp only [flat_bcells]
      have hc := World.ownsRow.cells h (g := g) (by rw [hv]; rfl) j _ (List.getElem?_eq_getElem (by rw [bcells_len]; exact hs))
      rw [addr_add] at hc
      refine ⟨by rw [Nat.zero_add, e]; exact hc, by simp [World.frozen?, h3]⟩
    · have hb := heap_sortedB (n := n) (os := os) L'.toArray h3
      refine ⟨by rw [bcells_len], .inr ⟨g, cap, _, by rw [hv, hl], h1, hb, by omega, h5, by simp [putCells, h6], ?_⟩⟩
      rw [hl]
      rw [← hl]
      exact take_flatB cur L' (by rw [hl, h6]; exact Nat.mul_le_mul_right 2 h4)
theorem below_sortedB {w : World} {S g n : Nat} {os : Array Obj} {d : Array Bd} (hS : S ≤ g) (hg : g < w.heap.size) : RowKit.Below S w (sortWorldK encB 2 w g 0 n d os) := by
  refine ⟨rfl, rfl, rfl, by unfold sortWorldK; simp [grow, putRowK, putRow, mapBlock, Sort.ahead], fun k hk => ?_⟩
  unfold sortWorldK grow putRowK putRow mapBlock Sort.ahead
  simp only []
  rw [Array.getElem?_append_left (by simpa using (show k < w.heap.size by omega)), Array.getElem?_modify, if_neg (by omega)]

/-- A row of borders, sorted. -/
theorem sort_brow {w : World} {S : Nat} {v : Value} {M : List Bd} (h : BRow w S v M) (hM : M.length ≤ 1000000) :
    Calls Tryd.prog 49 #[v, .func (.func 50) #[] #[]] w fun e w' => e = .returned (.tuple #[]) ∧ ∃ M', M'.Perm M ∧ RisingB M' ∧ BRow w' S v M' ∧ RowKit.Below S w w' := by
  by_cases hne : 0 < M.length
  · obtain ⟨g, cap, rfl, hH, hg, hS, hrow⟩ := h.holds hne
    refine (sortB_any g cap M.toArray w hH hg (by simpa using hM)).mono ?_
    rintro e w' ⟨rfl, d', n, os, hp, hs, rfl⟩
    have hsz : d'.size = M.length := by simpa using hp.1
    have hl : d'.toList.length = M.length := by simpa using hsz
    have hd : d'.toList.toArray = d' := by simp
    refine ⟨rfl, d'.toList, ?_, riseB_of _ fun i j hij hj => ?_, ?_, below_sortedB hS hg⟩
    · have := hp.2.2
      simp only [List.size_toArray] at this
      rw [← hsz] at this
      simp [hsz] at this
      rwa [List.take_of_length_le (by simp; omega)] at this
    · have hj' : j < M.length := by rw [← hl]; exact hj
      have := hs i j (Nat.zero_le _) hij (by simpa using hj')
      rw [lt_at] at this
      have hi2 : i < d'.size := by omega
      have hj2 : j < d'.size := by omega
      rw [getElem!_pos d' j hj2, getElem!_pos d' i hi2] at this
      simp at this
      simpa using this
    · have := hrow n d'.toList os hl
      rwa [hd] at this
  · have hM0 : M = [] := by cases M with | nil => rfl | cons x l => simp at hne
    subst hM0
    rcases h.2 with ⟨rfl, _⟩ | ⟨g, cap, cur, rfl, h1, h3, h4, h5, h6, h7⟩
    · refine (sortB_none w).mono ?_
      rintro e w' ⟨rfl, rfl⟩
      exact ⟨rfl, [], .refl _, trivial, h, RowKit.Below.refl _ _⟩
    · have hg := (Array.getElem?_eq_some_iff.1 h3).1
      refine (sortB_any g cap #[] w (fun j hj => by simp at hj) hg (by simp)).mono ?_
      rintro e w' ⟨rfl, d', n, os, hp, hs, rfl⟩
      have hsz : d' = #[] := by have := hp.1; simpa using this
      subst hsz
      refine ⟨rfl, [], .refl _, trivial, ?_, below_sortedB h1 hg⟩
      have hb := heap_sortedB (n := n) (os := os) #[] h3
      exact ⟨rfl, .inr ⟨g, cap, _, rfl, h1, hb, h4, h5, by simp [putCells, h6], by simp [bcells]⟩⟩

end Go.Proofs.YtfjlhfalnciamaaDoor.Chars
