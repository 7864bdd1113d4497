/- Package texts, merged: CharsF, CharsG, CharsH, CharsI, CharsJ. -/
import Derived.Test.YtfjlhfalnciamaaDoorMCharsA
import Derived.Test.YtfjlhfalnciamaaDoorSortL
import Derived.Deep.LoopGhost
import Derived.Deep.DeepCutAuto
import Derived.Deep.CutBlock
import Derived.BigRegion
import Derived.Deep.QuietTactic
import Derived.BigQuiet
import Derived.Deep.RegionHeld3

namespace Go.Proofs.YtfjlhfalnciamaaDoor.Chars
open Go Go.RowKit Go.Proofs.Chars Go.Sort Go.Shelf

def encR (x : Rg) : List Value := [.int .i32 x.1, .int .i32 x.2]
def cmpN (x y : Int) : Int := if x < y then -1 else if y < x then 1 else 0
theorem nan_any (x : Int) (w : World) : Calls Tryd.prog 77 #[.int .i32 x] w fun e w' => e = .returned (.bool false) ∧ w' = w := by
  go_enter Tryd.func77, Tryd.ntmps77
  go_wp2
  go_ret
  exact ⟨by simp, rfl⟩
theorem compare_any (x y : Int) (w : World) : Calls Tryd.prog 44 #[.int .i32 x, .int .i32 y] w fun e w' => e = .returned (.int .i64 (cmpN x y)) ∧ w' = w := by
  by_cases h1 : x < y
  · have e : cmpN x y = -1 := by unfold cmpN; rw [if_pos h1]
    rw [e]
    clear e
    go_enter Tryd.func44, Tryd.ntmps44
    go_wp2_with (go_at_call 77; refine (nan_any _ _).mono ?_; rintro e w' ⟨rfl, rfl⟩)
    go_ret
    exact ⟨rfl, rfl⟩
  · by_cases h2 : y < x
    · have e : cmpN x y = 1 := by unfold cmpN; rw [if_neg h1, if_pos h2]
      rw [e]
      clear e
      go_enter Tryd.func44, Tryd.ntmps44
      go_wp2_with (go_at_call 77; refine (nan_any _ _).mono ?_; rintro e w' ⟨rfl, rfl⟩)
      go_ret
      exact ⟨rfl, rfl⟩
    · have e : cmpN x y = 0 := by unfold cmpN; rw [if_neg h1, if_neg h2]
      rw [e]
      clear e
      go_enter Tryd.func44, Tryd.ntmps44
      go_wp2_with (go_at_call 77; refine (nan_any _ _).mono ?_; rintro e w' ⟨rfl, rfl⟩)
      go_ret
      exact ⟨rfl, rfl⟩
theorem closure_any (x y : Rg) (W : World) : Calls Tryd.prog 43 #[.agg #[.int .i32 x.1, .int .i32 x.2], .agg #[.int .i32 y.1, .int .i32 y.2]] W fun e w' => e = .returned (.int .i64 (cmpN x.1 y.1)) ∧ ∃ q os', w' = grow (W.drewN q) os' := by
  have hcon := fun W' => compare_any x.1 y.1 W'
  generalize cmpN x.1 y.1 = r at hcon ⊢
  go_enter Tryd.func43, Tryd.ntmps43
  go_wp2_with (go_at_call 44; refine (hcon _).mono ?_; rintro e w' ⟨rfl, rfl⟩)
  go_ret
  exact ⟨rfl, 0, _, by rw [alloc_eq_grow, alloc_eq_grow, grow_grow]; rfl⟩
theorem lt_lo (x y : Rg) : ltOf (fun x y : Rg => cmpN x.1 y.1) x y = decide (x.1 < y.1) := by
  unfold ltOf cmpN
  by_cases h1 : x.1 < y.1
  · simp [h1]
  · by_cases h2 : y.1 < x.1 <;> simp [h1, h2]
theorem swo_lo : SWO (ltOf fun x y : Rg => cmpN x.1 y.1) where
  irrefl x := by rw [lt_lo]; simp
  trans x y z h1 h2 := by rw [lt_lo] at *; simp at *; omega
  ntrans x y z h1 h2 := by rw [lt_lo] at *; simp at *; omega
theorem bits_len (n : Nat) (w : World) (h : n ≤ 1000000) : Calls Tryd.prog 76 #[.int .u64 (n : Int)] w fun e w' => e = .returned (.int .i64 (Lib.bitLen n : Nat)) ∧ w' = w := by
  have h := Any.bits_Len (SlLaysF0.n15.bits (P := Tryd.prog) (ρ := Tryd.sortB_ren) { Tryd.sortB with }) (n : Int) w (by omega) (by omega)
  rwa [Int.toNat_natCast] at h

set_option maxHeartbeats 2000000 in
set_option maxRecDepth 100000 in
/-- slices.SortFunc, at ranges that lie in a row. -/
theorem sort_any (g cap : Nat) (d : Array Rg) (w : World) (hH : HoldsK encR 2 w g 0 d) (hblk : g < w.heap.size) (hsz : d.size ≤ 1000000) :
    Calls Tryd.prog 42 #[.slice (some ⟨g, 0, none⟩) d.size cap, .func (.func 43) #[] #[]] w fun e w' => e = .returned (.tuple #[]) ∧ ∃ d' n os, PermIn 0 d.size d d' ∧ SortedIn (ltOf fun x y : Rg => cmpN x.1 y.1) 0 d.size d' ∧ w' = sortWorldK encR 2 w g 0 n d' os := by
  have eg : ∀ args w, (callFunc 43 args).run Tryd.prog w = .ok (.enter 43 args) w := enters_of Tryd.func43 (by kernel_rfl) rfl
  have hlim : Lib.bitLen d.size < 4611686018427387904 := Nat.lt_of_le_of_lt (Lib.bitLen_le d.size 62 (by omega) (by omega)) (by omega)
  have hp := AnyQ.pdqsortCmpFunc_all Tryd.pdqR 2 Tryd.isAgg44 Tryd.sizeOf44 encR (fun x y : Rg => cmpN x.1 y.1) 43 #[] swo_lo g 0 cap d w eg (fun _ _ _ _ x y => closure_any x y _) ⟨fun _ => rfl, fun x v hv => by simp [encR] at hv; rcases hv with rfl | rfl <;> rfl, hH, hblk⟩ (d.size + 1) 0 d.size (Lib.bitLen d.size) d w (by omega) rfl (SWK.start hH) (Nat.zero_le _) (Nat.le_refl _) (by omega) hlim (Or.inl rfl)
  change Calls Tryd.prog 75 _ _ _ at hp
  have hl := bits_len d.size w hsz
  have wr : IntKind.u64.wrap (d.size : Int) = d.size := by simp [IntKind.wrap, IntKind.bits, IntKind.signed]; omega
  have hfin := pdq_sorts (ltOf fun x y : Rg => cmpN x.1 y.1) swo_lo d 0 d.size (Lib.bitLen d.size) true true (Nat.zero_le _) (Nat.le_refl _) (Or.inl rfl)
  generalize pdq (ltOf fun x y : Rg => cmpN x.1 y.1) d 0 d.size (Lib.bitLen d.size) true true = d' at hp hfin
  generalize Lib.bitLen d.size = bl at hp hl
  have HP := Lib.hid hp
  have HL := Lib.hid hl
  have HF := Lib.hid hfin
  clear hH hp hl hfin eg
  go_enter Tryd.func42, Tryd.ntmps42
  go_wp2_with (first | (go_at_call 76; refine HL.out.mono ?_; rintro e w' ⟨rfl, rfl⟩) | (go_at_call 75; refine HP.out.mono ?_; rintro e w' ⟨rfl, n, os, rfl⟩))
  go_end0
  exact ⟨rfl, d', n, os, HF.out.1, HF.out.2, rfl⟩

theorem insert_none (w : World) : Calls Tryd.prog 100 #[.slice none 0 0, .int .i64 0, .int .i64 0, .func (.func 43) #[] #[]] w fun e w' => e = .returned (.tuple #[]) ∧ w' = w := by
  go_enter Tryd.func100, Tryd.ntmps100
  go_wp2_with fail
  go_loop [8] (fun i => i = .int .i64 1) (fun _ => 0)
  case atStart => exact rfl
  case round =>
    obtain rfl := hrel
    go_wp2
    go_end0
    exact ⟨rfl, rfl⟩
theorem pdq_none (w : World) : Calls Tryd.prog 75 #[.slice none 0 0, .int .i64 0, .int .i64 0, .int .i64 0, .func (.func 43) #[] #[]] w fun e w' => e = .returned (.tuple #[]) ∧ w' = w := by
  go_enter Tryd.func75, Tryd.ntmps75
  go_wp2_with fail
  go_loopw [1, 2, 3, 10, 11] (fun a b c d e wx => a = .int .i64 0 ∧ b = .int .i64 0 ∧ c = .int .i64 0 ∧ d = .bool true ∧ e = .bool true ∧ wx = w) (fun _ _ _ _ _ _ => 0)
  case atStart => exact ⟨rfl, rfl, rfl, rfl, rfl, rfl⟩
  case round =>
    obtain ⟨rfl, rfl, rfl, rfl, rfl, rfl⟩ := hrel
    go_wp2_with (go_at_call 100; refine (insert_none _).mono ?_; rintro e w' ⟨rfl, rfl⟩)
    exact bodyPost_ret (results_none Tryd.results75 _ _ _) rfl ⟨rfl, rfl⟩
theorem sort_none (w : World) : Calls Tryd.prog 42 #[.slice none 0 0, .func (.func 43) #[] #[]] w fun e w' => e = .returned (.tuple #[]) ∧ w' = w := by
  have hl := bits_len 0 w (by omega)
  have e0 : Lib.bitLen 0 = 0 := by decide
  rw [e0] at hl
  have HL := Lib.hid hl
  clear hl e0
  go_enter Tryd.func42, Tryd.ntmps42
  go_wp2_with (first | (go_at_call 76; refine HL.out.mono ?_; rintro e w' ⟨rfl, rfl⟩) | (go_at_call 75; refine (pdq_none _).mono ?_; rintro e w' ⟨rfl, rfl⟩))
  go_end0
  exact ⟨rfl, rfl⟩

end Go.Proofs.YtfjlhfalnciamaaDoor.Chars

namespace Go.Proofs.YtfjlhfalnciamaaDoor.Chars
open Go Go.RowKit Go.Proofs.Chars Go.Sort Go.Shelf

theorem flat_rcells (L : List Rg) : (flatK encR 2 L.toArray).toList = rcells L := by
  apply List.ext_getElem?
  intro j
  by_cases hj : j < L.length * 2
  · have h1 : (flatK encR 2 L.toArray)[j]! = (encR L.toArray[j / 2]!)[j % 2]! := get_flatK encR 2 L.toArray j (by simpa using hj)
    have hd : j / 2 < L.length := by omega
    have hx : L[j / 2]? = some L[j / 2] := List.getElem?_eq_getElem hd
    have hg := rcells_get hx
    have e0 : L.toArray[j / 2]! = L[j / 2] := by simp [hd]
    rw [e0] at h1
    have hs : j < (flatK encR 2 L.toArray).size := by simpa using hj
    rw [Array.getElem?_toList, Array.getElem?_eq_getElem hs, ← getElem!_pos _ j hs, h1]
    rcases Nat.mod_two_eq_zero_or_one j with h | h
    · have ej : j = j / 2 * 2 := by omega
      have e2 := hg.1
      rw [← ej] at e2
      rw [h, e2]; rfl
    · have ej : j = j / 2 * 2 + 1 := by omega
      have e2 := hg.2
      rw [← ej] at e2
      rw [h, e2]; rfl
  · rw [List.getElem?_eq_none (by simp; omega), List.getElem?_eq_none (by rw [rcells_len]; omega)]
theorem heap_sortedK {w : World} {g n : Nat} {os : Array Obj} {cur : Array Value} {e : TypeId} (d : Array Rg) (hb : w.heap[g]? = some (.cells cur e (0, 0))) :
    (sortWorldK encR 2 w g 0 n d os).heap[g]? = some (.cells (putCells id 0 (flatK encR 2 d) cur) e (0, 0)) := by
  have hlt : g < w.heap.size := (Array.getElem?_eq_some_iff.1 hb).1
  unfold sortWorldK grow putRowK putRow mapBlock Sort.ahead
  simp only []
  rw [Array.getElem?_append_left (by simpa using hlt), Array.getElem?_modify, if_pos rfl, hb]
  rfl
theorem take_flat (cur : Array Value) (ts : List Rg) (h : ts.length * 2 ≤ cur.size) : (putCells id 0 (flatK encR 2 ts.toArray) cur).toList.take (ts.length * 2) = rcells ts := by
  rw [← flat_rcells]
  apply List.ext_getElem?
  intro j
  have hsz : (flatK encR 2 ts.toArray).size = ts.length * 2 := by simp
  by_cases hj : j < ts.length * 2
  · rw [List.getElem?_take_of_lt hj, Array.getElem?_toList, Array.getElem?_toList]
    have hjs : j < (flatK encR 2 ts.toArray).size := by omega
    rw [putCells, Array.getElem?_mapIdx, Array.getElem?_eq_getElem (show j < cur.size by omega), Array.getElem?_eq_getElem hjs]
    simp only [Option.map_some]
    rw [if_pos ⟨Nat.zero_le _, by omega⟩, Nat.sub_zero, getElem!_pos _ j hjs]
    rfl
  · rw [List.getElem?_take_eq_none (by omega), List.getElem?_eq_none (by rw [Array.length_toList, hsz]; omega)]
/-- A row that is not empty, as the sort wants it. -/
theorem Rowed.holds {w : World} {S : Nat} {v : Value} {L : List Rg} (h : Rowed w S v L) (hne : 0 < L.length) :
    ∃ g cap, v = .slice (some ⟨g, 0, none⟩) L.length cap ∧ HoldsK encR 2 w g 0 L.toArray ∧ g < w.heap.size ∧ S ≤ g ∧
      ∀ n (L' : List Rg) os, L'.length = L.length → Rowed (sortWorldK encR 2 w g 0 n L'.toArray os) S v L' := by
  rcases h.2 with ⟨_, h0⟩ | ⟨g, cap, cur, hv, h1, h3, h4, h5, h6, h7⟩
  · omega
  · refine ⟨g, cap, hv, fun j hj => ?_, (Array.getElem?_eq_some_iff.1 h3).1, h1, fun n L' os hl => ?_⟩
    · have hs : j < L.length * 2 := by simpa using hj
      have e : (flatK encR 2 L.toArray)[j]! = (rcells L)[j]'(by rw [rcells_len]; exact hs) := by
        rw [getElem!_pos _ j hj, ← Array.getElem_toList (h := hj)]
        simp only [flat_rcells]
      have hc := World.ownsRow.cells h (g := g) (by rw [hv]; rfl) j _ (List.getElem?_eq_getElem (by rw [rcells_len]; exact hs))
      rw [addr_add] at hc
      refine ⟨by rw [Nat.zero_add, e]; exact hc, by simp [World.frozen?, h3]⟩
    · have hb := heap_sortedK (n := n) (os := os) L'.toArray h3
      refine ⟨by rw [rcells_len], .inr ⟨g, cap, _, by rw [hv, hl], h1, hb, by omega, h5, by simp [putCells, h6], ?_⟩⟩
      rw [hl]
      rw [← hl]
      exact take_flat cur L' (by rw [hl, h6]; exact Nat.mul_le_mul_right 2 h4)
theorem below_sorted {w : World} {S g n : Nat} {os : Array Obj} {d : Array Rg} (hS : S ≤ g) (hg : g < w.heap.size) : RowKit.Below S w (sortWorldK encR 2 w g 0 n d os) := by
  refine ⟨rfl, rfl, rfl, by unfold sortWorldK; simp [grow, putRowK, putRow, mapBlock, Sort.ahead], fun k hk => ?_⟩
  unfold sortWorldK grow putRowK putRow mapBlock Sort.ahead
  simp only []
  rw [Array.getElem?_append_left (by simpa using (show k < w.heap.size by omega)), Array.getElem?_modify, if_neg (by omega)]

theorem rising_of : ∀ (l : List Rg), (∀ i j, (hij : i < j) → (h : j < l.length) → (l[i]'(by omega)).1 ≤ l[j].1) → Rising l
  | [], _ => trivial
  | x :: l, h => ⟨fun y hy => by
      obtain ⟨j, hj, rfl⟩ := List.mem_iff_getElem.1 hy
      exact h 0 (j + 1) (by omega) (by simpa using hj), rising_of l fun i j hij hj => by
      have := h (i + 1) (j + 1) (by omega) (by simpa using hj)
      simpa using this⟩
/-- A row of ranges, sorted. -/
theorem sort_row {w : World} {S : Nat} {v : Value} {M : List Rg} (h : Rowed w S v M) (hM : M.length ≤ 1000000) :
    Calls Tryd.prog 42 #[v, .func (.func 43) #[] #[]] w fun e w' => e = .returned (.tuple #[]) ∧ ∃ M', M'.Perm M ∧ Rising M' ∧ Rowed w' S v M' ∧ RowKit.Below S w w' := by
  by_cases hne : 0 < M.length
  · obtain ⟨g, cap, rfl, hH, hg, hS, hrow⟩ := h.holds hne
    refine (sort_any g cap M.toArray w hH hg (by simpa using hM)).mono ?_
    rintro e w' ⟨rfl, d', n, os, hp, hs, rfl⟩
    have hsz : d'.size = M.length := by simpa using hp.1
    have hl : d'.toList.length = M.length := by simpa using hsz
    have hd : d'.toList.toArray = d' := by simp
    refine ⟨rfl, d'.toList, ?_, rising_of _ fun i j hij hj => ?_, ?_, below_sorted hS hg⟩
    · have := hp.2.2
      simp only [List.size_toArray] at this
      rw [← hsz] at this
      simp [hsz] at this
      rwa [List.take_of_length_le (by simp; omega)] at this
    · have hj' : j < M.length := by rw [← hl]; exact hj
      have := hs i j (Nat.zero_le _) hij (by simpa using hj')
      rw [lt_lo] at this
      have hi2 : i < d'.size := by omega
      have hj2 : j < d'.size := by omega
      rw [getElem!_pos d' j hj2, getElem!_pos d' i hi2] at this
      simp at this
      simpa using this
    · have := hrow n d'.toList os hl
      rwa [hd] at this
  · have hM0 : M = [] := by cases M with | nil => rfl | cons x l => simp at hne
    subst hM0
    rcases h.2 with ⟨rfl, _⟩ | ⟨g, cap, cur, rfl, h1, h3, h4, h5, h6, h7⟩
    · refine (sort_none w).mono ?_
      rintro e w' ⟨rfl, rfl⟩
      exact ⟨rfl, [], .refl _, trivial, h, RowKit.Below.refl _ _⟩
    · have hg := (Array.getElem?_eq_some_iff.1 h3).1
      refine (sort_any g cap #[] w (fun j hj => by simp at hj) hg (by simp)).mono ?_
      rintro e w' ⟨rfl, d', n, os, hp, hs, rfl⟩
      have hsz : d' = #[] := by have := hp.1; simpa using this
      subst hsz
      refine ⟨rfl, [], .refl _, trivial, ?_, below_sorted h1 hg⟩
      have hb := heap_sortedK (n := n) (os := os) #[] h3
      exact ⟨rfl, .inr ⟨g, cap, _, rfl, h1, hb, h4, h5, by simp [putCells, h6], by simp [rcells]⟩⟩

end Go.Proofs.YtfjlhfalnciamaaDoor.Chars

namespace Go.Proofs.YtfjlhfalnciamaaDoor.Chars
open Go Go.RowKit Go.Proofs.Chars

theorem cutR_snoc (L : List Rg) (x : Rg) : cutR (L ++ [x]) = cutR L ++ (if max x.1 0 ≤ min x.2 most then [(max x.1 0, min x.2 most)] else []) := by
  unfold cutR
  rw [List.map_append, List.filter_append]
  congr 1
  by_cases h : max x.1 0 ≤ min x.2 most
  · rw [if_pos h]; simp [h]
  · rw [if_neg h]; simp [h]
theorem cutR_len (L : List Rg) : (cutR L).length ≤ L.length := by
  unfold cutR
  exact Nat.le_trans (List.length_filter_le _ _) (by simp)
theorem ofStep_len (out : List Rg) (x : Rg) : (ofStep out x).length ≤ out.length + 1 := by
  rcases List.eq_nil_or_concat out with rfl | ⟨l, c, rfl⟩
  · simp [ofStep_nil]
  · rw [List.concat_eq_append, ofStep_snoc]
    split <;> simp
theorem foldl_ofStep_len (s : List Rg) : ∀ out : List Rg, (s.foldl ofStep out).length ≤ out.length + s.length := by
  induction s with
  | nil => intro out; simp
  | cons x s ih => intro out; have := ih (ofStep out x); have := ofStep_len out x; simp only [List.foldl_cons, List.length_cons]; omega

/-- Two slices share no block. -/
def apart (v u : Value) : Prop := ∀ g, v.ownBlock = some g → u.ownBlock ≠ some g
theorem Rowed.grown {w w' : World} {S : Nat} {v u : Value} {L : List Rg} (h : Rowed w S v L) (hg : w.grownBy w' u.ownBlock) (ha : apart v u) : Rowed w' S v L := by
  refine ⟨h.1, ?_⟩
  rcases h.2 with h0 | ⟨g, cap, cur, e1, e2, e3, e4⟩
  · exact .inl h0
  · exact .inr ⟨g, cap, cur, e1, e2, (hg.block g (Array.getElem?_eq_some_iff.1 e3).1 (fun e => ha g (by rw [e1]; rfl) e.symm)).trans e3, e4⟩
theorem apart.step {w : World} {S : Nat} {v u u' : Value} {L : List Rg} (ha : apart v u) (h : Rowed w S v L) {H : Nat} (hH : w.heap.size ≤ H) (hb : u'.ownBlock = u.ownBlock ∨ u'.ownBlock = some H) : apart v u' := fun g hg hug => by
  rcases hb with hb | hb
  · exact ha g hg (hb ▸ hug)
  · have := h.block_lt hg
    rw [hug] at hb
    cases hb
    omega
/-- The last range of a row of one's own, its end written anew. -/
theorem Rowed.setHi {w : World} {S g cap : Nat} {l : List Rg} {c : Rg} (h : Rowed w S (.slice (some ⟨g, 0, none⟩) (l.length + 1) cap) (l ++ [c])) (z : Int) :
    Rowed (w.setCell ⟨g, l.length * 2 + 1, none⟩ (.int .i32 z)) S (.slice (some ⟨g, 0, none⟩) (l.length + 1) cap) (l ++ [(c.1, z)]) := by
  refine ⟨by rw [rcells_len], ?_⟩
  rcases h.2 with ⟨hv, _⟩ | ⟨g', cap', cur, e1, e2, e3, e4, e5, e6, e7⟩
  · cases hv
  · injection e1 with e1 e1' e1''
    injection e1 with e1
    injection e1 with e1
    subst e1
    subst e1''
    refine .inr ⟨g, cap, cur.setIfInBounds (l.length * 2 + 1) (.int .i32 z), by simp, e2, by simp [World.setCell, Array.getElem?_modify, e3], by simpa using e4, e5, by simpa using e6, ?_⟩
    have hL : (l ++ [c]).length * 2 = l.length * 2 + 2 := by simp; omega
    have hL2 : (l ++ [(c.1, z)]).length * 2 = l.length * 2 + 2 := by simp; omega
    rw [hL] at e7
    rw [hL2, Array.toList_setIfInBounds, List.take_set, e7, rcells_append, rcells_append]
    rw [List.set_append_right _ _ (by rw [rcells_len]; omega), rcells_len]
    rw [show l.length * 2 + 1 - l.length * 2 = 1 by omega]
    simp [rcells]


theorem info44 : (Tryd.prog.info? 44).map (fun i => (i.zero, i.size, i.bytes)) = some (some (.agg #[.int .i32 0, .int .i32 0]), 2, 8) := by kernel_rfl

theorem rising_take : ∀ {l : List Rg} (k : Nat), Rising l → Rising (l.take k)
  | [], k, _ => by simp [Rising]
  | x :: l, 0, _ => by simp [Rising]
  | x :: l, k + 1, h => by
    rw [List.take_succ_cons]
    exact ⟨fun y hy => h.1 y (List.mem_of_mem_take hy), rising_take k h.2⟩
def put (Q : List Rg) (k : Nat) : List Rg := (Q.take k).foldl ofStep []
theorem put_succ {Q : List Rg} {k : Nat} {x : Rg} (h : Q[k]? = some x) : put Q (k + 1) = ofStep (put Q k) x := by
  have hk : k < Q.length := (List.getElem?_eq_some_iff.1 h).1
  have hx : Q[k] = x := (List.getElem?_eq_some_iff.1 h).2
  unfold put
  rw [List.take_succ_eq_append_getElem hk, List.foldl_append, hx]; rfl
theorem put_len (Q : List Rg) (k : Nat) : (put Q k).length ≤ Q.length := by
  have := foldl_ofStep_len (Q.take k) []
  have h2 : (Q.take k).length ≤ Q.length := by simp; omega
  unfold put
  simp at this ⊢
  omega
theorem put_canon {Q : List Rg} (hr : Rising Q) (hv : ∀ x ∈ Q, 0 ≤ x.1 ∧ x.1 ≤ x.2 ∧ x.2 ≤ most) (k : Nat) : Canon 0 (put Q k) :=
  (of_ok (Q.take k) [] trivial (rising_take k hr) (fun x hx => hv x (List.mem_of_mem_take hx)) (fun c hc => by simp at hc)).1
theorem Rowed.form {w : World} {S : Nat} {v : Value} {L : List Rg} (h : Rowed w S v L) : ∃ A cap, v = .slice A L.length cap := by
  rcases h.2 with ⟨rfl, h0⟩ | ⟨g, cap, cur, rfl, _⟩
  · exact ⟨none, 0, by rw [h0]⟩
  · exact ⟨_, cap, rfl⟩
theorem Rowed.at {w : World} {S : Nat} {v : Value} {L : List Rg} (h : Rowed w S v L) (hne : 0 < L.length) : ∃ g cap, v = .slice (some ⟨g, 0, none⟩) L.length cap ∧ L.length ≤ cap ∧ cap ≤ maxLen ∧ g < w.heap.size ∧ S ≤ g ∧ (∀ o, w.frozen? ⟨g, o, none⟩ = false) ∧
    ∀ i x, L[i]? = some x → w.cell? ⟨g, i * 2, none⟩ = some (.int .i32 x.1) ∧ w.cell? ⟨g, i * 2 + 1, none⟩ = some (.int .i32 x.2) := by
  rcases h.2 with ⟨_, h0⟩ | ⟨g, cap, cur, hv, h1, h3, h4, h5, h6, h7⟩
  · omega
  · refine ⟨g, cap, hv, h4, h5, (Array.getElem?_eq_some_iff.1 h3).1, h1, fun o => by simp [World.frozen?, h3], fun i x hx => ?_⟩
    have hc := World.ownsRow.cells h (g := g) (by rw [hv]; rfl)
    have h2 := rcells_get hx
    have e1 := hc _ _ h2.1
    have e2 := hc _ _ h2.2
    rw [addr_add] at e1 e2
    exact ⟨e1, e2⟩
theorem Rowed.of_heap {w w' : World} {S : Nat} {v : Value} {L : List Rg} (h : Rowed w S v L) (e : w'.heap = w.heap) : Rowed w' S v L := by
  refine ⟨h.1, ?_⟩
  rcases h.2 with h0 | ⟨g, cap, cur, e1, e2, e3, e4⟩
  · exact .inl h0
  · exact .inr ⟨g, cap, cur, e1, e2, by rw [e]; exact e3, e4⟩

theorem news2 (w : World) (o : Obj) (n : Nat) (cs : Array Value) (t : TypeId) : ∀ j u, cs.toList[j]? = some u → (((w.alloc o).drewN n).alloc (.cells cs t)).cell? ((⟨w.heap.size + 1, 0, none⟩ : Addr).add j) = some u :=
  World.news_of_block (t := t) (fr := (0, 0)) (by
    have h := heap_alloc_new ((w.alloc o).drewN n) (.cells cs t)
    rw [show ((w.alloc o).drewN n).heap.size = w.heap.size + 1 by simp] at h
    exact h)
theorem below_drewN {B : Nat} {a w : World} (h : Below B a w) (n : Nat) : Below B a (w.drewN n) := ⟨h.os, h.tape, h.output, h.size, h.block⟩
/-- A range more behind a row, another row stays. -/
theorem out_next {w wr w2 : World} {S n Hn : Nat} {u6 v' u3 : Value} {Q : List Rg} {o o' : Obj} (hI : Rowed wr S u3 Q) (hA : apart u3 u6) (hB : Below S w wr) (hszr : S ≤ wr.heap.size) (hlow : ∀ k, u6.ownBlock = some k → S ≤ k)
    (hg : (((wr.alloc o).drewN n).alloc o').grownBy w2 u6.ownBlock) (hH : (((wr.alloc o).drewN n).alloc o').heap.size = Hn) (hat : v'.ownBlock = u6.ownBlock ∨ v'.ownBlock = some Hn) :
    Rowed w2 S u3 Q ∧ apart u3 v' ∧ Below S w w2 := by
  have h1 : Below wr.heap.size wr (((wr.alloc o).drewN n).alloc o') := (below_drewN ((RowKit.Below.refl _ wr).alloc (Nat.le_refl _) o) n).alloc (by simp) o'
  have h2 := hI.stay h1
  refine ⟨h2.grown hg hA, hA.step h2 (Nat.le_of_eq hH) hat, (hB.trans (h1.mono hszr)).grown hg (by simp; omega) hlow⟩

theorem Rowed.setFar {w : World} {S : Nat} {v : Value} {L : List Rg} (h : Rowed w S v L) {p : Addr} (hne : v.ownBlock ≠ some p.block) (u : Value) : Rowed (w.setCell p u) S v L := by
  refine ⟨h.1, ?_⟩
  rcases h.2 with h0 | ⟨g, cap, cur, e1, e2, e3, e4⟩
  · exact .inl h0
  · exact .inr ⟨g, cap, cur, e1, e2, (Below.heap_setCell w p u g (fun e => hne (by rw [e1, ← e]; rfl))).trans e3, e4⟩

set_option maxRecDepth 100000 in
theorem of_any {w : World} {va : Value} {L : List Rg} (H : Rgs w va L) (hL : L.length ≤ 100000) :
    Calls Tryd.prog 15 #[va] w fun e w' => ∃ v O, e = .returned v ∧ Rowed w' w.heap.size v O ∧ IsOf L O ∧ O.length ≤ L.length ∧ Below w.heap.size w w' := by
  obtain ⟨i0, hi, hz0, hz1, hz2⟩ := info_parts info44
  obtain ⟨S, hS⟩ : ∃ S, S = w.heap.size := ⟨_, rfl⟩
  have HS := Lib.hid hS
  rw [← hS]
  have hsz : S ≤ w.heap.size := by omega
  have HR := Lib.hid H
  obtain ⟨h0, A, cap, rfl, hc1, hc2, hc3⟩ := H
  have HC := Lib.hid hc3
  have H0 := Lib.hid h0
  clear hS hc3 h0
  go_enter Tryd.func15, Tryd.ntmps15
  go_wp2_with fail
  go_loopw [3, 5, 12] (fun v x i wx => ∃ k : Nat, k ≤ L.length ∧ i = .int .i64 (k : Int) ∧ Rowed wx S v (cutR (L.take k)) ∧ Below S w wx) (fun _ _ i _ => L.length - (intOf i).toNat)
  case atStart => exact ⟨0, Nat.zero_le _, rfl, ⟨rfl, .inl ⟨rfl, rfl⟩⟩, Below.refl _ _⟩
  case round =>
    obtain ⟨k, hk, rfl, hrow, hB⟩ := hrel
    have HW := Lib.hid hrow
    have HB := Lib.hid hB
    have hszr : S ≤ wr.heap.size := Nat.le_trans hsz hB.size
    by_cases hlt : k < L.length
    · obtain ⟨b, off, rfl, hbl, hcell⟩ := HC.out (by omega)
      obtain ⟨x, hx⟩ : ∃ x, L[k]? = some x := ⟨L[k], List.getElem?_eq_getElem hlt⟩
      obtain ⟨hc0, hc1'⟩ := hcell k x hx
      have hbS : b < S := by rw [HS.out]; exact hbl
      have e0 := (hB.cell (p := ⟨b, off + k * 2, none⟩) hbS).trans hc0
      have e1 := (hB.cell (p := ⟨b, off + k * 2 + 1, none⟩) hbS).trans hc1'
      have HX := Lib.hid hx
      clear hx hcell hc0 hc1' hrow hB
      have HSU := Lib.hid (show L.take (k + 1) = L.take k ++ [x] by rw [List.take_succ_eq_append_getElem hlt]; congr 2; have := HX.out; rw [List.getElem?_eq_getElem hlt] at this; exact Option.some.inj this)
      have hLl := cutR_len (L.take k)
      have hLk : (cutR (L.take k)).length ≤ 100000 := Nat.le_trans hLl (by simp; omega)
      obtain ⟨M, hM⟩ : ∃ M, cutR (L.take k) = M := ⟨_, rfl⟩
      have HCS := Lib.hid (cutR_snoc (L.take k) x)
      rw [hM] at hLk HCS
      have HW : Hid (Rowed wr S u3 M) := by rw [← hM]; exact HW.out
      clear hLl hM
      have hown : wr.ownsRow S 44 2 u3 M.length (rcells M) := HW.out
      have hown' := Lib.hid hown
      clear hown
      by_cases hmm : max x.1 0 ≤ min x.2 1114111
      · go_wp2_with (at_builtin; refine wpList_append_own _ rfl _ _ 23 rfl S 44 i0 (.agg #[.int .i32 0, .int .i32 0]) 2 8 Tryd.underlying23 hi hz0 hz1 hz2 rfl (by decide) _ _ _ rfl ((hown'.out.alloc _).alloc _) ⟨wr.heap.size + 1, 0, none⟩ 1 1 [.int .i32 (max x.1 0), .int .i32 (min x.2 1114111)] rfl rfl ?c1 ?c2 ?c3 ?c4 ?c5 ?_)
        case c1 =>
          intro j u hj
          match j, hj with
          | 0, hj => simp at hj; subst hj; simp [Addr.add]
          | 1, hj => simp at hj; subst hj; simp [Addr.add]
        case c2 => intro u hu; simp at hu; rcases hu with rfl | rfl <;> rfl
        case c3 => unfold maxLen; omega
        case c4 => omega
        case c5 => simp; omega
        intro v' w2 hown2 hgrow _
        have HR2 : Hid (Rowed w2 S v' (cutR (L.take (k + 1)))) := by
          rw [HSU.out, HCS.out, if_pos (show max x.1 0 ≤ min x.2 most from hmm)]
          unfold Rowed
          rw [rcells_append, List.length_append]
          exact hown2
        have HB2 : Hid (Below S w w2) := (((HB.out.alloc hszr _).alloc (by simp; omega) _).grown hgrow (by simp; omega) fun k hk => (hown'.out.lt k hk).1)
        clear hown2 hgrow hown'
        go_wp2
        go_roundw
        case rel => exact ⟨k + 1, by omega, by go_num, HR2.out, HB2.out⟩
        case measure => simp [intOf]; omega
      · have HR2 : Hid (cutR (L.take (k + 1)) = M) := by
          rw [HSU.out, HCS.out, if_neg (show ¬ max x.1 0 ≤ min x.2 most from hmm), List.append_nil]
          exact Lib.hid rfl
        go_wp2
        go_roundw
        case rel => exact ⟨k + 1, by omega, by go_num, by rw [HR2.out]; exact HW.out.stay ((RowKit.Below.refl _ _).alloc (Nat.le_refl _) _), HB.out.alloc hszr _⟩
        case measure => simp [intOf]; omega
    · obtain rfl : k = L.length := by omega
      have hrow2 : Rowed wr S u3 (cutR L) := by rw [List.take_length] at hrow; exact hrow
      have hcl : (cutR L).length ≤ L.length := cutR_len L
      obtain ⟨M, hM⟩ : ∃ M, cutR L = M := ⟨_, rfl⟩
      have HM := Lib.hid hM
      rw [hM] at hrow2 hcl
      have HSO := Lib.hid (sort_row hrow2 (by omega))
      clear hrow hrow2 hB hM hlt HW
      go_wp2_with fail
      refine HSO.out.mono ?_
      rintro e w1 ⟨rfl, Q, hp, hris, hrow, hB1⟩
      have hql : Q.length = M.length := hp.length_eq
      have HV : Hid (∀ x ∈ Q, 0 ≤ x.1 ∧ x.1 ≤ x.2 ∧ x.2 ≤ most) := Lib.hid fun x hx => (cutR_ok L).1 x (by rw [HM.out]; exact hp.mem_iff.1 hx)
      have HP := Lib.hid hp
      have HRI := Lib.hid hris
      have HB1 := Lib.hid (HB.out.trans hB1)
      have HR1 := Lib.hid hrow
      have hs1 : S ≤ w1.heap.size := Nat.le_trans hszr hB1.size
      have hlq : Q.length ≤ 100000 := by omega
      have HLN := Lib.hid (fun wx (h : Rowed wx S u3 Q) => (h.rgs fun x hx => ⟨⟨by have := (HV.out x hx).1; omega, by have := (HV.out x hx).2; unfold most at this; omega⟩, by have := (HV.out x hx); omega, by have := (HV.out x hx).2.2; unfold most at this; omega⟩).len 3 wx)
      have hlen := fun wx h => HLN.out wx h
      have hlen1 := HLN.out w1 hrow
      have HQM := Lib.hid hql
      clear hp hris hB1 hrow hql hlen HLN HSO HB
      go_wp2_with fail
      go_loopw [6, 8, 9, 37] (fun v x n i wx => ∃ k : Nat, k ≤ Q.length ∧ i = .int .i64 (k : Int) ∧ Rowed wx S v (put Q k) ∧ Rowed wx S u3 Q ∧ apart u3 v ∧ Below S w wx) (fun _ _ _ i _ => Q.length - (intOf i).toNat)
      case atStart => exact ⟨0, Nat.zero_le _, rfl, ⟨rfl, .inl ⟨rfl, rfl⟩⟩, HR1.out, (fun g _ h => by cases h), HB1.out⟩
      case round =>
        obtain ⟨k, hk, rfl, hrow, hin, hap, hB⟩ := hrel
        have HW := Lib.hid hrow
        have HI := Lib.hid hin
        have HA := Lib.hid hap
        have HB := Lib.hid hB
        have hszr : S ≤ wr.heap.size := Nat.le_trans hsz hB.size
        clear hap hB HB1 HR1
        by_cases hlt : k < Q.length
        · obtain ⟨g3, cap3, rfl, h31, h32, h33, h34, h35, hcell⟩ := hin.at (by omega)
          obtain ⟨x, hx⟩ : ∃ x, Q[k]? = some x := ⟨Q[k], List.getElem?_eq_getElem hlt⟩
          obtain ⟨e0, e1⟩ := hcell k x hx
          have HPS := Lib.hid (put_succ hx)
          have hpl := put_len Q k
          have HCN := Lib.hid (put_canon HRI.out HV.out k)
          obtain ⟨O, hO⟩ : ∃ O, put Q k = O := ⟨_, rfl⟩
          rw [hO] at hrow HPS hpl HCN HW
          have hxv := HV.out x (List.mem_of_getElem? hx)
          have hx1 := hxv.1
          have hx2 := hxv.2.1
          have hx3 := hxv.2.2
          unfold most at hx3
          clear hx hcell hO hxv hin h35
          rcases List.eq_nil_or_concat O with rfl | ⟨l, c, rfl⟩
          · obtain ⟨A, cap', rfl⟩ := hrow.form
            have hown' := Lib.hid (show wr.ownsRow S 44 2 (.slice A ([] : List Rg).length cap') ([] : List Rg).length (rcells []) from HW.out)
            clear hrow
            go_wp2_with fail
            go_quiet (fail)
            go_wp2_with (at_builtin; refine wpList_append_own_at _ rfl _ _ 23 rfl S 44 i0 (.agg #[.int .i32 0, .int .i32 0]) 2 8 Tryd.underlying23 hi hz0 hz1 hz2 rfl (by decide) _ _ _ rfl (World.ownsRow.alloc (w := (wr.alloc _).drewN _) (hown'.out.alloc _) _) ⟨wr.heap.size + 1, 0, none⟩ 1 1 [.int .i32 x.1, .int .i32 x.2] rfl rfl ?c1 ?c2 ?c3 ?c4 ?c5 ?_)
            case c1 => exact news2 _ _ _ #[_, _] _
            case c2 => intro u hu; simp at hu; rcases hu with rfl | rfl <;> rfl
            case c3 => unfold maxLen; simp
            case c4 => simp
            case c5 => simp; omega
            intro v' w2 hown2 hgrow _ hat
            have HR2 : Hid (Rowed w2 S v' (put Q (k + 1))) := by
              rw [HPS.out]
              exact Lib.hid hown2
            have HN := Lib.hid (out_next HI.out HA.out HB.out hszr (fun k hk => (hown'.out.lt k hk).1) hgrow (by simp) hat)
            clear hown2 hgrow hat hown'
            go_wp2
            go_roundw
            case rel => exact ⟨k + 1, by omega, by go_num, HR2.out, HN.out⟩
            case measure => simp [intOf]; omega
          · rw [List.concat_eq_append] at hrow HPS hpl HCN HW
            obtain ⟨g, cap', rfl, h41, h42, h43, h44, hfr, hcell⟩ := hrow.at (by simp)
            obtain ⟨e2, e3⟩ := hcell l.length c (by simp)
            have hcan := (canon_snoc.1 HCN.out).2.2
            have hc1' := hcan.1
            have hc2' := hcan.2.1
            have hc3' := hcan.2.2
            unfold most at hc3'
            have hfz := hfr (l.length * 2 + 1)
            have hl1 : (l ++ [c]).length = l.length + 1 := by simp
            rw [hl1] at hrow hpl HW ⊢
            have HF := Lib.hid hfr
            clear hcell hcan hrow hfr
            have w1 : IntKind.i32.wrap (c.2 + 1) = c.2 + 1 := IntWalk.i32_in _ (by omega)
            have w2' : IntKind.i64.wrap ((l.length : Int) + 1 - 1) = (l.length : Int) := by rw [IntWalk.i64_in _ (by omega)]; omega
            by_cases ht : x.1 ≤ c.2 + 1
            · have ht' : decide (x.1 ≤ c.2 + 1) = true := decide_eq_true ht
              go_wp2_with fail
              go_quiet (fail)
              have hfin : ∀ n, Rowed (((wr.alloc (.cells #[.int .i32 x.1, .int .i32 x.2] 44)).drewN n).setCell ⟨g, l.length * 2 + 1, none⟩ (.int .i32 (max c.2 x.2))) S (.slice (some ⟨g, 0, none⟩) (l.length + 1) cap') (put Q (k + 1)) ∧
                  Rowed (((wr.alloc (.cells #[.int .i32 x.1, .int .i32 x.2] 44)).drewN n).setCell ⟨g, l.length * 2 + 1, none⟩ (.int .i32 (max c.2 x.2))) S (.slice (some ⟨g3, 0, none⟩) Q.length cap3) Q ∧
                  apart (.slice (some ⟨g3, 0, none⟩) Q.length cap3) (.slice (some ⟨g, 0, none⟩) (l.length + 1) cap') ∧
                  Below S w (((wr.alloc (.cells #[.int .i32 x.1, .int .i32 x.2] 44)).drewN n).setCell ⟨g, l.length * 2 + 1, none⟩ (.int .i32 (max c.2 x.2))) := fun n => by
                have hb : Below wr.heap.size wr ((wr.alloc (.cells #[.int .i32 x.1, .int .i32 x.2] 44)).drewN n) := below_drewN ((RowKit.Below.refl _ wr).alloc (Nat.le_refl _) _) n
                have hgg : (Value.slice (some ⟨g3, 0, none⟩) Q.length cap3).ownBlock ≠ some (⟨g, l.length * 2 + 1, none⟩ : Addr).block := fun e => HA.out g3 rfl (by
                  have e' : g3 = g := by simpa [Value.ownBlock] using e
                  rw [e']; rfl)
                refine ⟨?_, (HI.out.stay hb).setFar hgg _, HA.out, (HB.out.trans (hb.mono hszr)).setCell h44 _⟩
                rw [HPS.out, ofStep_snoc, if_pos ht]
                exact Rowed.setHi (HW.out.stay hb) _
              have HFIN := Lib.hid hfin
              clear hfin
              go_wp2_with fail
              go_region
              all_goals go_wp2_with fail
              all_goals go_roundw
              case rel => exact ⟨k + 1, by omega, by go_num, HFIN.out _⟩
              case measure => simp [intOf]; omega
            · have ht' : decide (x.1 ≤ c.2 + 1) = false := decide_eq_false ht
              have hown' := Lib.hid (show wr.ownsRow S 44 2 (.slice (some ⟨g, 0, none⟩) (l.length + 1) cap') (l.length + 1) (rcells (l ++ [c])) by
                have := HW.out
                unfold Rowed at this
                rw [hl1] at this
                exact this)
              go_wp2_with fail
              go_quiet (fail)
              go_wp2_with (at_builtin; refine wpList_append_own_at _ rfl _ _ 23 rfl S 44 i0 (.agg #[.int .i32 0, .int .i32 0]) 2 8 Tryd.underlying23 hi hz0 hz1 hz2 rfl (by decide) _ _ _ rfl (World.ownsRow.alloc (w := (wr.alloc _).drewN _) (hown'.out.alloc _) _) ⟨wr.heap.size + 1, 0, none⟩ 1 1 [.int .i32 x.1, .int .i32 x.2] rfl rfl ?d1 ?d2 ?d3 ?d4 ?d5 ?_)
              case d1 => exact news2 _ _ _ #[_, _] _
              case d2 => intro u hu; simp at hu; rcases hu with rfl | rfl <;> rfl
              case d3 => unfold maxLen; omega
              case d4 => omega
              case d5 => simp; omega
              intro v' w2 hown2 hgrow _ hat
              have HR2 : Hid (Rowed w2 S v' (put Q (k + 1))) := by
                rw [HPS.out, ofStep_snoc, if_neg (by omega)]
                unfold Rowed
                rw [rcells_append (l ++ [c]), List.length_append, hl1]
                exact Lib.hid hown2
              have HN := Lib.hid (out_next HI.out HA.out HB.out hszr (fun k hk => (hown'.out.lt k hk).1) hgrow (by simp) hat)
              clear hown2 hgrow hat hown'
              go_wp2
              go_roundw
              case rel => exact ⟨k + 1, by omega, by go_num, HR2.out, HN.out⟩
              case measure => simp [intOf]; omega
        · obtain rfl : k = Q.length := by omega
          have hres : ∃ O, put Q Q.length = O ∧ IsOf L O ∧ O.length ≤ L.length := ⟨_, rfl, by
            unfold put
            rw [List.take_length]
            exact of_is (by rw [HM.out]; exact HP.out) HRI.out, Nat.le_trans (put_len Q _) (by have := HQM.out; omega)⟩
          obtain ⟨O, hO, hO1, hO2⟩ := hres
          rw [hO] at hrow
          have HR2 := Lib.hid hrow
          have HO1 := Lib.hid hO1
          clear hrow hin hlt hO hO1 HW
          go_wp2
          go_ret
          exact ⟨_, O, rfl, HR2.out, HO1.out, hO2, HB.out⟩

end Go.Proofs.YtfjlhfalnciamaaDoor.Chars

namespace Go.Proofs.YtfjlhfalnciamaaDoor.Chars
open Go Go.RowKit Go.Proofs.Chars

def notStep (s : Int × List Rg) (x : Rg) : Int × List Rg := (x.2 + 1, s.2 ++ if s.1 < x.1 then [(s.1, x.1 - 1)] else [])
theorem notStep_go : ∀ (l : List Rg) (n : Int) (out : List Rg), (l.foldl notStep (n, out)).2 ++ (if (l.foldl notStep (n, out)).1 ≤ most then [((l.foldl notStep (n, out)).1, most)] else []) = out ++ notGo n l
  | [], n, out => by simp only [List.foldl_nil, notGo]; rfl
  | x :: l, n, out => by
    have := notStep_go l (x.2 + 1) (out ++ if n < x.1 then [(n, x.1 - 1)] else [])
    simp only [List.foldl_cons, notStep]
    rw [this, notGo, List.append_assoc]
def notAt (O : List Rg) (k : Nat) : Int × List Rg := (O.take k).foldl notStep (0, [])
theorem notAt_succ {O : List Rg} {k : Nat} {x : Rg} (h : O[k]? = some x) : notAt O (k + 1) = notStep (notAt O k) x := by
  have hk : k < O.length := (List.getElem?_eq_some_iff.1 h).1
  have hx : O[k] = x := (List.getElem?_eq_some_iff.1 h).2
  unfold notAt
  rw [List.take_succ_eq_append_getElem hk, List.foldl_append, hx]; rfl
theorem canon_all : ∀ {L : List Rg} {b : Int}, Canon b L → 0 ≤ b → ∀ x ∈ L, 0 ≤ x.1 ∧ x.1 ≤ x.2 ∧ x.2 ≤ most
  | [], _, _, _, x, h => by cases h
  | y :: l, b, hc, hb, x, h => by
    have h1 := hc.1
    have h2 := hc.2.1
    have h3 := hc.2.2.1
    rcases List.mem_cons.1 h with rfl | h
    · exact ⟨by omega, by omega, by omega⟩
    · exact canon_all hc.2.2.2 (by omega) x h
theorem notAt_ok {O : List Rg} (hc : Canon 0 O) : ∀ k, k ≤ O.length → (0 ≤ (notAt O k).1 ∧ (notAt O k).1 ≤ most + 1) ∧ (notAt O k).2.length ≤ k
  | 0, _ => by simp [notAt, most]
  | k + 1, h => by
    obtain ⟨x, hx⟩ : ∃ x, O[k]? = some x := ⟨O[k], List.getElem?_eq_getElem (by omega)⟩
    have ih := notAt_ok hc k (by omega)
    have hb := canon_all hc (Int.le_refl _) x (List.mem_of_getElem? hx)
    rw [notAt_succ hx]
    unfold notStep
    refine ⟨⟨?_, ?_⟩, ?_⟩
    · show 0 ≤ x.2 + 1; omega
    · show x.2 + 1 ≤ most + 1; omega
    · simp only [List.length_append]
      split <;> simp <;> omega

theorem news1 (w : World) (cs : Array Value) (t : TypeId) : ∀ j u, cs.toList[j]? = some u → (w.alloc (.cells cs t)).cell? ((⟨w.heap.size, 0, none⟩ : Addr).add j) = some u :=
  World.news_of_block (t := t) (fr := (0, 0)) (heap_alloc_new w (.cells cs t))

set_option maxRecDepth 100000 in
theorem not_any {w : World} {va : Value} {L : List Rg} (H : Rgs w va L) (hL : L.length ≤ 50000) :
    Calls Tryd.prog 21 #[va] w fun e w' => ∃ v O, e = .returned v ∧ Rowed w' w.heap.size v O ∧ Canon 0 O ∧ (∀ r, memU O r ↔ 0 ≤ r ∧ r ≤ most ∧ ¬ memU L r) ∧ O.length ≤ L.length + 1 ∧ Below w.heap.size w w' := by
  obtain ⟨i0, hi, hz0, hz1, hz2⟩ := info_parts info44
  have HO := Lib.hid (of_any H (by omega))
  clear H
  go_enter Tryd.func21, Tryd.ntmps21
  go_wp2_with fail
  refine HO.out.mono ?_
  rintro e w1 ⟨vo, O, rfl, hro, hof, hol, hb1⟩
  obtain ⟨S, hS⟩ : ∃ S, S = w1.heap.size := ⟨_, rfl⟩
  have hs1 : w.heap.size ≤ S := by rw [hS]; exact hb1.size
  have hsz : S ≤ w1.heap.size := by omega
  have hlen := fun wx => Rgs.len (hro.rgs (canon_in32 hof.1 (Int.le_refl _))) 3 wx
  have HLEN := Lib.hid (hlen w1)
  have hlen1 := hlen w1
  have HS := Lib.hid hS
  have HRO := Lib.hid hro
  have HOF := Lib.hid hof
  have HB1 := Lib.hid hb1
  clear hro hof hb1 hS HO hlen
  go_wp2_with fail
  go_loopw [3, 4, 6, 10] (fun v n x i wx => ∃ k : Nat, k ≤ O.length ∧ i = .int .i64 (k : Int) ∧ n = .int .i32 (notAt O k).1 ∧ Rowed wx S v (notAt O k).2 ∧ Below S w1 wx) (fun _ _ _ i _ => O.length - (intOf i).toNat)
  case atStart => exact ⟨0, Nat.zero_le _, rfl, rfl, ⟨rfl, .inl ⟨rfl, rfl⟩⟩, Below.refl _ _⟩
  case round =>
    obtain ⟨k, hk, rfl, rfl, hrow, hB⟩ := hrel
    have HW := Lib.hid hrow
    have HB := Lib.hid hB
    have hszr : S ≤ wr.heap.size := Nat.le_trans hsz hB.size
    obtain ⟨⟨hn0, hn1⟩, hnl⟩ := notAt_ok HOF.out.1 k hk
    unfold most at hn1
    by_cases hlt : k < O.length
    · obtain ⟨g, cap, rfl, h31, h32, h33, h34, h35, hcell⟩ := HRO.out.at (by omega)
      obtain ⟨x, hx⟩ : ∃ x, O[k]? = some x := ⟨O[k], List.getElem?_eq_getElem hlt⟩
      obtain ⟨c0, c1⟩ := hcell k x hx
      have hgS : g < S := by rw [HS.out]; exact h33
      have e0 := (hB.cell (p := ⟨g, k * 2, none⟩) hgS).trans c0
      have e1 := (hB.cell (p := ⟨g, k * 2 + 1, none⟩) hgS).trans c1
      have hxv := canon_all HOF.out.1 (Int.le_refl _) x (List.mem_of_getElem? hx)
      have hx1 := hxv.1
      have hx2 := hxv.2.1
      have hx3 := hxv.2.2
      unfold most at hx3
      have HST := Lib.hid (notAt_succ hx)
      obtain ⟨st, hst⟩ : ∃ st, notAt O k = st := ⟨_, rfl⟩
      rw [hst] at HST HW hn0 hn1 hnl ⊢
      have hown' := Lib.hid (show wr.ownsRow S 44 2 u3 st.2.length (rcells st.2) from HW.out)
      have ws1 : IntKind.i32.wrap (x.1 - 1) = x.1 - 1 := IntWalk.i32_in _ (by omega)
      have ws2 : IntKind.i32.wrap (x.2 + 1) = x.2 + 1 := IntWalk.i32_in _ (by omega)
      clear hx hcell c0 c1 hrow hB h35 hxv hst
      by_cases hc : st.1 < x.1
      · have hc' : decide (st.1 < x.1) = true := decide_eq_true hc
        go_wp2_with (at_builtin; refine wpList_append_own _ rfl _ _ 23 rfl S 44 i0 (.agg #[.int .i32 0, .int .i32 0]) 2 8 Tryd.underlying23 hi hz0 hz1 hz2 rfl (by decide) _ _ _ rfl ((hown'.out.alloc _).alloc _) ⟨wr.heap.size + 1, 0, none⟩ 1 1 [.int .i32 st.1, .int .i32 (x.1 - 1)] rfl rfl ?c1 ?c2 ?c3 ?c4 ?c5 ?_)
        case c1 => exact news2 _ _ 0 #[_, _] _
        case c2 => intro u hu; simp at hu; rcases hu with rfl | rfl <;> rfl
        case c3 => unfold maxLen; omega
        case c4 => omega
        case c5 => simp; omega
        intro v' w2 hown2 hgrow _
        have HR2 : Hid (notAt O (k + 1) = (x.2 + 1, st.2 ++ [(st.1, x.1 - 1)])) := by
          rw [HST.out]; unfold notStep; rw [if_pos hc]; exact Lib.hid rfl
        have HR3 : Hid (Rowed w2 S v' (st.2 ++ [(st.1, x.1 - 1)])) := by
          unfold Rowed
          rw [rcells_append, List.length_append]
          exact Lib.hid hown2
        have HB2 : Hid (Below S w1 w2) := (((HB.out.alloc hszr _).alloc (by simp; omega) _).grown hgrow (by simp; omega) fun k hk => (hown'.out.lt k hk).1)
        have hcx := (hgrow.cell_far ⟨wr.heap.size, 1, none⟩ (by simp; omega) (fun e => by have := HW.out.block_lt e.symm; simp at this)).trans (show _ = some (.int .i32 x.2) by simp)
        clear hown2 hgrow hown'
        go_wp2
        go_roundw
        case rel => exact ⟨k + 1, by omega, by go_num, by rw [HR2.out], by rw [HR2.out]; exact HR3.out, HB2.out⟩
        case measure => simp [intOf]; omega
      · have hc' : decide (st.1 < x.1) = false := decide_eq_false hc
        have HR2 : Hid (notAt O (k + 1) = (x.2 + 1, st.2)) := by
          rw [HST.out]; unfold notStep; rw [if_neg hc, List.append_nil]; exact Lib.hid rfl
        go_wp2
        go_roundw
        case rel => exact ⟨k + 1, by omega, by go_num, by rw [HR2.out], by rw [HR2.out]; exact HW.out.stay ((RowKit.Below.refl _ _).alloc (Nat.le_refl _) _), HB.out.alloc hszr _⟩
        case measure => simp [intOf]; omega
    · obtain rfl : k = O.length := by omega
      have hgo := notStep_go O 0 []
      have hat : notAt O O.length = O.foldl notStep (0, []) := by unfold notAt; rw [List.take_length]
      rw [← hat, List.nil_append] at hgo
      obtain ⟨hcan, hmem⟩ := not_is HOF.out
      obtain ⟨st, hst⟩ : ∃ st, notAt O O.length = st := ⟨_, rfl⟩
      rw [hst] at hgo HW hn0 hn1 hnl ⊢
      have HG := Lib.hid hgo
      have HCN := Lib.hid hcan
      have HME := Lib.hid hmem
      have hown' := Lib.hid (show wr.ownsRow S 44 2 u3 st.2.length (rcells st.2) from HW.out)
      clear hgo hcan hmem hst hat hrow hB hlt
      by_cases hc : st.1 ≤ 1114111
      · have hc' : decide (st.1 ≤ 1114111) = true := decide_eq_true hc
        go_wp2_with (at_builtin; refine wpList_append_own _ rfl _ _ 23 rfl S 44 i0 (.agg #[.int .i32 0, .int .i32 0]) 2 8 Tryd.underlying23 hi hz0 hz1 hz2 rfl (by decide) _ _ _ rfl (hown'.out.alloc _) ⟨wr.heap.size, 0, none⟩ 1 1 [.int .i32 st.1, .int .i32 1114111] rfl rfl ?d1 ?d2 ?d3 ?d4 ?d5 ?_)
        case d1 => exact news1 _ #[_, _] _
        case d2 => intro u hu; simp at hu; rcases hu with rfl | rfl <;> rfl
        case d3 => unfold maxLen; omega
        case d4 => omega
        case d5 => simp; omega
        intro v' w2 hown2 hgrow _
        have HR2 : Hid (Rowed w2 S v' (notGo 0 O)) := by
          rw [← HG.out, if_pos (show st.1 ≤ most from hc)]
          unfold Rowed
          rw [rcells_append, List.length_append]
          exact Lib.hid hown2
        have hll : (notGo 0 O).length ≤ L.length + 1 := by
          rw [← HG.out, if_pos (show st.1 ≤ most from hc), List.length_append]; simp; omega
        have HB2 : Hid (Below w.heap.size w w2) := HB1.out.trans (((HB.out.alloc hszr _).grown hgrow (by simp; omega) fun k hk => (hown'.out.lt k hk).1).mono hs1)
        clear hown2 hgrow hown'
        go_wp2
        go_ret
        exact ⟨_, _, rfl, HR2.out.low hs1, HCN.out, HME.out, hll, HB2.out⟩
      · have hc' : decide (st.1 ≤ 1114111) = false := decide_eq_false hc
        have HR2 : Hid (Rowed wr S u3 (notGo 0 O)) := by
          rw [← HG.out, if_neg (show ¬ st.1 ≤ most from hc), List.append_nil]
          exact HW
        have hll : (notGo 0 O).length ≤ L.length + 1 := by
          rw [← HG.out, if_neg (show ¬ st.1 ≤ most from hc), List.append_nil]; omega
        have HB2 : Hid (Below w.heap.size w wr) := HB1.out.trans (HB.out.mono hs1)
        go_wp2
        go_ret
        exact ⟨_, rfl, _, HR2.out.low hs1, HCN.out, HME.out, hll, HB2.out⟩

end Go.Proofs.YtfjlhfalnciamaaDoor.Chars

namespace Go.Proofs.YtfjlhfalnciamaaDoor.Chars
open Go Go.RowKit Go.Proofs.Chars

theorem andGo_step {A B : List Rg} {i j : Nat} {x y : Rg} (hx : A[i]? = some x) (hy : B[j]? = some y) :
    andGo (A.drop i) (B.drop j) = (if max x.1 y.1 ≤ min x.2 y.2 then [(max x.1 y.1, min x.2 y.2)] else []) ++ (if x.2 < y.2 then andGo (A.drop (i + 1)) (B.drop j) else andGo (A.drop i) (B.drop (j + 1))) := by
  have hi : i < A.length := (List.getElem?_eq_some_iff.1 hx).1
  have hj : j < B.length := (List.getElem?_eq_some_iff.1 hy).1
  have ex : A[i] = x := (List.getElem?_eq_some_iff.1 hx).2
  have ey : B[j] = y := (List.getElem?_eq_some_iff.1 hy).2
  have e1 : A.drop i = x :: A.drop (i + 1) := by rw [List.drop_eq_getElem_cons hi, ex]
  have e2 : B.drop j = y :: B.drop (j + 1) := by rw [List.drop_eq_getElem_cons hj, ey]
  rw [e1, e2, andGo, ← e1, ← e2]
theorem andGo_end {A B : List Rg} {i j : Nat} (h : A.length ≤ i ∨ B.length ≤ j) : andGo (A.drop i) (B.drop j) = [] := by
  rcases h with h | h
  · rw [List.drop_of_length_le h, andGo]
  · rw [List.drop_of_length_le h]
    cases A.drop i with
    | nil => rw [andGo]
    | cons _ _ => rw [andGo]

set_option maxRecDepth 100000 in
set_option maxHeartbeats 4000000 in
theorem and_any {w : World} {va vb : Value} {L M : List Rg} (Ha : Rgs w va L) (Hb : Rgs w vb M) (hL : L.length ≤ 50000) (hM : M.length ≤ 50000) :
    Calls Tryd.prog 19 #[va, vb] w fun e w' => ∃ v O, e = .returned v ∧ Rowed w' w.heap.size v O ∧ Canon 0 O ∧ (∀ r, memU O r ↔ memU L r ∧ memU M r) ∧ O.length ≤ L.length + M.length ∧ Below w.heap.size w w' := by
  obtain ⟨i0, hi, hz0, hz1, hz2⟩ := info_parts info44
  have HO := Lib.hid (of_any Ha (by omega))
  have HHB := Lib.hid Hb
  clear Ha Hb
  go_enter Tryd.func19, Tryd.ntmps19
  go_wp2_with fail
  refine HO.out.mono ?_
  rintro e w0 ⟨v1, A, rfl, hra, hofa, hola, hb0⟩
  have HO := Lib.hid (of_any (HHB.out.stay hb0) (by omega))
  have HRA := Lib.hid hra
  have HOA := Lib.hid hofa
  have HB0 := Lib.hid hb0
  clear hra hofa hb0
  go_wp2_with fail
  refine HO.out.mono ?_
  rintro e w1 ⟨v2, B, rfl, hrb, hofb, holb, hb1⟩
  have hra := HRA.out.stay hb1
  have HB1 := Lib.hid (HB0.out.trans (hb1.mono HB0.out.size))
  obtain ⟨S, hS⟩ : ∃ S, S = w1.heap.size := ⟨_, rfl⟩
  have hs1 : w.heap.size ≤ S := by rw [hS]; exact HB1.out.size
  have hsz : S ≤ w1.heap.size := by omega
  have hlena := fun wx => Rgs.len (hra.rgs (canon_in32 HOA.out.1 (Int.le_refl _))) 3 wx
  have hlenb := fun wx => Rgs.len (hrb.rgs (canon_in32 hofb.1 (Int.le_refl _))) 3 wx
  have HLA := Lib.hid hlena
  have HLB := Lib.hid hlenb
  have HS := Lib.hid hS
  have HRA := Lib.hid hra
  have HRB := Lib.hid hrb
  have HOB := Lib.hid hofb
  clear hra hrb hofb hb1 hS HO hlena hlenb HHB HB0
  go_wp2_with fail
  go_loopw [7, 8, 9, 10] (fun v i j x wx => ∃ (a b : Nat) (out : List Rg), a ≤ A.length ∧ b ≤ B.length ∧ i = .int .i64 (a : Int) ∧ j = .int .i64 (b : Int) ∧ out.length ≤ a + b ∧ out ++ andGo (A.drop a) (B.drop b) = andGo A B ∧ Rowed wx S v out ∧ Below S w1 wx) (fun _ i j _ _ => (A.length - (intOf i).toNat) + (B.length - (intOf j).toNat))
  case atStart => exact ⟨0, 0, [], Nat.zero_le _, Nat.zero_le _, rfl, rfl, by simp, by simp, ⟨rfl, .inl ⟨rfl, rfl⟩⟩, Below.refl _ _⟩
  case round =>
    obtain ⟨a, b, out, hka, hkb, rfl, rfl, hol, hgo, hrow, hB⟩ := hrel
    have HW := Lib.hid hrow
    have HB := Lib.hid hB
    have HG := Lib.hid hgo
    have hszr : S ≤ wr.heap.size := Nat.le_trans hsz hB.size
    have hlena := HLA.out wr
    have hlenb := HLB.out wr
    by_cases hlt : a < A.length ∧ b < B.length
    · obtain ⟨hla, hlb⟩ := hlt
      obtain ⟨g, cap, rfl, h31, h32, h33, h34, h35, hcell⟩ := HRA.out.at (by omega)
      obtain ⟨g', cap', rfl, h41, h42, h43, h44, h45, hcell'⟩ := HRB.out.at (by omega)
      obtain ⟨x, hx⟩ : ∃ x, A[a]? = some x := ⟨A[a], List.getElem?_eq_getElem hla⟩
      obtain ⟨y, hy⟩ : ∃ y, B[b]? = some y := ⟨B[b], List.getElem?_eq_getElem hlb⟩
      have hgS : g < S := by rw [HS.out]; exact h33
      have hgS' : g' < S := by rw [HS.out]; exact h43
      have e0 := (hB.cell (p := ⟨g, a * 2, none⟩) hgS).trans (hcell a x hx).1
      have e1 := (hB.cell (p := ⟨g, a * 2 + 1, none⟩) hgS).trans (hcell a x hx).2
      have e2 := (hB.cell (p := ⟨g', b * 2, none⟩) hgS').trans (hcell' b y hy).1
      have e3 := (hB.cell (p := ⟨g', b * 2 + 1, none⟩) hgS').trans (hcell' b y hy).2
      have HST := Lib.hid (andGo_step hx hy)
      have hown' := Lib.hid (show wr.ownsRow S 44 2 u7 out.length (rcells out) from HW.out)
      clear hx hy hcell hcell' hrow hB h35 h45 hgo
      go_upto_region 5 with fail
      go_cut [10] (fun p wx => p = .pointer (some ⟨wr.heap.size, 0, none⟩) ∧ wx = (wr.alloc (.cells #[.int .i32 (max x.1 y.1), .int .i32 (min x.2 y.2)] 44)).drew)
      case first =>
        go_region_held3 (fun w' => w'.cell? ⟨g, a * 2, none⟩ = some (.int .i32 x.1) ∧ w'.cell? ⟨g, a * 2 + 1, none⟩ = some (.int .i32 x.2) ∧ w'.cell? ⟨g', b * 2, none⟩ = some (.int .i32 y.1) ∧ w'.cell? ⟨g', b * 2 + 1, none⟩ = some (.int .i32 y.2)) (go_keep) (fail)
        all_goals (go_wp2_with fail; go_meet; exact ⟨rfl, rfl⟩)
      case rest =>
        obtain ⟨rfl, rfl⟩ := hcut
        have hb0 : Below wr.heap.size wr (wr.alloc (.cells #[.int .i32 (max x.1 y.1), .int .i32 (min x.2 y.2)] 44)).drew := ((RowKit.Below.refl _ wr).alloc (Nat.le_refl _) _).drew
        by_cases hmm : max x.1 y.1 ≤ min x.2 y.2
        · have hmm' : decide (max x.1 y.1 ≤ min x.2 y.2) = true := decide_eq_true hmm
          have HST2 := HST.out
          rw [if_pos hmm] at HST2
          have HST := Lib.hid HST2
          clear HST2
          go_wp2_with (at_builtin; refine wpList_append_own _ rfl _ _ 23 rfl S 44 i0 (.agg #[.int .i32 0, .int .i32 0]) 2 8 Tryd.underlying23 hi hz0 hz1 hz2 rfl (by decide) _ _ _ rfl (World.ownsRow.alloc (w := (wr.alloc _).drew) (hown'.out.alloc _) _) ⟨wr.heap.size + 1, 0, none⟩ 1 1 [.int .i32 (max x.1 y.1), .int .i32 (min x.2 y.2)] rfl rfl ?c1 ?c2 ?c3 ?c4 ?c5 ?_)
          case c1 => exact news2 _ _ 1 #[_, _] _
          case c2 => intro u hu; simp at hu; rcases hu with rfl | rfl <;> rfl
          case c3 => unfold maxLen; omega
          case c4 => omega
          case c5 => simp; omega
          intro v' w2 hown2 hgrow _
          have HR2 : Hid (Rowed w2 S v' (out ++ [(max x.1 y.1, min x.2 y.2)])) := by
            unfold Rowed
            rw [rcells_append, List.length_append]
            exact Lib.hid hown2
          have hbY : Below wr.heap.size wr ((wr.alloc (.cells #[.int .i32 (max x.1 y.1), .int .i32 (min x.2 y.2)] 44)).alloc (.cells #[.int .i32 (max x.1 y.1), .int .i32 (min x.2 y.2)] 44)).drew := (((RowKit.Below.refl _ wr).alloc (Nat.le_refl _) _).alloc (by simp) _).drew
          have hne : ∀ q, q < S → some q ≠ u7.ownBlock := fun q hq e => by have := (hown'.out.lt q e.symm).1; omega
          have e1' := (hgrow.cell_far ⟨g, a * 2 + 1, none⟩ (by simp; omega) (hne g hgS)).trans ((hbY.cell (p := ⟨g, a * 2 + 1, none⟩) (by show g < _; omega)).trans e1)
          have e3' := (hgrow.cell_far ⟨g', b * 2 + 1, none⟩ (by simp; omega) (hne g' hgS')).trans ((hbY.cell (p := ⟨g', b * 2 + 1, none⟩) (by show g' < _; omega)).trans e3)
          have HB2 : Hid (Below S w1 w2) := (HB.out.trans (hbY.mono hszr)).grown hgrow (by simp; omega) fun k hk => (hown'.out.lt k hk).1
          have hol2 : (out ++ [(max x.1 y.1, min x.2 y.2)]).length ≤ a + b + 1 := by simp; omega
          have HN2 := Lib.hid (fun n => (show Rowed (w2.drewN n) S v' (out ++ [(max x.1 y.1, min x.2 y.2)]) from HR2.out.of_heap rfl))
          have HB3 := Lib.hid (fun n => below_drewN HB2.out n)
          clear hown2 hgrow hown' hb0 hbY hne e0 e1 e2 e3 HB2 HB
          by_cases hlt : x.2 < y.2
          · have hlt' : decide (x.2 < y.2) = true := decide_eq_true hlt
            have HG2 : Hid ((out ++ [(max x.1 y.1, min x.2 y.2)]) ++ andGo (A.drop (a + 1)) (B.drop b) = andGo A B) := by
              have h1 := HG.out
              rw [HST.out, if_pos hlt, ← List.append_assoc] at h1
              exact Lib.hid h1
            go_wp2_with fail
            go_quiet (fail)
            go_wp2
            go_roundw
            case rel => exact ⟨a + 1, b, _, by omega, by omega, by go_num, rfl, by omega, HG2.out, HN2.out _, HB3.out _⟩
            case measure => simp [intOf]; omega
          · have hlt' : decide (x.2 < y.2) = false := decide_eq_false hlt
            have HG2 : Hid ((out ++ [(max x.1 y.1, min x.2 y.2)]) ++ andGo (A.drop a) (B.drop (b + 1)) = andGo A B) := by
              have h1 := HG.out
              rw [HST.out, if_neg hlt, ← List.append_assoc] at h1
              exact Lib.hid h1
            go_wp2_with fail
            go_quiet (fail)
            go_wp2
            go_roundw
            case rel => exact ⟨a, b + 1, _, by omega, by omega, rfl, by go_num, by omega, HG2.out, HN2.out _, HB3.out _⟩
            case measure => simp [intOf]; omega
        · have hmm' : decide (max x.1 y.1 ≤ min x.2 y.2) = false := decide_eq_false hmm
          have HST2 := HST.out
          rw [if_neg hmm] at HST2
          have HST := Lib.hid HST2
          have hgw : g < wr.heap.size := by omega
          have hgw' : g' < wr.heap.size := by omega
          have HN2 := Lib.hid (fun n => (show Rowed ((wr.alloc (.cells #[.int .i32 (max x.1 y.1), .int .i32 (min x.2 y.2)] 44)).drewN n) S u7 out from (HW.out.stay hb0).of_heap rfl))
          have HB3 := Lib.hid (fun n => below_drewN (HB.out.trans ((((RowKit.Below.refl _ wr).alloc (Nat.le_refl _) (.cells #[.int .i32 (max x.1 y.1), .int .i32 (min x.2 y.2)] 44))).mono hszr)) n)
          have hol2 : out.length ≤ a + b + 1 := by omega
          clear HST2 hown' hb0 e0 e2 HB
          by_cases hlt : x.2 < y.2
          · have hlt' : decide (x.2 < y.2) = true := decide_eq_true hlt
            have HG2 : Hid (out ++ andGo (A.drop (a + 1)) (B.drop b) = andGo A B) := by
              have h1 := HG.out
              rw [HST.out, if_pos hlt, List.nil_append] at h1
              exact Lib.hid h1
            go_wp2_with fail
            go_quiet (fail)
            go_wp2
            go_roundw
            case rel => exact ⟨a + 1, b, _, by omega, by omega, by go_num, rfl, by omega, HG2.out, HN2.out _, HB3.out _⟩
            case measure => simp [intOf]; omega
          · have hlt' : decide (x.2 < y.2) = false := decide_eq_false hlt
            have HG2 : Hid (out ++ andGo (A.drop a) (B.drop (b + 1)) = andGo A B) := by
              have h1 := HG.out
              rw [HST.out, if_neg hlt, List.nil_append] at h1
              exact Lib.hid h1
            go_wp2_with fail
            go_quiet (fail)
            go_wp2
            go_roundw
            case rel => exact ⟨a, b + 1, _, by omega, by omega, rfl, by go_num, by omega, HG2.out, HN2.out _, HB3.out _⟩
            case measure => simp [intOf]; omega
    · have hend : A.length ≤ a ∨ B.length ≤ b := by omega
      have hres : out = andGo A B := by have h1 := hgo; rw [andGo_end hend, List.append_nil] at h1; exact h1
      obtain ⟨hcan, hmem⟩ := and_is HOA.out HOB.out
      rw [← hres] at hcan hmem
      have hll : out.length ≤ L.length + M.length := by omega
      have HC := Lib.hid hcan
      have HM := Lib.hid hmem
      have HB2 : Hid (Below w.heap.size w wr) := HB1.out.trans (HB.out.mono hs1)
      clear hres hcan hmem hgo hrow hB
      by_cases hla : a < A.length
      · have d1 : (a : Int) < A.length := by omega
        have d2 : ¬ (b : Int) < B.length := by omega
        have d3 : decide ((a : Int) < A.length) = true := decide_eq_true d1
        have d4 : decide ((b : Int) < B.length) = false := decide_eq_false d2
        go_wp2
        go_ret
        first | exact ⟨_, _, rfl, HW.out.low hs1, HC.out, HM.out, hll, HB2.out⟩ | exact ⟨_, rfl, _, HW.out.low hs1, HC.out, HM.out, hll, HB2.out⟩
      · have d1 : ¬ (a : Int) < A.length := by omega
        have d3 : decide ((a : Int) < A.length) = false := decide_eq_false d1
        go_wp2
        go_ret
        first | exact ⟨_, _, rfl, HW.out.low hs1, HC.out, HM.out, hll, HB2.out⟩ | exact ⟨_, rfl, _, HW.out.low hs1, HC.out, HM.out, hll, HB2.out⟩

set_option maxRecDepth 100000 in
theorem less_any {w : World} {va vb : Value} {L M : List Rg} (Ha : Rgs w va L) (Hb : Rgs w vb M) (hL : L.length ≤ 40000) (hM : M.length ≤ 40000) :
    Calls Tryd.prog 20 #[va, vb] w fun e w' => ∃ v O, e = .returned v ∧ Rowed w' w.heap.size v O ∧ Canon 0 O ∧ (∀ r, memU O r ↔ memU L r ∧ ¬ memU M r) ∧ O.length ≤ L.length + M.length + 1 ∧ Below w.heap.size w w' := by
  have HN := Lib.hid (not_any Hb (by omega))
  have HA := Lib.hid Ha
  clear Ha Hb
  go_enter Tryd.func20, Tryd.ntmps20
  go_wp2_with fail
  refine HN.out.mono ?_
  rintro e w1 ⟨v1, O, rfl, hr, hc, hm, hl, hb⟩
  have HD := Lib.hid (and_any (HA.out.stay hb) (hr.rgs (canon_in32 hc (Int.le_refl _))) (by omega) (by omega))
  have HM := Lib.hid hm
  have HB := Lib.hid hb
  have hsz := hb.size
  clear hr hc hm hb HN
  go_wp2_with fail
  refine HD.out.mono ?_
  rintro e w2 ⟨v2, Q, rfl, hr2, hc2, hm2, hl2, hb2⟩
  have hm3 : ∀ r, memU Q r ↔ memU L r ∧ ¬ memU M r := fun r => by
    rw [hm2, HM.out]
    constructor
    · rintro ⟨h1, h2⟩; exact ⟨h1, h2.2.2⟩
    · rintro ⟨h1, h2⟩; exact ⟨h1, h1.1, h1.2.1, h2⟩
  have HR := Lib.hid (hr2.low hsz)
  have HC := Lib.hid hc2
  have HM3 := Lib.hid hm3
  have hll : Q.length ≤ L.length + M.length + 1 := by omega
  have HB2 : Hid (Below w.heap.size w w2) := HB.out.trans (hb2.mono hsz)
  clear hr2 hc2 hm2 hm3 hb2 HD HM
  go_wp2
  go_ret
  exact ⟨_, _, rfl, HR.out, HC.out, HM3.out, hll, HB2.out⟩

end Go.Proofs.YtfjlhfalnciamaaDoor.Chars
