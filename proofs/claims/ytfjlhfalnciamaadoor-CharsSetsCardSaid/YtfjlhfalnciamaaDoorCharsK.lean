/- Two rows put together (slices.Concat), and the numbers of any of two sets (Or), walked. -/
import Derived.Test.YtfjlhfalnciamaaDoorCharsJ
import Derived.Lib.AppendZeros
namespace Go.Proofs.YtfjlhfalnciamaaDoor.Chars
open Go Go.RowKit Go.Proofs.Chars

/-- Ranges of any slice, nil or not, behind a row of one's own: the run. -/
theorem run_more {w : World} {S : Nat} {v va : Value} {X L : List Rg} (hX : Rowed w S v X) (hL : Rgs w va L) (hs : X.length + L.length ≤ 200000) (hS : S ≤ w.heap.size) (ty : TypeId) :
    ∃ v' w', (Builtin.append_ #[23, 23] ty #[v, va]).run Tryd.prog w = .ok v' w' ∧ Rowed w' S v' (X ++ L) ∧ w.grownBy w' v.ownBlock ∧ (v'.ownBlock = v.ownBlock ∨ v'.ownBlock = some w.heap.size) := by
  obtain ⟨i0, hi, hz0, hz1, hz2⟩ := info_parts info44
  obtain ⟨_, A, cap, rfl, hc1, hc2, hc⟩ := hL
  by_cases hl : 0 < L.length
  · obtain ⟨b, off, rfl, hb, hcell⟩ := hc hl
    have hnews : ∀ j u, (rcells L)[j]? = some u → w.cell? ((⟨b, off, none⟩ : Addr).add j) = some u := fun j u hu => by
      have ha : (⟨b, off, none⟩ : Addr).add j = ⟨b, off + j, none⟩ := by
        by_cases h : j = 0
        · subst h; simp [Addr.add]
        · simp [Addr.add, h]
      have hj : j < L.length * 2 := by rw [← rcells_len]; exact (List.getElem?_eq_some_iff.1 hu).1
      have hx : L[j / 2]? = some L[j / 2] := List.getElem?_eq_getElem (by omega)
      have hg := rcells_get hx
      have hcc := hcell _ _ hx
      rw [ha]
      rcases Nat.mod_two_eq_zero_or_one j with h | h
      · have e : j / 2 * 2 = j := by omega
        rw [e] at hg hcc
        rw [hcc.1, ← hg.1, hu]
      · have e : j / 2 * 2 + 1 = j := by omega
        have e2 : off + j / 2 * 2 + 1 = off + j := by omega
        rw [e] at hg
        rw [e2] at hcc
        rw [hcc.2, ← hg.2, hu]
    obtain ⟨v', w', hr, h2, h3, _, h5⟩ := run_append_own_at (P := Tryd.prog) w S 23 ty 44 i0 (.agg #[.int .i32 0, .int .i32 0]) 2 8 Tryd.underlying23 hi hz0 hz1 hz2 rfl (by decide) v X.length (rcells X) hX ⟨b, off, none⟩ L.length cap (rcells L) (rcells_len L) hnews
      (fun u hu => by
        simp only [rcells, List.mem_flatMap] at hu
        obtain ⟨x, _, hu⟩ := hu
        simp at hu
        rcases hu with rfl | rfl <;> rfl) (by unfold maxLen; omega) (by omega) hS
    refine ⟨v', w', hr, ?_, h3, h5⟩
    unfold Rowed
    rw [rcells_append, List.length_append]
    exact h2
  · have hL0 : L = [] := by cases L with | nil => rfl | cons x l => simp at hl
    subst hL0
    have hrun : (Builtin.append_ #[23, 23] ty #[v, .slice A 0 cap]).run Tryd.prog w = .ok v w := by
      rcases hX.2 with ⟨rfl, h0⟩ | ⟨g, cp, cur, rfl, _, _, hnc, _⟩
      · simp [Builtin.append_, run_underlying Tryd.underlying23, sizeOf, typeInfo, hi, Builtin.lenOf, Builtin.firstCells]
        cases A <;> simp [go_sem]
      · simp [Builtin.append_, run_underlying Tryd.underlying23, sizeOf, typeInfo, hi, Builtin.lenOf, Builtin.firstCells, hnc]
        cases A <;> simp [go_sem, storeCells]
    refine ⟨v, w, hrun, by simpa using hX, World.grownBy.refl w _, .inl rfl⟩

theorem madeRow (w : World) (S cap : Nat) (cs : Array Value) (hS : S ≤ w.heap.size) (hc : cap ≤ maxLen) (hs : cs.size = cap * 2) : Rowed (w.alloc (.cells cs 44)) S (.slice (some ⟨w.heap.size, 0, none⟩) 0 cap) [] :=
  ⟨rfl, .inr ⟨w.heap.size, cap, cs, rfl, hS, heap_alloc_new w _, Nat.zero_le _, hc, hs, by simp [rcells]⟩⟩

set_option maxRecDepth 100000 in
theorem grow_any (w : World) (n : Nat) (hn : n ≤ 200000) :
    Calls Tryd.prog 78 #[.slice none 0 0, .int .i64 (n : Int)] w fun e w' => ∃ v, e = .returned v ∧ Rowed w' w.heap.size v [] ∧ Below w.heap.size w w' := by
  obtain ⟨i0, hi, hz0, hz1, hz2⟩ := info_parts info44
  by_cases h0 : 0 < n
  · have h0' : (0 : Int) < n := by omega
    have hd : decide ((0 : Int) < n) = true := decide_eq_true h0'
    have happ := Lib.run_append_nil_zeros (P := Tryd.prog) w 23 3 23 44 i0 (.agg #[.int .i32 0, .int .i32 0]) .i64 .i64 Tryd.underlying23 Tryd.underlying3 hi hz0 n h0 (by omega) (by omega) (by rw [hz2]; omega)
    go_enter Tryd.func78, Tryd.ntmps78
    have hge := grownCap_ge w n 0 44
    have hle := grownCap_le_maxLen w n 0 44 (by unfold maxLen; omega)
    generalize grownCap w n 0 44 = c at happ hge hle
    obtain ⟨cs, hcs⟩ : ∃ cs : Array Value, Builtin.zeroCells (Value.agg #[Value.int IntKind.i32 0, Value.int IntKind.i32 0]).cells n ++ Builtin.zeroCells (Value.agg #[Value.int IntKind.i32 0, Value.int IntKind.i32 0]).cells (c - n) = cs := ⟨_, rfl⟩
    have hsz : cs.size = c * 2 := by
      rw [← hcs, Array.size_append, size_zeroCells, size_zeroCells, show (Value.agg #[Value.int IntKind.i32 0, Value.int IntKind.i32 0]).cells.size = 2 from rfl, ← Nat.add_mul]
      congr 1; omega
    rw [hcs] at happ
    have HR := Lib.hid (show Rowed (w.drew.alloc (.cells cs 44)) w.heap.size (.slice (some ⟨w.heap.size, 0, none⟩) 0 c) [] from madeRow w.drew _ c cs (Nat.le_refl _) hle hsz)
    have HB : Hid (Below w.heap.size w (w.drew.alloc (.cells cs 44))) := (RowKit.Below.refl _ w).drew.alloc (Nat.le_refl _) _
    have HP := Lib.hid happ
    clear happ hcs hsz
    go_wp2_with (at_builtin; refine Lib.wpList_append_run _ rfl _ _ _ _ rfl _ _ rfl rfl _ _ HP.out ?_)
    go_ret
    exact ⟨_, rfl, HR.out, HB.out⟩
  · obtain rfl : n = 0 := by omega
    go_enter Tryd.func78, Tryd.ntmps78
    go_wp2_with fail
    go_ret
    exact ⟨_, rfl, ⟨rfl, .inl ⟨rfl, rfl⟩⟩, Below.refl _ _⟩

def upTo (l m : Nat) : Nat → Nat
  | 0 => 0
  | 1 => l
  | _ => l + m
def preOf (L M : List Rg) : Nat → List Rg
  | 0 => []
  | 1 => L
  | _ => L ++ M

set_option maxRecDepth 100000 in
theorem concat_any {w : World} {b : Nat} {va vb : Value} {L M : List Rg} (e0 : w.cell? ⟨b, 0, none⟩ = some va) (e1 : w.cell? ⟨b, 1, none⟩ = some vb) (Ha : Rgs w va L) (Hb : Rgs w vb M) (hL : L.length ≤ 50000) (hM : M.length ≤ 50000) :
    Calls Tryd.prog 45 #[.slice (some ⟨b, 0, none⟩) 2 2] w fun e w' => ∃ v, e = .returned v ∧ Rowed w' w.heap.size v (L ++ M) ∧ Below w.heap.size w w' := by
  have hbl : b < w.heap.size := World.block_lt_of_cell? w ⟨b, 0, none⟩ e0
  have hla := Ha.len 3 w
  have hlb := Hb.len 3 w
  have HA := Lib.hid Ha
  have HB := Lib.hid Hb
  clear Ha Hb
  go_enter Tryd.func45, Tryd.ntmps45
  go_wp2_with fail
  go_loop [3, 5, 11] (fun sz x i => ∃ k : Nat, k ≤ 2 ∧ i = .int .i64 (k : Int) ∧ sz = .int .i64 ((upTo L.length M.length k : Nat) : Int)) (fun _ _ i => 2 - (intOf i).toNat)
  case atStart => exact ⟨0, by omega, rfl, rfl⟩
  case round =>
    obtain ⟨k, hk, rfl, rfl⟩ := hrel
    match k, hk with
    | 0, _ =>
      have hu : upTo L.length M.length 0 = 0 := rfl
      rw [hu]
      clear hu
      go_wp2
      go_round
      case rel => exact ⟨1, by omega, by go_num, by show _ = Value.int .i64 ((L.length : Nat) : Int); simp⟩
      case measure => simp [intOf]
    | 1, _ =>
      have hu : upTo L.length M.length 1 = L.length := rfl
      rw [hu]
      clear hu
      go_wp2
      go_round
      case rel => exact ⟨2, by omega, by go_num, by show _ = Value.int .i64 ((L.length + M.length : Nat) : Int); push_cast; rfl⟩
      case measure => simp [intOf]
    | 2, _ =>
      have hu : upTo L.length M.length 2 = L.length + M.length := rfl
      rw [hu]
      clear hu
      obtain ⟨n, hn⟩ : ∃ n, L.length + M.length = n := ⟨_, rfl⟩
      have hnn : n ≤ 100000 := by omega
      rw [hn]
      have HN := Lib.hid hn
      have HG := Lib.hid (grow_any w n (by omega))
      clear hn hla hlb
      go_wp2_with fail
      refine HG.out.mono ?_
      rintro e w1 ⟨v1, rfl, hr, hb1⟩
      have HR := Lib.hid hr
      have HB1 := Lib.hid hb1
      clear hr hb1 HG
      go_wp2_with fail
      go_loopw [6, 8, 27] (fun v x i wx => ∃ k : Nat, k ≤ 2 ∧ i = .int .i64 (k : Int) ∧ Rowed wx w.heap.size v (preOf L M k) ∧ Below w.heap.size w wx) (fun _ _ i _ => 2 - (intOf i).toNat)
      case atStart => exact ⟨0, by omega, rfl, HR.out, HB1.out⟩
      case round =>
        obtain ⟨k, hk, rfl, hrow, hB⟩ := hrel
        have HB2 := Lib.hid hB
        have c0 := (hB.cell (p := ⟨b, 0, none⟩) hbl).trans e0
        have c1 := (hB.cell (p := ⟨b, 1, none⟩) hbl).trans e1
        have hsz := hB.size
        have hN := HN.out
        match k, hk with
        | 0, _ =>
          obtain ⟨v', w2, hrun, hr2, hg, hat⟩ := run_more (X := []) hrow (HA.out.stay hB) (by simp; omega) hsz 23
          have HRUN := Lib.hid hrun
          have HR2 := Lib.hid hr2
          have HB3 : Hid (Below w.heap.size w w2) := hB.grown hg hsz fun k hk => (show wr.ownsRow _ 44 2 _ _ _ from hrow).lt k hk |>.1
          clear hrun hr2 hg hat hrow hB hN
          go_wp2_with (at_builtin; refine Lib.wpList_append_run _ rfl _ _ _ _ rfl _ _ rfl rfl _ _ HRUN.out ?_)
          go_roundw
          case rel => exact ⟨1, by omega, by go_num, HR2.out, HB3.out⟩
          case measure => simp [intOf]
        | 1, _ =>
          obtain ⟨v', w2, hrun, hr2, hg, hat⟩ := run_more (X := L) hrow (HB.out.stay hB) (by omega) hsz 23
          have HRUN := Lib.hid hrun
          have HR2 := Lib.hid hr2
          have HB3 : Hid (Below w.heap.size w w2) := hB.grown hg hsz fun k hk => (show wr.ownsRow _ 44 2 _ _ _ from hrow).lt k hk |>.1
          clear hrun hr2 hg hat hrow hB hN
          go_wp2_with (at_builtin; refine Lib.wpList_append_run _ rfl _ _ _ _ rfl _ _ rfl rfl _ _ HRUN.out ?_)
          go_roundw
          case rel => exact ⟨2, by omega, by go_num, HR2.out, HB3.out⟩
          case measure => simp [intOf]
        | 2, _ =>
          have HR2 : Hid (Rowed wr w.heap.size u6 (L ++ M)) := hrow
          clear hrow hB hN
          go_wp2
          go_ret
          exact ⟨_, rfl, HR2.out, HB2.out⟩

set_option maxRecDepth 100000 in
theorem or_any {w : World} {va vb : Value} {L M : List Rg} (Ha : Rgs w va L) (Hb : Rgs w vb M) (hL : L.length ≤ 50000) (hM : M.length ≤ 50000) :
    Calls Tryd.prog 18 #[va, vb] w fun e w' => ∃ v O, e = .returned v ∧ Rowed w' w.heap.size v O ∧ Canon 0 O ∧ (∀ r, memU O r ↔ memU L r ∨ memU M r) ∧ O.length ≤ L.length + M.length ∧ Below w.heap.size w w' := by
  have hb0 : Below w.heap.size w (w.alloc (.cells #[va, vb] 23)) := (RowKit.Below.refl _ w).alloc (Nat.le_refl _) _
  have hin : ∀ x ∈ L ++ M, in32 x := fun x hx => by
    rcases List.mem_append.1 hx with h | h
    · exact Ha.1 x h
    · exact Hb.1 x h
  have HC := Lib.hid (concat_any (w := w.alloc (.cells #[va, vb] 23)) (b := w.heap.size) (by simp) (by simp) (Ha.stay hb0) (Hb.stay hb0) hL hM)
  have HI := Lib.hid hin
  obtain ⟨_, A, cap, hva, _⟩ := Ha
  obtain ⟨_, A', cap', hvb, _⟩ := Hb
  have HB0 := Lib.hid hb0
  subst hva
  subst hvb
  clear hin hb0
  go_enter Tryd.func18, Tryd.ntmps18
  go_wp2_with fail
  refine HC.out.mono ?_
  rintro e w1 ⟨v1, rfl, hr, hb⟩
  have hsz := hb.size
  simp at hsz
  have HO := Lib.hid (of_any (hr.rgs HI.out) (by simp; omega))
  have HB1 : Hid (Below w.heap.size w w1) := HB0.out.trans (hb.mono (by simp))
  clear hr hb HC
  go_wp2_with fail
  refine HO.out.mono ?_
  rintro e w2 ⟨v2, O, rfl, hr2, hof, hl, hb2⟩
  have hmem : ∀ r, memU O r ↔ memU L r ∨ memU M r := fun r => by rw [hof.1.memU, hof.2, memU_app]
  have HR := Lib.hid (hr2.low (show w.heap.size ≤ w1.heap.size by omega))
  have HCN := Lib.hid hof.1
  have HM := Lib.hid hmem
  have hll : O.length ≤ L.length + M.length := by simpa using hl
  have HB2 : Hid (Below w.heap.size w w2) := HB1.out.trans (hb2.mono (by omega))
  clear hr2 hof hmem hb2 HO
  go_wp2
  go_ret
  exact ⟨_, _, rfl, HR.out, HCN.out, HM.out, hll, HB2.out⟩

end Go.Proofs.YtfjlhfalnciamaaDoor.Chars
