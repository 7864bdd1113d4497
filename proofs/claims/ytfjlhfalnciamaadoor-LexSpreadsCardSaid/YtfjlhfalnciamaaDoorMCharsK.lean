/- Package texts, merged: CharsK, CharsL, CharsM, CharsN, CharsO, CharsP, CharsQ, CharsR. -/
import Derived.Test.YtfjlhfalnciamaaDoorMCharsF
import Derived.Lib.AppendZeros
import Derived.Laws.StructEq
import Derived.Test.YtfjlhfalnciamaaDoorMUtf

namespace Go.Proofs.YtfjlhfalnciamaaDoor.Chars
open Go Go.RowKit Go.Proofs.Chars

/-- Ranges of any slice, nil or not, behind a row of one's own: the run. -/
theorem run_more {w : World} {S : Nat} {v va : Value} {X L : List Rg} (hX : Rowed w S v X) (hL : Rgs w va L) (hs : X.length + L.length ≤ 200000) (hS : S ≤ w.heap.size) (ty : TypeId) :
    ∃ v' w', (Builtin.append_ #[23, 23] ty #[v, va]).run Tryd.prog w = .ok v' w' ∧ Rowed w' S v' (X ++ L) ∧ w.grownBy w' v.ownBlock ∧ (v'.ownBlock = v.ownBlock ∨ v'.ownBlock = some w.heap.size) := by
  obtain ⟨i0, hi, hz0, hz1, hz2⟩ := info_parts info44
  obtain ⟨_, A, cap, rfl, hc1, hc2, hc⟩ := hL
  by_cases hl : 0 < L.length
  · obtain ⟨b, off, rfl, hb, hcell⟩ := hc hl
    have hnews : ∀ j u, (rcells L)[j]? = some u → w.cell? ((⟨b, off, none⟩ : Addr).add j) = some u := fun j u hu => by
      have ha : (⟨b, off, none⟩ : Addr).add j = ⟨b, off + j, none⟩ := by
        by_cases h : j = 0
        · subst h; simp [Addr.add]
        · simp [Addr.add, h]
      have hj : j < L.length * 2 := by rw [← rcells_len]; exact (List.getElem?_eq_some_iff.1 hu).1
      have hx : L[j / 2]? = some L[j / 2] := List.getElem?_eq_getElem (by omega)
      have hg := rcells_get hx
      have hcc := hcell _ _ hx
      rw [ha]
      rcases Nat.mod_two_eq_zero_or_one j with h | h
      · have e : j / 2 * 2 = j := by omega
        rw [e] at hg hcc
        rw [hcc.1, ← hg.1, hu]
      · have e : j / 2 * 2 + 1 = j := by omega
        have e2 : off + j / 2 * 2 + 1 = off + j := by omega
        rw [e] at hg
        rw [e2] at hcc
        rw [hcc.2, ← hg.2, hu]
    obtain ⟨v', w', hr, h2, h3, _, h5⟩ := run_append_own_at (P := Tryd.prog) w S 23 ty 44 i0 (.agg #[.int .i32 0, .int .i32 0]) 2 8 Tryd.underlying23 hi hz0 hz1 hz2 rfl (by decide) v X.length (rcells X) hX ⟨b, off, none⟩ L.length cap (rcells L) (rcells_len L) hnews
      (fun u hu => by
        simp only [rcells, List.mem_flatMap] at hu
        obtain ⟨x, _, hu⟩ := hu
        simp at hu
        rcases hu with rfl | rfl <;> rfl) (by unfold maxLen; omega) (by omega) hS
    refine ⟨v', w', hr, ?_, h3, h5⟩
    unfold Rowed
    rw [rcells_append, List.length_append]
    exact h2
  · have hL0 : L = [] := by cases L with | nil => rfl | cons x l => simp at hl
    subst hL0
    have hrun : (Builtin.append_ #[23, 23] ty #[v, .slice A 0 cap]).run Tryd.prog w = .ok v w := by
      rcases hX.2 with ⟨rfl, h0⟩ | ⟨g, cp, cur, rfl, _, _, hnc, _⟩
      · simp [Builtin.append_, run_underlying Tryd.underlying23, sizeOf, typeInfo, hi, Builtin.lenOf, Builtin.firstCells]
        cases A <;> simp [go_sem]
      · simp [Builtin.append_, run_underlying Tryd.underlying23, sizeOf, typeInfo, hi, Builtin.lenOf, Builtin.firstCells, hnc]
        cases A <;> simp [go_sem, storeCells]
    refine ⟨v, w, hrun, by simpa using hX, World.grownBy.refl w _, .inl rfl⟩

theorem madeRow (w : World) (S cap : Nat) (cs : Array Value) (hS : S ≤ w.heap.size) (hc : cap ≤ maxLen) (hs : cs.size = cap * 2) : Rowed (w.alloc (.cells cs 44)) S (.slice (some ⟨w.heap.size, 0, none⟩) 0 cap) [] :=
  ⟨rfl, .inr ⟨w.heap.size, cap, cs, rfl, hS, heap_alloc_new w _, Nat.zero_le _, hc, hs, by simp [rcells]⟩⟩

set_option maxRecDepth 100000 in
theorem grow_any (w : World) (n : Nat) (hn : n ≤ 200000) :
    Calls Tryd.prog 78 #[.slice none 0 0, .int .i64 (n : Int)] w fun e w' => ∃ v, e = .returned v ∧ Rowed w' w.heap.size v [] ∧ Below w.heap.size w w' := by
  obtain ⟨i0, hi, hz0, hz1, hz2⟩ := info_parts info44
  by_cases h0 : 0 < n
  · have h0' : (0 : Int) < n := by omega
    have hd : decide ((0 : Int) < n) = true := decide_eq_true h0'
    have happ := Lib.run_append_nil_zeros (P := Tryd.prog) w 23 3 23 44 i0 (.agg #[.int .i32 0, .int .i32 0]) .i64 .i64 Tryd.underlying23 Tryd.underlying3 hi hz0 n h0 (by omega) (by omega) (by rw [hz2]; omega)
    go_enter Tryd.func78, Tryd.ntmps78
    have hge := grownCap_ge w n 0 44
    have hle := grownCap_le_maxLen w n 0 44 (by unfold maxLen; omega)
    generalize grownCap w n 0 44 = c at happ hge hle
    obtain ⟨cs, hcs⟩ : ∃ cs : Array Value, Builtin.zeroCells (Value.agg #[Value.int IntKind.i32 0, Value.int IntKind.i32 0]).cells n ++ Builtin.zeroCells (Value.agg #[Value.int IntKind.i32 0, Value.int IntKind.i32 0]).cells (c - n) = cs := ⟨_, rfl⟩
    have hsz : cs.size = c * 2 := by
      rw [← hcs, Array.size_append, size_zeroCells, size_zeroCells, show (Value.agg #[Value.int IntKind.i32 0, Value.int IntKind.i32 0]).cells.size = 2 from rfl, ← Nat.add_mul]
      congr 1; omega
    rw [hcs] at happ
    have HR := Lib.hid (show Rowed (w.drew.alloc (.cells cs 44)) w.heap.size (.slice (some ⟨w.heap.size, 0, none⟩) 0 c) [] from madeRow w.drew _ c cs (Nat.le_refl _) hle hsz)
    have HB : Hid (Below w.heap.size w (w.drew.alloc (.cells cs 44))) := (RowKit.Below.refl _ w).drew.alloc (Nat.le_refl _) _
    have HP := Lib.hid happ
    clear happ hcs hsz
    go_wp2_with (at_builtin; refine Lib.wpList_append_run _ rfl _ _ _ _ rfl _ _ rfl rfl _ _ HP.out ?_)
    go_ret
    exact ⟨_, rfl, HR.out, HB.out⟩
  · obtain rfl : n = 0 := by omega
    go_enter Tryd.func78, Tryd.ntmps78
    go_wp2_with fail
    go_ret
    exact ⟨_, rfl, ⟨rfl, .inl ⟨rfl, rfl⟩⟩, Below.refl _ _⟩

def upTo (l m : Nat) : Nat → Nat
  | 0 => 0
  | 1 => l
  | _ => l + m
def preOf (L M : List Rg) : Nat → List Rg
  | 0 => []
  | 1 => L
  | _ => L ++ M

set_option maxRecDepth 100000 in
theorem concat_any {w : World} {b : Nat} {va vb : Value} {L M : List Rg} (e0 : w.cell? ⟨b, 0, none⟩ = some va) (e1 : w.cell? ⟨b, 1, none⟩ = some vb) (Ha : Rgs w va L) (Hb : Rgs w vb M) (hL : L.length ≤ 50000) (hM : M.length ≤ 50000) :
    Calls Tryd.prog 45 #[.slice (some ⟨b, 0, none⟩) 2 2] w fun e w' => ∃ v, e = .returned v ∧ Rowed w' w.heap.size v (L ++ M) ∧ Below w.heap.size w w' := by
  have hbl : b < w.heap.size := World.block_lt_of_cell? w ⟨b, 0, none⟩ e0
  have hla := Ha.len 3 w
  have hlb := Hb.len 3 w
  have HA := Lib.hid Ha
  have HB := Lib.hid Hb
  clear Ha Hb
  go_enter Tryd.func45, Tryd.ntmps45
  go_wp2_with fail
  go_loop [3, 5, 11] (fun sz x i => ∃ k : Nat, k ≤ 2 ∧ i = .int .i64 (k : Int) ∧ sz = .int .i64 ((upTo L.length M.length k : Nat) : Int)) (fun _ _ i => 2 - (intOf i).toNat)
  case atStart => exact ⟨0, by omega, rfl, rfl⟩
  case round =>
    obtain ⟨k, hk, rfl, rfl⟩ := hrel
    match k, hk with
    | 0, _ =>
      have hu : upTo L.length M.length 0 = 0 := rfl
      rw [hu]
      clear hu
      go_wp2
      go_round
      case rel => exact ⟨1, by omega, by go_num, by show _ = Value.int .i64 ((L.length : Nat) : Int); simp⟩
      case measure => simp [intOf]
    | 1, _ =>
      have hu : upTo L.length M.length 1 = L.length := rfl
      rw [hu]
      clear hu
      go_wp2
      go_round
      case rel => exact ⟨2, by omega, by go_num, by show _ = Value.int .i64 ((L.length + M.length : Nat) : Int); push_cast; rfl⟩
      case measure => simp [intOf]
    | 2, _ =>
      have hu : upTo L.length M.length 2 = L.length + M.length := rfl
      rw [hu]
      clear hu
      obtain ⟨n, hn⟩ : ∃ n, L.length + M.length = n := ⟨_, rfl⟩
      have hnn : n ≤ 100000 := by omega
      rw [hn]
      have HN := Lib.hid hn
      have HG := Lib.hid (grow_any w n (by omega))
      clear hn hla hlb
      go_wp2_with fail
      refine HG.out.mono ?_
      rintro e w1 ⟨v1, rfl, hr, hb1⟩
      have HR := Lib.hid hr
      have HB1 := Lib.hid hb1
      clear hr hb1 HG
      go_wp2_with fail
      go_loopw [6, 8, 27] (fun v x i wx => ∃ k : Nat, k ≤ 2 ∧ i = .int .i64 (k : Int) ∧ Rowed wx w.heap.size v (preOf L M k) ∧ Below w.heap.size w wx) (fun _ _ i _ => 2 - (intOf i).toNat)
      case atStart => exact ⟨0, by omega, rfl, HR.out, HB1.out⟩
      case round =>
        obtain ⟨k, hk, rfl, hrow, hB⟩ := hrel
        have HB2 := Lib.hid hB
        have c0 := (hB.cell (p := ⟨b, 0, none⟩) hbl).trans e0
        have c1 := (hB.cell (p := ⟨b, 1, none⟩) hbl).trans e1
        have hsz := hB.size
        have hN := HN.out
        match k, hk with
        | 0, _ =>
          obtain ⟨v', w2, hrun, hr2, hg, hat⟩ := run_more (X := []) hrow (HA.out.stay hB) (by simp; omega) hsz 23
          have HRUN := Lib.hid hrun
          have HR2 := Lib.hid hr2
          have HB3 : Hid (Below w.heap.size w w2) := hB.grown hg hsz fun k hk => (show wr.ownsRow _ 44 2 _ _ _ from hrow).lt k hk |>.1
          clear hrun hr2 hg hat hrow hB hN
          go_wp2_with (at_builtin; refine Lib.wpList_append_run _ rfl _ _ _ _ rfl _ _ rfl rfl _ _ HRUN.out ?_)
          go_roundw
          case rel => exact ⟨1, by omega, by go_num, HR2.out, HB3.out⟩
          case measure => simp [intOf]
        | 1, _ =>
          obtain ⟨v', w2, hrun, hr2, hg, hat⟩ := run_more (X := L) hrow (HB.out.stay hB) (by omega) hsz 23
          have HRUN := Lib.hid hrun
          have HR2 := Lib.hid hr2
          have HB3 : Hid (Below w.heap.size w w2) := hB.grown hg hsz fun k hk => (show wr.ownsRow _ 44 2 _ _ _ from hrow).lt k hk |>.1
          clear hrun hr2 hg hat hrow hB hN
          go_wp2_with (at_builtin; refine Lib.wpList_append_run _ rfl _ _ _ _ rfl _ _ rfl rfl _ _ HRUN.out ?_)
          go_roundw
          case rel => exact ⟨2, by omega, by go_num, HR2.out, HB3.out⟩
          case measure => simp [intOf]
        | 2, _ =>
          have HR2 : Hid (Rowed wr w.heap.size u6 (L ++ M)) := hrow
          clear hrow hB hN
          go_wp2
          go_ret
          exact ⟨_, rfl, HR2.out, HB2.out⟩

set_option maxRecDepth 100000 in
theorem or_any {w : World} {va vb : Value} {L M : List Rg} (Ha : Rgs w va L) (Hb : Rgs w vb M) (hL : L.length ≤ 50000) (hM : M.length ≤ 50000) :
    Calls Tryd.prog 18 #[va, vb] w fun e w' => ∃ v O, e = .returned v ∧ Rowed w' w.heap.size v O ∧ Canon 0 O ∧ (∀ r, memU O r ↔ memU L r ∨ memU M r) ∧ O.length ≤ L.length + M.length ∧ Below w.heap.size w w' := by
  have hb0 : Below w.heap.size w (w.alloc (.cells #[va, vb] 23)) := (RowKit.Below.refl _ w).alloc (Nat.le_refl _) _
  have hin : ∀ x ∈ L ++ M, in32 x := fun x hx => by
    rcases List.mem_append.1 hx with h | h
    · exact Ha.1 x h
    · exact Hb.1 x h
  have HC := Lib.hid (concat_any (w := w.alloc (.cells #[va, vb] 23)) (b := w.heap.size) (by simp) (by simp) (Ha.stay hb0) (Hb.stay hb0) hL hM)
  have HI := Lib.hid hin
  obtain ⟨_, A, cap, hva, _⟩ := Ha
  obtain ⟨_, A', cap', hvb, _⟩ := Hb
  have HB0 := Lib.hid hb0
  subst hva
  subst hvb
  clear hin hb0
  go_enter Tryd.func18, Tryd.ntmps18
  go_wp2_with fail
  refine HC.out.mono ?_
  rintro e w1 ⟨v1, rfl, hr, hb⟩
  have hsz := hb.size
  simp at hsz
  have HO := Lib.hid (of_any (hr.rgs HI.out) (by simp; omega))
  have HB1 : Hid (Below w.heap.size w w1) := HB0.out.trans (hb.mono (by simp))
  clear hr hb HC
  go_wp2_with fail
  refine HO.out.mono ?_
  rintro e w2 ⟨v2, O, rfl, hr2, hof, hl, hb2⟩
  have hmem : ∀ r, memU O r ↔ memU L r ∨ memU M r := fun r => by rw [hof.1.memU, hof.2, memU_app]
  have HR := Lib.hid (hr2.low (show w.heap.size ≤ w1.heap.size by omega))
  have HCN := Lib.hid hof.1
  have HM := Lib.hid hmem
  have hll : O.length ≤ L.length + M.length := by simpa using hl
  have HB2 : Hid (Below w.heap.size w w2) := HB1.out.trans (hb2.mono (by omega))
  clear hr2 hof hmem hb2 HO
  go_wp2
  go_ret
  exact ⟨_, _, rfl, HR.out, HCN.out, HM.out, hll, HB2.out⟩

end Go.Proofs.YtfjlhfalnciamaaDoor.Chars

namespace Go.Proofs.YtfjlhfalnciamaaDoor.Chars
open Go Go.RowKit Go.Proofs.Chars

def eqB (A B : List Rg) : Bool := decide (A = B)
def rgV (x : Rg) : Value := .agg #[.int .i32 x.1, .int .i32 x.2]
theorem run_neq_rg (x y : Rg) (w : World) : (binOp .neq 44 (.agg #[.int .i32 x.1, .int .i32 x.2]) (.agg #[.int .i32 y.1, .int .i32 y.2])).run Tryd.prog w = .ok (.bool (!(x.1 == y.1 && x.2 == y.2))) w := by
  have u3 := Tryd.underlying21
  have a3 := Tryd.isAgg21
  have z3 := Tryd.sizeOf21
  have hS : Tryd.prog.underlying 44 = some (.struct (Tryd.prog.fieldsOf 44)) := by kernel_rfl
  have hp : Tryd.prog.stoodInHeld 44 = false := by kernel_rfl
  rw [run_neq_struct, show (10000 : Nat) = 9999 + 1 from rfl, run_equalIn_agg w 9999 44 _ _ hS hp]
  simp only [Program.fieldsOf, Tryd.underlying44]
  go_simp
  by_cases h1 : x.fst = y.fst <;> by_cases h2 : x.snd = y.snd <;> simp [h1, h2]
theorem guard44 : Tryd.prog.eqGuardType Tryd.prog.depth 44 = false := by kernel_rfl
theorem Rgs.at {w : World} {v : Value} {L : List Rg} (h : Rgs w v L) (hn : 0 < L.length) : ∃ b off cap, v = .slice (some ⟨b, off, none⟩) L.length cap ∧ L.length ≤ cap ∧ cap ≤ maxLen ∧ b < w.heap.size ∧ ∀ i x, L[i]? = some x → w.cell? ⟨b, off + i * 2, none⟩ = some (.int .i32 x.1) ∧ w.cell? ⟨b, off + i * 2 + 1, none⟩ = some (.int .i32 x.2) := by
  obtain ⟨_, A, cap, rfl, h1, h2, h3⟩ := h
  obtain ⟨b, off, rfl, hb, hc⟩ := h3 hn
  exact ⟨b, off, cap, rfl, h1, h2, hb, hc⟩

set_option maxRecDepth 100000 in
theorem equal_any {w : World} {va vb : Value} {A B : List Rg} (Ha : Rgs w va A) (Hb : Rgs w vb B) (hAl : A.length ≤ 100000) :
    Calls Tryd.prog 46 #[va, vb] w fun e w' => e = .returned (.bool (eqB A B)) ∧ Below w.heap.size w w' := by
  have hla := fun W => Ha.len 3 W
  have hlb := fun W => Hb.len 3 W
  have hla1 := hla w
  have hlb1 := hlb w
  have HLA := Lib.hid hla
  have HA := Lib.hid Ha
  have HB := Lib.hid Hb
  have hg := guard44
  clear Ha Hb hla hlb
  by_cases hlen : A.length = B.length
  · have hd : ((A.length : Int) != (B.length : Int)) = false := by simp [hlen]
    have HLEN := Lib.hid hlen
    clear hlen
    go_enter Tryd.func46, Tryd.ntmps46
    go_wp2_with fail
    go_loopw [5, 13] (fun x i wx => ∃ k : Nat, k ≤ A.length ∧ i = .int .i64 (k : Int) ∧ A.take k = B.take k ∧ Below w.heap.size w wx) (fun _ i _ => A.length - (intOf i).toNat)
    case atStart => exact ⟨0, Nat.zero_le _, rfl, by simp, Below.refl _ _⟩
    case round =>
      obtain ⟨k, hk, rfl, ht, hB⟩ := hrel
      have HT := Lib.hid ht
      have HBE := Lib.hid hB
      have hla1 := HLA.out wr
      by_cases hlt : k < A.length
      · have hltb : k < B.length := by have := HLEN.out; omega
        obtain ⟨b, off, cap, rfl, h11, h12, h13, hcell⟩ := (HA.out.stay hB).at (by omega)
        obtain ⟨b', off', cap', rfl, h21, h22, h23, hcell'⟩ := (HB.out.stay hB).at (by omega)
        obtain ⟨x, hx⟩ : ∃ x, A[k]? = some x := ⟨A[k], List.getElem?_eq_getElem hlt⟩
        obtain ⟨y, hy⟩ : ∃ y, B[k]? = some y := ⟨B[k], List.getElem?_eq_getElem hltb⟩
        obtain ⟨e0, e1⟩ := hcell k x hx
        obtain ⟨e2, e3⟩ := hcell' k y hy
        have hne := fun W => run_neq_rg x y W
        have HXY : Hid (A[k] = x ∧ B[k] = y) := Lib.hid ⟨(List.getElem?_eq_some_iff.1 hx).2, (List.getElem?_eq_some_iff.1 hy).2⟩
        clear hx hy hcell hcell' ht hB
        by_cases hxy : x = y
        · have hb2 : (x.1 == y.1 && x.2 == y.2) = true := by subst hxy; simp
          rw [hb2] at hne
          have HT2 : Hid (A.take (k + 1) = B.take (k + 1)) := by
            rw [List.take_succ_eq_append_getElem hlt, List.take_succ_eq_append_getElem hltb, HT.out, HXY.out.1, HXY.out.2, hxy]
            exact Lib.hid rfl
          have HB2 := Lib.hid (fun n => below_drewN HBE.out n)
          clear hb2 hxy
          go_wp2_with fail
          go_quiet (fail)
          go_wp2
          go_roundw
          case rel => exact ⟨k + 1, by omega, by go_num, HT2.out, HB2.out _⟩
          case measure => simp [intOf]; omega
        · have hb2 : (x.1 == y.1 && x.2 == y.2) = false := by
            apply Bool.eq_false_iff.2
            intro h
            simp at h
            exact hxy (Prod.ext h.1 h.2)
          rw [hb2] at hne
          have hfin : eqB A B = false := by
            unfold eqB
            apply decide_eq_false
            rintro rfl
            exact hxy (HXY.out.1.symm.trans HXY.out.2)
          have HF := Lib.hid hfin
          have HB2 := Lib.hid (fun n => below_drewN HBE.out n)
          clear hb2 hxy hfin
          go_wp2_with fail
          go_quiet (fail)
          go_wp2
          go_ret
          exact ⟨by rw [HF.out]; rfl, HB2.out _⟩
      · have hfin : eqB A B = true := by
          unfold eqB
          apply decide_eq_true
          have h1 := HT.out
          rw [List.take_of_length_le (by omega), List.take_of_length_le (by have := HLEN.out; omega)] at h1
          exact h1
        have HF := Lib.hid hfin
        obtain rfl : k = A.length := by omega
        clear hfin ht hB
        go_wp2
        go_ret
        exact ⟨by rw [HF.out]; rfl, HBE.out⟩
  · have hd : ((A.length : Int) != (B.length : Int)) = true := by simp; omega
    have hfin : eqB A B = false := by
      unfold eqB
      exact decide_eq_false fun h => hlen (by rw [h])
    rw [hfin]
    clear hfin hlen
    go_enter Tryd.func46, Tryd.ntmps46
    go_wp2_with fail
    go_ret
    exact ⟨rfl, Below.refl _ _⟩

/-- Have two sets the same numbers? -/
def SameSet (L M : List Rg) : Prop := ∀ r, memU L r ↔ memU M r
set_option maxRecDepth 100000 in
theorem same_any {w : World} {va vb : Value} {L M : List Rg} (Ha : Rgs w va L) (Hb : Rgs w vb M) (hL : L.length ≤ 50000) (hM : M.length ≤ 50000) (t : Bool) (ht : t = true ↔ SameSet L M) :
    Calls Tryd.prog 25 #[va, vb] w fun e w' => e = .returned (.bool t) ∧ Below w.heap.size w w' := by
  have HO := Lib.hid (of_any Ha (by omega))
  have HHB := Lib.hid Hb
  have HT := Lib.hid ht
  clear Ha Hb ht
  go_enter Tryd.func25, Tryd.ntmps25
  go_wp2_with fail
  refine HO.out.mono ?_
  rintro e w1 ⟨v1, A, rfl, hra, hofa, hola, hb1⟩
  have HO2 := Lib.hid (of_any (HHB.out.stay hb1) (by omega))
  have HRA := Lib.hid hra
  have HOA := Lib.hid hofa
  have HB1 := Lib.hid hb1
  clear hra hofa hb1 HO
  go_wp2_with fail
  refine HO2.out.mono ?_
  rintro e w2 ⟨v2, B, rfl, hrb, hofb, holb, hb2⟩
  have HB2 : Hid (Below w.heap.size w w2) := HB1.out.trans (hb2.mono HB1.out.size)
  have HE := Lib.hid (equal_any ((HRA.out.stay hb2).rgs (canon_in32 HOA.out.1 (Int.le_refl _))) (hrb.rgs (canon_in32 hofb.1 (Int.le_refl _))) (by omega))
  have heq : eqB A B = t := by
    have h1 := HOA.out.same hofb
    unfold eqB
    cases t with
    | true => exact decide_eq_true (h1.2 (HT.out.1 rfl))
    | false => exact decide_eq_false fun h => by have := HT.out.2 (h1.1 h); cases this
  rw [heq] at HE
  have hsz := HB2.out.size
  clear hrb hofb hb2 HO2 heq HT
  go_wp2_with fail
  refine HE.out.mono ?_
  rintro e w3 ⟨rfl, hb3⟩
  have HB3 : Hid (Below w.heap.size w w3) := HB2.out.trans (hb3.mono hsz)
  clear hb3 HE
  go_wp2
  go_ret
  exact ⟨rfl, HB3.out⟩

theorem countC_bound : ∀ (L : List Rg) (b : Int), Canon b L → 0 ≤ b → 0 ≤ countC L ∧ countC L + b ≤ most + 1 ∨ L = [] 
  | [], _, _, _ => .inr rfl
  | x :: l, b, hc, hb => .inl (by
    have h1 := hc.1
    have h2 := hc.2.1
    have h3 := hc.2.2.1
    rw [countC]
    rcases countC_bound l (x.2 + 2) hc.2.2.2 (by omega) with ⟨h4, h5⟩ | rfl
    · exact ⟨by omega, by omega⟩
    · simp only [countC]; exact ⟨by omega, by omega⟩)
theorem countC_in {L : List Rg} (hc : Canon 0 L) : 0 ≤ countC L ∧ countC L ≤ 1114112 := by
  rcases countC_bound L 0 hc (Int.le_refl _) with ⟨h1, h2⟩ | rfl
  · unfold most at h2; exact ⟨h1, by omega⟩
  · simp [countC]
theorem countC_app (L M : List Rg) : countC (L ++ M) = countC L + countC M := by
  induction L with
  | nil => simp [countC]
  | cons x l ih => rw [List.cons_append, countC, countC, ih]; omega
theorem countC_take_le : ∀ {L : List Rg} (k : Nat), (∀ x ∈ L, x.1 ≤ x.2) → 0 ≤ countC (L.take k) ∧ countC (L.take k) ≤ countC L
  | L, k, h => by
    have nn : ∀ M : List Rg, (∀ x ∈ M, x.1 ≤ x.2) → 0 ≤ countC M := fun M => by
      induction M with
      | nil => intro _; simp [countC]
      | cons x l ih => intro h; have h1 := h x List.mem_cons_self; have := ih fun y hy => h y (List.mem_cons_of_mem _ hy); rw [countC]; omega
    have e : countC L = countC (L.take k) + countC (L.drop k) := by rw [← countC_app, List.take_append_drop]
    have h1 := nn (L.take k) fun x hx => h x (List.mem_of_mem_take hx)
    have h2 := nn (L.drop k) fun x hx => h x (List.mem_of_mem_drop hx)
    omega

set_option maxRecDepth 100000 in
theorem count_any {w : World} {va : Value} {L : List Rg} (H : Rgs w va L) (hL : L.length ≤ 50000) :
    Calls Tryd.prog 23 #[va] w fun e w' => ∃ O, e = .returned (.int .i64 (countC O)) ∧ IsOf L O ∧ Below w.heap.size w w' := by
  have HO := Lib.hid (of_any H (by omega))
  clear H
  go_enter Tryd.func23, Tryd.ntmps23
  go_wp2_with fail
  refine HO.out.mono ?_
  rintro e w1 ⟨vo, O, rfl, hro, hof, hol, hb1⟩
  have hsz := hb1.size
  have hlen1 := (hro.rgs (canon_in32 hof.1 (Int.le_refl _))).len 3 w1
  have HRO := Lib.hid hro
  have HOF := Lib.hid hof
  have HB1 := Lib.hid hb1
  clear hro hof hb1 HO
  go_wp2_with fail
  go_loopw [3, 5, 9] (fun n x i wx => ∃ k : Nat, k ≤ O.length ∧ i = .int .i64 (k : Int) ∧ n = .int .i64 (countC (O.take k)) ∧ Below w1.heap.size w1 wx) (fun _ _ i _ => O.length - (intOf i).toNat)
  case atStart => exact ⟨0, Nat.zero_le _, rfl, rfl, Below.refl _ _⟩
  case round =>
    obtain ⟨k, hk, rfl, rfl, hB⟩ := hrel
    have HB := Lib.hid hB
    have hall := canon_all HOF.out.1 (Int.le_refl _)
    have hcin := countC_in HOF.out.1
    have hct := countC_take_le k fun x hx => (hall x hx).2.1
    by_cases hlt : k < O.length
    · obtain ⟨g, cap, rfl, h31, h32, h33, h34, h35, hcell⟩ := HRO.out.at (by omega)
      obtain ⟨x, hx⟩ : ∃ x, O[k]? = some x := ⟨O[k], List.getElem?_eq_getElem hlt⟩
      obtain ⟨c0, c1⟩ := hcell k x hx
      have e0 := (hB.cell (p := ⟨g, k * 2, none⟩) h33).trans c0
      have e1 := (hB.cell (p := ⟨g, k * 2 + 1, none⟩) h33).trans c1
      have hxv := hall x (List.mem_of_getElem? hx)
      have hx1 := hxv.1
      have hx2 := hxv.2.1
      have hx3 := hxv.2.2
      unfold most at hx3
      have hct2 := countC_take_le (k + 1) fun x hx => (hall x hx).2.1
      have hst : countC (O.take (k + 1)) = countC (O.take k) + (x.2 - x.1 + 1) := by
        rw [List.take_succ_eq_append_getElem hlt, countC_app, (List.getElem?_eq_some_iff.1 hx).2]; simp [countC]
      have HST := Lib.hid hst
      obtain ⟨c, hc⟩ : ∃ c, countC (O.take k) = c := ⟨_, rfl⟩
      rw [hc] at hct HST ⊢
      have ws1 : IntKind.i32.wrap (x.2 - x.1) = x.2 - x.1 := IntWalk.i32_in _ (by omega)
      have hB' := HB.out.size
      clear hx hcell c0 c1 hB h35 hxv hst hc hall hct2
      go_wp2
      go_roundw
      case rel => exact ⟨k + 1, by omega, by go_num, by rw [HST.out], HB.out.alloc hB' _⟩
      case measure => simp [intOf]; omega
    · obtain rfl : k = O.length := by omega
      rw [List.take_length] at hct ⊢
      have HB2 : Hid (Below w.heap.size w wr) := HB1.out.trans (HB.out.mono hsz)
      clear hB hall
      go_wp2
      go_ret
      exact ⟨_, rfl, HOF.out, HB2.out⟩

set_option maxRecDepth 100000 in
theorem empty_any {w : World} {va : Value} {L : List Rg} (H : Rgs w va L) (hL : L.length ≤ 50000) (t : Bool) (ht : t = true ↔ ∀ r, ¬ memU L r) :
    Calls Tryd.prog 24 #[va] w fun e w' => e = .returned (.bool t) ∧ Below w.heap.size w w' := by
  have HO := Lib.hid (of_any H (by omega))
  have HT := Lib.hid ht
  clear H ht
  go_enter Tryd.func24, Tryd.ntmps24
  go_wp2_with fail
  refine HO.out.mono ?_
  rintro e w1 ⟨vo, O, rfl, hro, hof, hol, hb1⟩
  have hlen1 := (hro.rgs (canon_in32 hof.1 (Int.le_refl _))).len 3 w1
  have hz : ((O.length : Int) == 0) = t := by
    have h1 := empty_is hof
    cases t with
    | true => rw [h1.2 (HT.out.1 rfl)]; rfl
    | false =>
      apply Bool.eq_false_iff.2
      intro h
      have : O = [] := by simpa using h
      have := HT.out.2 (h1.1 this)
      cases this
  have HB1 := Lib.hid hb1
  clear hro hof hb1 HO HT
  go_wp2_with fail
  go_ret
  exact ⟨rfl, HB1.out⟩

set_option maxRecDepth 100000 in
theorem has_any {w : World} {va : Value} {L : List Rg} (H : Rgs w va L) (hL : L.length ≤ 100000) (r : Int) (t : Bool) (ht : t = true ↔ memU L r) :
    Calls Tryd.prog 22 #[va, .int .i32 r] w fun e w' => e = .returned (.bool t) ∧ Below w.heap.size w w' := by
  by_cases hr : r < 0 ∨ 1114111 < r
  · have hf : t = false := Bool.eq_false_iff.2 fun h => by
      have := ht.1 h
      have h1 := this.1
      have h2 := this.2.1
      unfold most at h2
      omega
    subst hf
    clear ht H
    by_cases h0 : r < 0
    · have h0' : decide (r < 0) = true := decide_eq_true h0
      go_enter Tryd.func22, Tryd.ntmps22
      go_wp2
      go_ret
      exact ⟨rfl, Below.refl _ _⟩
    · have h0' : decide (r < 0) = false := decide_eq_false h0
      have h1 : 1114111 < r := by omega
      have h1' : decide (1114111 < r) = true := decide_eq_true h1
      go_enter Tryd.func22, Tryd.ntmps22
      go_wp2
      go_ret
      exact ⟨rfl, Below.refl _ _⟩
  · have h0 : 0 ≤ r := by omega
    have h1 : r ≤ 1114111 := by omega
    have h0' : decide (r < 0) = false := decide_eq_false (by omega)
    have h1' : decide (1114111 < r) = false := decide_eq_false (by omega)
    have hlen1 := H.len 3 w
    have HT : Hid (t = true ↔ ∃ x ∈ L, x.1 ≤ r ∧ r ≤ x.2) := by
      rw [ht]
      unfold memU most
      exact Lib.hid ⟨fun h => h.2.2, fun h => ⟨h0, h1, h⟩⟩
    have HH := Lib.hid H
    clear H ht hr
    go_enter Tryd.func22, Tryd.ntmps22
    go_wp2_with fail
    go_loopw [6, 15] (fun x i wx => ∃ k : Nat, k ≤ L.length ∧ i = .int .i64 (k : Int) ∧ (∀ y ∈ L.take k, ¬ (y.1 ≤ r ∧ r ≤ y.2)) ∧ Below w.heap.size w wx) (fun _ i _ => L.length - (intOf i).toNat)
    case atStart => exact ⟨0, Nat.zero_le _, rfl, by simp, Below.refl _ _⟩
    case round =>
      obtain ⟨k, hk, rfl, hno, hB⟩ := hrel
      have HN := Lib.hid hno
      have HB := Lib.hid hB
      have hsz := hB.size
      by_cases hlt : k < L.length
      · obtain ⟨b, off, cap, rfl, h31, h32, h33, hcell⟩ := (HH.out.stay hB).at (by omega)
        obtain ⟨x, hx⟩ : ∃ x, L[k]? = some x := ⟨L[k], List.getElem?_eq_getElem hlt⟩
        obtain ⟨e0, e1⟩ := hcell k x hx
        have HX := Lib.hid hx
        have HTK : Hid (L.take (k + 1) = L.take k ++ [x]) := by
          rw [List.take_succ_eq_append_getElem hlt, (List.getElem?_eq_some_iff.1 hx).2]; exact Lib.hid rfl
        clear hx hcell hno hB
        by_cases ha : x.1 ≤ r
        · have ha' : decide (x.1 ≤ r) = true := decide_eq_true ha
          by_cases hb : r ≤ x.2
          · have hb' : decide (r ≤ x.2) = true := decide_eq_true hb
            have HF : Hid (t = true) := HT.out.2 ⟨x, List.mem_of_getElem? HX.out, ha, hb⟩
            go_wp2
            go_ret
            exact ⟨by rw [HF.out]; rfl, HB.out.alloc hsz _⟩
          · have hb' : decide (r ≤ x.2) = false := decide_eq_false hb
            have HN2 : Hid (∀ y ∈ L.take (k + 1), ¬ (y.1 ≤ r ∧ r ≤ y.2)) := by
              rw [HTK.out]
              refine Lib.hid fun y hy => ?_
              rcases List.mem_append.1 hy with h | h
              · exact HN.out y h
              · simp at h; subst h; omega
            go_wp2
            go_roundw
            case rel => exact ⟨k + 1, by omega, by go_num, HN2.out, HB.out.alloc hsz _⟩
            case measure => simp [intOf]; omega
        · have ha' : decide (x.1 ≤ r) = false := decide_eq_false ha
          have HN2 : Hid (∀ y ∈ L.take (k + 1), ¬ (y.1 ≤ r ∧ r ≤ y.2)) := by
            rw [HTK.out]
            refine Lib.hid fun y hy => ?_
            rcases List.mem_append.1 hy with h | h
            · exact HN.out y h
            · simp at h; subst h; omega
          go_wp2
          go_roundw
          case rel => exact ⟨k + 1, by omega, by go_num, HN2.out, HB.out.alloc hsz _⟩
          case measure => simp [intOf]; omega
      · have HF : Hid (t = false) := Bool.eq_false_iff.2 fun h => by
          obtain ⟨x, hx, h2⟩ := HT.out.1 h
          exact HN.out x (by rw [List.take_of_length_le (by omega)]; exact hx) h2
        obtain rfl : k = L.length := by omega
        clear hno hB
        go_wp2
        go_ret
        exact ⟨by rw [HF.out]; rfl, HB.out⟩

end Go.Proofs.YtfjlhfalnciamaaDoor.Chars

namespace Go.Proofs.YtfjlhfalnciamaaDoor.Chars
open Go Go.RowKit Go.Proofs.Chars
open Go.Proofs.YtfjlhfalnciamaaDoor.Utf

/-- What a digit of base 16 counts. -/
def digV (c : Nat) : Int := if 48 ≤ c ∧ c ≤ 57 then (c : Int) - 48 else if 97 ≤ c ∧ c ≤ 102 then (c : Int) - 87 else if 65 ≤ c ∧ c ≤ 70 then (c : Int) - 55 else -1
theorem digV_in (c : Nat) : -1 ≤ digV c ∧ digV c ≤ 15 := by
  unfold digV
  repeat' split
  all_goals omega
set_option maxRecDepth 100000 in
theorem digit_any (c : Nat) (hc : c < 256) (w : World) : Calls Tryd.prog 110 #[.int .u8 (c : Int)] w fun e w' => e = .returned (.int .i32 (digV c)) ∧ w = w' := by
  obtain ⟨d, hd⟩ : ∃ d, digV c = d := ⟨_, rfl⟩
  rw [hd]
  unfold digV at hd
  have HD := Lib.hid hd
  clear hd
  go_enter Tryd.func110, Tryd.ntmps110
  go_wp2
  all_goals go_ret
  all_goals refine ⟨?_, rfl⟩
  all_goals show Ending.returned (Value.int .i32 _) = Ending.returned (Value.int .i32 _)
  all_goals congr 2
  all_goals rw [← HD.out]
  all_goals ((repeat' split) <;> omega)

/-- The digits from a place on, up to f of them: where they end, and what they count. -/
def hexGo (b : Nat → Nat) (n : Nat) : Nat → Nat → Int → Nat × Int
  | 0, a, r => (a, r)
  | f + 1, a, r => if a < n ∧ 0 ≤ digV (b a) then hexGo b n f (a + 1) (r * 16 + digV (b a)) else (a, r)
theorem hexGo_in (b : Nat → Nat) (n : Nat) : ∀ f a r, 0 ≤ r → a ≤ n ∨ f = 0 ∨ True → a ≤ (hexGo b n f a r).1 ∧ (hexGo b n f a r).1 ≤ a + f ∧ 0 ≤ (hexGo b n f a r).2 ∧ (a ≤ n → (hexGo b n f a r).1 ≤ n)
  | 0, a, r, h, _ => ⟨Nat.le_refl _, Nat.le_refl _, h, fun h => h⟩
  | f + 1, a, r, h, _ => by
    rw [hexGo]
    split
    · rename_i hc
      have h1 := digV_in (b a)
      obtain ⟨h2, h3, h4, h5⟩ := hexGo_in b n f (a + 1) (r * 16 + digV (b a)) (by omega) (.inr (.inr trivial))
      exact ⟨by omega, by omega, h4, fun _ => h5 (by omega)⟩
    · exact ⟨Nat.le_refl _, by omega, h, fun h => h⟩
/-- The sign of an escape by its number, and its bytes. -/
def numE (b : Nat → Nat) (n : Nat) : Option (Int × Nat) :=
  if n < 2 ∨ b 1 ≠ 123 then none
  else if (hexGo b n 6 2 0).1 = 2 ∨ (hexGo b n 6 2 0).1 = n ∨ b (hexGo b n 6 2 0).1 ≠ 125 then none
  else if Lib.validRune (hexGo b n 6 2 0).2 then some ((hexGo b n 6 2 0).2, (hexGo b n 6 2 0).1 + 1) else none
def escV : Option (Int × Nat) → Value
  | none => .tuple #[.int .i32 0, .int .i64 0, .bool false]
  | some (r, n) => .tuple #[.int .i32 r, .int .i64 (n : Int), .bool true]

set_option maxRecDepth 100000 in
theorem num_any (s : ByteArray) (hs : s.size ≤ 1000000) (w : World) : Calls Tryd.prog 79 #[.string s] w fun e w' => e = .returned (escV (numE (txt s).b s.size)) ∧ w = w' := by
  obtain ⟨V, hV⟩ : ∃ V, escV (numE (txt s).b s.size) = V := ⟨_, rfl⟩
  rw [hV]
  have hb : ∀ i (h : i < s.size), (s[i]'h).toNat = (txt s).b i := fun i h => by rw [get_bang]; rfl
  unfold numE at hV
  by_cases h2 : s.size < 2
  · rw [if_pos (.inl h2)] at hV
    have d1 : (s.size : Int) < 2 := by omega
    have d2 : decide ((s.size : Int) < 2) = true := decide_eq_true d1
    have HV := Lib.hid hV
    clear hV hb
    go_enter Tryd.func79, Tryd.ntmps79
    go_wp2
    exact bodyPost_ret (results_tmp3 rfl _ _ _) rfl ⟨by rw [← HV.out]; rfl, rfl⟩
  · have d1 : ¬ (s.size : Int) < 2 := by omega
    have d2 : decide ((s.size : Int) < 2) = false := decide_eq_false d1
    have d3 : (1 : Nat) < s.size := by omega
    have hb1 := hb 1 d3
    by_cases h3 : (txt s).b 1 = 123
    · have d4 : (((s[1]'d3).toNat : Int) != 123) = false := by rw [hb1, h3]; rfl
      rw [if_neg (by omega)] at hV
      obtain ⟨b, hbb⟩ : ∃ b, (txt s).b = b := ⟨_, rfl⟩
      rw [hbb] at hV hb
      obtain ⟨E, hE⟩ : ∃ E, hexGo b s.size 6 2 0 = E := ⟨_, rfl⟩
      rw [hE] at hV
      have HV := Lib.hid hV
      have HE := Lib.hid hE
      have HBY := Lib.hid hb
      clear hV hE hb hb1 hbb h3
      go_enter Tryd.func79, Tryd.ntmps79
      go_wp2_with fail
      go_loop [5, 6] (fun r i => ∃ (k : Nat) (z : Int), k ≤ 6 ∧ 2 + k ≤ s.size ∧ i = .int .i64 ((2 + k : Nat) : Int) ∧ r = .int .i32 z ∧ 0 ≤ z ∧ z < ((16 ^ k : Nat) : Int) ∧ hexGo b s.size (6 - k) (2 + k) z = E) (fun _ i => 8 - (intOf i).toNat)
      case atStart => exact ⟨0, 0, by omega, by omega, rfl, rfl, by omega, by decide, HE.out⟩
      case round =>
        obtain ⟨k, z, hk, hks, rfl, rfl, hz0, hz1, hgo⟩ := hrel
        have HG := Lib.hid hgo
        obtain ⟨p, hp⟩ : ∃ p, 16 ^ k = p := ⟨_, rfl⟩
        have HP := Lib.hid hp
        rw [hp] at hz1
        obtain ⟨a, ha⟩ : ∃ a, 2 + k = a := ⟨_, rfl⟩
        rw [ha] at hks HG ⊢
        have HA := Lib.hid ha
        have ha8 : a ≤ 8 := by omega
        have ha2 : 2 ≤ a := by omega
        have hka : k = a - 2 := by omega
        have HKA := Lib.hid hka
        clear hgo hp ha hka
        have hdv := digV_in (b a)
        obtain ⟨dv, hdd⟩ : ∃ dv, digV (b a) = dv := ⟨_, rfl⟩
        rw [hdd] at hdv
        have HDD := Lib.hid hdd
        clear hdd
        go_upto_region 4 with fail
        go_cut [31] (fun t wx => t = .bool (decide (a < s.size ∧ a < 8 ∧ 0 ≤ dv)) ∧ w = wx)
        case first =>
          by_cases h1 : a < s.size
          · have f1 : decide ((a : Int) < (s.size : Int)) = true := decide_eq_true (by omega)
            have f1' : (a : Int) < (s.size : Int) := by omega
            by_cases h8 : a < 8
            · have f2 : decide ((a : Int) < 8) = true := decide_eq_true (by omega)
              have f2' : (a : Int) < 8 := by omega
              have hby := HBY.out a h1
              have HD := Lib.hid (digit_any (s[a]'h1).toNat (UInt8.toNat_lt _) w)
              rw [hby, HDD.out] at HD
              by_cases h0 : 0 ≤ dv
              · have f3 : decide (0 ≤ dv) = true := decide_eq_true h0
                go_wp2_with fail
                refine HD.out.mono ?_
                rintro e w1 ⟨rfl, rfl⟩
                go_wp2_with fail
                go_meet
                exact ⟨by simp [h1, h8, h0], rfl⟩
              · have f3 : decide (0 ≤ dv) = false := decide_eq_false h0
                go_wp2_with fail
                refine HD.out.mono ?_
                rintro e w1 ⟨rfl, rfl⟩
                go_wp2_with fail
                go_meet
                exact ⟨by simp [h1, h8, h0], rfl⟩
            · have f2 : decide ((a : Int) < 8) = false := decide_eq_false (by omega)
              go_wp2_with fail
              go_meet
              exact ⟨by simp [h1, h8], rfl⟩
          · have f1 : decide ((a : Int) < (s.size : Int)) = false := decide_eq_false (by omega)
            have f1' : ¬ (a : Int) < (s.size : Int) := by omega
            go_wp2_with fail
            go_meet
            exact ⟨by simp [h1], rfl⟩
        case rest =>
          obtain ⟨rfl, rfl⟩ := hcut
          by_cases hc : a < s.size ∧ a < 8 ∧ 0 ≤ dv
          · rw [decide_eq_true hc]
            obtain ⟨h1, h8, h0⟩ := hc
            have hby := HBY.out a h1
            have HD := Lib.hid (digit_any (s[a]'h1).toNat (UInt8.toNat_lt _) w)
            rw [hby, HDD.out] at HD
            have HG2 : Hid (hexGo b s.size (6 - (k + 1)) (a + 1) (z * 16 + digV (b a)) = E) := by
              have h := HG.out
              obtain ⟨f, hf⟩ : ∃ f, 6 - k = f + 1 := ⟨6 - k - 1, by have := HKA.out; omega⟩
              rw [hf, hexGo, if_pos ⟨h1, by rw [HDD.out]; exact h0⟩] at h
              rw [show 6 - (k + 1) = f by omega]
              exact Lib.hid h
            have HP2 : Hid (16 ^ (k + 1) = p * 16) := by rw [Nat.pow_succ, HP.out]; exact Lib.hid rfl
            have hp5 : p ≤ 1048576 := by
              rw [← HP.out]
              exact Nat.le_trans (Nat.pow_le_pow_right (by decide) (show k ≤ 5 by have := HKA.out; omega)) (by decide)
            rw [HDD.out] at HG2
            have HA2 : Hid (a = 2 + k) := Lib.hid HA.out.symm
            have hk6 : k + 1 ≤ 6 := by have := HKA.out; omega
            have g1 : (a : Int) < (s.size : Int) := by omega
            go_wp2_with fail
            refine HD.out.mono ?_
            rintro e w1 ⟨rfl, rfl⟩
            go_wp2
            go_round
            case rel => exact ⟨k + 1, _, hk6, by have := HA2.out; omega, by have := HA2.out; go_num, rfl, by omega, by rw [HP2.out]; push_cast; omega, by rw [show 2 + (k + 1) = a + 1 by have := HA2.out; omega]; exact HG2.out⟩
            case measure => simp [intOf]; omega
          · rw [decide_eq_false hc]
            have hEa : E = (a, z) := by
              have h := HG.out
              by_cases hk6 : k < 6
              · obtain ⟨f, hf⟩ : ∃ f, 6 - k = f + 1 := ⟨6 - k - 1, by omega⟩
                rw [hf, hexGo, if_neg (fun hh => hc ⟨hh.1, by have := HKA.out; omega, by have := hh.2; rw [HDD.out] at this; exact this⟩)] at h
                exact h.symm
              · rw [show 6 - k = 0 by omega, hexGo] at h
                exact h.symm
            have hVV := HV.out
            rw [hEa] at hVV
            have HV := Lib.hid hVV
            clear hVV hEa hc
            simp only [] at HV
            by_cases h2a : a = 2
            · have f1 : ((a : Int) == 2) = true := by simp; omega
              have hVV := HV.out
              rw [if_pos (.inl h2a)] at hVV
              have HV := Lib.hid hVV
              clear hVV h2a
              go_wp2
              exact bodyPost_ret (results_tmp3 rfl _ _ _) rfl ⟨by rw [← HV.out]; rfl, rfl⟩
            · have f1 : ((a : Int) == 2) = false := by simp; omega
              by_cases hn : a = s.size
              · have f2 : ((a : Int) == (s.size : Int)) = true := by simp; omega
                have hVV := HV.out
                rw [if_pos (.inr (.inl hn))] at hVV
                have HV := Lib.hid hVV
                clear hVV h2a hn
                go_wp2
                exact bodyPost_ret (results_tmp3 rfl _ _ _) rfl ⟨by rw [← HV.out]; rfl, rfl⟩
              · have f2 : ((a : Int) == (s.size : Int)) = false := by simp; omega
                have h1 : a < s.size := by omega
                have g1 : (a : Int) < (s.size : Int) := by omega
                have hby := HBY.out a h1
                by_cases hq : b a = 125
                · have f3 : (((b a : Nat) : Int) != 125) = false := by rw [hq]; rfl
                  have hVV := HV.out
                  rw [if_neg (by omega)] at hVV
                  have HEN := Lib.hid (enc_any z w)
                  cases hvr : Lib.validRune z with
                  | true =>
                    rw [hvr] at HEN
                    rw [if_pos hvr] at hVV
                    have HV := Lib.hid hVV
                    clear hVV h2a hn hq hvr
                    go_wp2_with fail
                    refine HEN.out.mono ?_
                    rintro e w1 ⟨rfl, rfl⟩
                    go_wp2
                    exact bodyPost_ret (results_tmp3 rfl _ _ _) rfl ⟨by rw [← HV.out]; rfl, rfl⟩
                  | false =>
                    rw [hvr] at HEN
                    rw [if_neg (by rw [hvr]; simp)] at hVV
                    have HV := Lib.hid hVV
                    clear hVV h2a hn hq hvr
                    go_wp2_with fail
                    refine HEN.out.mono ?_
                    rintro e w1 ⟨rfl, rfl⟩
                    go_wp2
                    exact bodyPost_ret (results_tmp3 rfl _ _ _) rfl ⟨by rw [← HV.out]; rfl, rfl⟩
                · have f3 : (((b a : Nat) : Int) != 125) = true := by simp; omega
                  have hVV := HV.out
                  rw [if_pos (.inr (.inr hq))] at hVV
                  have HV := Lib.hid hVV
                  clear hVV h2a hn hq
                  go_wp2
                  exact bodyPost_ret (results_tmp3 rfl _ _ _) rfl ⟨by rw [← HV.out]; rfl, rfl⟩
    · have d4 : (((s[1]'d3).toNat : Int) != 123) = true := by rw [hb1]; simp; omega
      rw [if_pos (.inr h3)] at hV
      have HV := Lib.hid hV
      clear hV hb hb1
      go_enter Tryd.func79, Tryd.ntmps79
      go_wp2
      exact bodyPost_ret (results_tmp3 rfl _ _ _) rfl ⟨by rw [← HV.out]; rfl, rfl⟩

end Go.Proofs.YtfjlhfalnciamaaDoor.Chars

namespace Go.Proofs.YtfjlhfalnciamaaDoor.Chars
open Go Go.RowKit Go.Proofs.Chars
open Go.Proofs.YtfjlhfalnciamaaDoor.Utf

/-- The sign that an escape tells, and how many bytes it has. -/
def escE (b : Nat → Nat) (n : Nat) : Option (Int × Nat) :=
  if n = 0 then none
  else if b 0 = 110 then some (10, 1)
  else if b 0 = 116 then some (9, 1)
  else if b 0 = 114 then some (13, 1)
  else if b 0 = 92 ∨ b 0 = 39 ∨ b 0 = 93 ∨ b 0 = 45 ∨ b 0 = 94 then some ((b 0 : Int), 1)
  else if b 0 = 117 then numE b n
  else none

set_option maxRecDepth 100000 in
theorem esc_any (s : ByteArray) (hs : s.size ≤ 1000000) (w : World) : Calls Tryd.prog 47 #[.string s] w fun e w' => e = .returned (escV (escE (txt s).b s.size)) ∧ w = w' := by
  have HN := Lib.hid (num_any s hs w)
  have hb : ∀ i (h : i < s.size), (s[i]'h).toNat = (txt s).b i := fun i h => by rw [get_bang]; rfl
  obtain ⟨V, hV⟩ : ∃ V, escV (escE (txt s).b s.size) = V := ⟨_, rfl⟩
  rw [hV]
  by_cases h0 : s.size = 0
  · unfold escE at hV
    rw [if_pos h0] at hV
    have hs0 : s = ⟨#[]⟩ := by
      have : s.data.toList.length = 0 := by rw [← Lib.size_eq]; exact h0
      cases s with
      | mk d => congr 1; apply Array.toList_inj.1; simpa using this
    subst hs0
    have HV := Lib.hid hV
    clear hV hb
    go_enter Tryd.func47, Tryd.ntmps47
    go_wp2
    exact bodyPost_ret (results_tmp3 rfl _ _ _) rfl ⟨by rw [← HV.out]; rfl, rfl⟩
  · have h0' : 0 < s.size := by omega
    have hb0 := hb 0 h0'
    obtain ⟨b, hbb⟩ : ∃ b, (txt s).b = b := ⟨_, rfl⟩
    rw [hbb] at hV hb0 HN
    unfold escE at hV
    rw [if_neg h0] at hV
    obtain ⟨c, hc⟩ : ∃ c, b 0 = c := ⟨_, rfl⟩
    rw [hc] at hV hb0
    have hne : s.toList ≠ [] := by
      intro h
      have : s.data.toList.length = 0 := by
        have h2 : s.toList = s.data.toList := Lib.toList_data s
        rw [← h2, h]; rfl
      rw [← Lib.size_eq] at this
      omega
    have n1 : (s.toList == []) = false := by simpa using hne
    have k110 : (c = 110) = (((c : Int) == 110) = true) := by rw [beq_iff_eq]; apply propext; omega
    have k116 : (c = 116) = (((c : Int) == 116) = true) := by rw [beq_iff_eq]; apply propext; omega
    have k114 : (c = 114) = (((c : Int) == 114) = true) := by rw [beq_iff_eq]; apply propext; omega
    have k92 : (c = 92) = (((c : Int) == 92) = true) := by rw [beq_iff_eq]; apply propext; omega
    have k39 : (c = 39) = (((c : Int) == 39) = true) := by rw [beq_iff_eq]; apply propext; omega
    have k93 : (c = 93) = (((c : Int) == 93) = true) := by rw [beq_iff_eq]; apply propext; omega
    have k45 : (c = 45) = (((c : Int) == 45) = true) := by rw [beq_iff_eq]; apply propext; omega
    have k94 : (c = 94) = (((c : Int) == 94) = true) := by rw [beq_iff_eq]; apply propext; omega
    have k117 : (c = 117) = (((c : Int) == 117) = true) := by rw [beq_iff_eq]; apply propext; omega
    simp only [k110, k116, k114, k92, k39, k93, k45, k94, k117] at hV
    have hw : IntKind.i32.wrap (c : Int) = (c : Int) := by
      have := UInt8.toNat_lt (s[0]'h0')
      rw [hb0] at this
      exact IntWalk.i32_in _ (by omega)
    obtain ⟨o, ho⟩ : ∃ o, numE b s.size = o := ⟨_, rfl⟩
    rw [ho] at hV HN
    have HV := Lib.hid hV
    clear hV hb hbb hc h0 ho k110 k116 k114 k92 k39 k93 k45 k94 k117
    cases o with
    | none =>
      unfold escV at HN
      go_enter Tryd.func47, Tryd.ntmps47
      go_wp2_with (go_at_call 79; refine HN.out.mono ?_; rintro e w' ⟨rfl, rfl⟩)
      all_goals
        refine bodyPost_ret (results_tmp3 rfl _ _ _) rfl ⟨?_, rfl⟩
        rw [← HV.out]
        first | rfl | (simp only [*]; rfl) | (simp [*, escV]; done)
    | some rn =>
      obtain ⟨r, n⟩ := rn
      unfold escV at HN
      go_enter Tryd.func47, Tryd.ntmps47
      go_wp2_with (go_at_call 79; refine HN.out.mono ?_; rintro e w' ⟨rfl, rfl⟩)
      all_goals
        refine bodyPost_ret (results_tmp3 rfl _ _ _) rfl ⟨?_, rfl⟩
        rw [← HV.out]
        first | rfl | (simp only [*]; rfl) | (simp [*, escV]; done)

end Go.Proofs.YtfjlhfalnciamaaDoor.Chars

namespace Go.Proofs.YtfjlhfalnciamaaDoor.Chars
open Go Go.RowKit Go.Proofs.Chars
open Go.Proofs.YtfjlhfalnciamaaDoor.Utf

/-- What stands at a place: a sign, and the place behind it; or why none does. -/
inductive Sgn where
  | err (code : Int) : Sgn
  | sgn (r : Int) (next : Nat) : Sgn
def sgnV : Sgn → Value
  | .err c => .tuple #[.int .i32 0, .int .i64 0, .int .i64 c]
  | .sgn r n => .tuple #[.int .i32 r, .int .i64 (n : Int), .int .i64 0]
def behindEsc (k : Nat) : Option (Int × Nat) → Sgn
  | none => .err 12
  | some (r, n) => .sgn r (k + 1 + n)
def sgnE (s : ByteArray) (k : Nat) : Sgn :=
  if (txt s).ok k = false then .err 11
  else if (txt s).r k ≠ 92 then .sgn ((txt s).r k : Int) (k + (txt s).w k)
  else behindEsc k (escE (txt (s.extract (k + 1) s.size)).b (s.extract (k + 1) s.size).size)

theorem escE_in {b : Nat → Nat} {n : Nat} {r : Int} {m : Nat} (h : escE b n = some (r, m)) : m ≤ n ∧ 1 ≤ m := by
  unfold escE at h
  split at h
  · cases h
  · rename_i h0
    repeat' (split at h)
    all_goals first
      | (cases h; done)
      | (cases h; omega)
      | skip
    · unfold numE at h
      split at h
      · cases h
      · rename_i h1
        have hg := hexGo_in b n 6 2 0 (by omega) (.inr (.inr trivial))
        split at h
        · cases h
        · rename_i h2
          have h3 := hg.2.2.2 (by omega)
          split at h
          · cases h; omega
          · cases h

set_option maxRecDepth 100000 in
theorem sign_at (s : ByteArray) (hs : s.size ≤ 1000000) (k : Nat) (hk : k < s.size) (W : World) (T : U8 W) :
    Calls Tryd.prog 51 #[.string s, .int .i64 (k : Int)] W fun e w' => e = .returned (sgnV (sgnE s k)) ∧ Below W.heap.size W w' := by
  have HA := Lib.hid (at_in s k W T hk)
  have hsz : (s.extract (k + 1) s.size).size = s.size - (k + 1) := ext_size s (Nat.le_refl _)
  have HES := Lib.hid (fun w => esc_any (s.extract (k + 1) s.size) (by omega) w)
  have hw := (txt s).w_pos k
  have hw4 := (txt s).w_le k
  have hr := (txt s).r_lt k
  obtain ⟨V, hV⟩ : ∃ V, sgnV (sgnE s k) = V := ⟨_, rfl⟩
  rw [hV]
  unfold sgnE at hV
  unfold itemV at HA
  obtain ⟨R, hR⟩ : ∃ R, (txt s).r k = R := ⟨_, rfl⟩
  obtain ⟨K, hK⟩ : ∃ K, (txt s).w k = K := ⟨_, rfl⟩
  obtain ⟨O, hO⟩ : ∃ O, (txt s).ok k = O := ⟨_, rfl⟩
  obtain ⟨E, hE⟩ : ∃ E, escE (txt (s.extract (k + 1) s.size)).b (s.extract (k + 1) s.size).size = E := ⟨_, rfl⟩
  have hEin : ∀ r m, E = some (r, m) → m ≤ s.size := fun r m h => by have := (escE_in (hE.trans h)).1; omega
  rw [hR, hK, hO] at hV HA
  rw [hR] at hr
  rw [hK] at hw hw4
  rw [hE] at hV HES
  have HV := Lib.hid hV
  have HEI := Lib.hid hEin
  have HSZ := Lib.hid hsz
  clear hR hK hO hE hV hEin hsz T
  cases O with
  | false =>
    have HV := Lib.hid (HV.out)
    go_enter Tryd.func51, Tryd.ntmps51
    go_wp2_with fail
    refine HA.out.mono ?_
    rintro e w1 ⟨rfl, hb⟩
    have HB := Lib.hid (hb.alloc hb.size (.cells #[.int .i64 (k : Int), .int .i64 (K : Int), .int .i32 (R : Int), .bool false] 110))
    clear hb
    go_wp2
    exact bodyPost_ret (results_tmp3 rfl _ _ _) rfl ⟨by rw [← HV.out]; rfl, HB.out⟩
  | true =>
    by_cases h92 : R = 92
    · have d1 : ((R : Int) != 92) = false := by rw [h92]; rfl
      have HV : Hid (sgnV (behindEsc k E) = V) := by
        have := HV.out
        rw [if_neg (by simp), if_neg (by simpa using h92)] at this
        exact Lib.hid this
      clear h92
      cases E with
      | none =>
        have HV2 : Hid (sgnV (.err 12) = V) := HV.out
        unfold escV at HES
        go_enter Tryd.func51, Tryd.ntmps51
        go_wp2_with fail
        refine HA.out.mono ?_
        rintro e w1 ⟨rfl, hb⟩
        have HB := Lib.hid (hb.alloc hb.size (.cells #[.int .i64 (k : Int), .int .i64 (K : Int), .int .i32 (R : Int), .bool true] 110))
        clear hb
        go_wp2_with fail
        refine (HES.out _).mono ?_
        rintro e w2 ⟨rfl, rfl⟩
        go_wp2
        exact bodyPost_ret (results_tmp3 rfl _ _ _) rfl ⟨by rw [← HV2.out]; rfl, HB.out⟩
      | some rn =>
        obtain ⟨r, m⟩ := rn
        have hm := HEI.out r m rfl
        have HV2 : Hid (sgnV (.sgn r (k + 1 + m)) = V) := HV.out
        unfold escV at HES
        go_enter Tryd.func51, Tryd.ntmps51
        go_wp2_with fail
        refine HA.out.mono ?_
        rintro e w1 ⟨rfl, hb⟩
        have HB := Lib.hid (hb.alloc hb.size (.cells #[.int .i64 (k : Int), .int .i64 (K : Int), .int .i32 (R : Int), .bool true] 110))
        clear hb
        go_wp2_with fail
        refine (HES.out _).mono ?_
        rintro e w2 ⟨rfl, rfl⟩
        go_wp2
        exact bodyPost_ret (results_tmp3 rfl _ _ _) rfl ⟨by rw [← HV2.out]; unfold sgnV; go_num, HB.out⟩
    · have d1 : ((R : Int) != 92) = true := by simp; omega
      have HV : Hid (sgnV (.sgn (R : Int) (k + K)) = V) := by
        have := HV.out
        rw [if_neg (by simp), if_pos h92] at this
        exact Lib.hid this
      clear h92
      go_enter Tryd.func51, Tryd.ntmps51
      go_wp2_with fail
      refine HA.out.mono ?_
      rintro e w1 ⟨rfl, hb⟩
      have HB := Lib.hid (fun n => below_drewN (hb.alloc hb.size (.cells #[.int .i64 (k : Int), .int .i64 (K : Int), .int .i32 (R : Int), .bool true] 110)) n)
      have ws : IntKind.i64.wrap ((k : Int) + (K : Int)) = (k : Int) + K := IntWalk.i64_in _ (by omega)
      clear hb
      go_wp2_with fail
      go_quiet (fail)
      go_wp2
      exact bodyPost_ret (results_tmp3 rfl _ _ _) rfl ⟨by rw [← HV.out]; unfold sgnV; go_num, HB.out _⟩

end Go.Proofs.YtfjlhfalnciamaaDoor.Chars

namespace Go.Proofs.YtfjlhfalnciamaaDoor.Chars
open Go Go.RowKit Go.Proofs.Chars
open Go.Proofs.YtfjlhfalnciamaaDoor.Utf

inductive Rd where
  | bad (c : Int) (a : Nat) : Rd
  | good (l : List Rg) : Rd
def readGo (s : ByteArray) : Nat → Nat → List Rg → Rd
  | 0, _, l => .good l
  | f + 1, a, l =>
    if a < s.size then
      match sgnE s a with
      | .err c => .bad c a
      | .sgn lo nx =>
        if nx + 1 < s.size ∧ (txt s).b nx = 45 then
          match sgnE s (nx + 1) with
          | .err c => .bad c (nx + 1)
          | .sgn hi n2 => if hi < lo then .bad 13 a else readGo s f n2 (l ++ [(lo, hi)])
        else readGo s f nx (l ++ [(lo, lo)])
    else .good l
def readE (s : ByteArray) : Rd := if s.size = 0 then .bad 14 0 else readGo s s.size 0 []

theorem numE_sign {b : Nat → Nat} {n : Nat} {r : Int} {m : Nat} (h : numE b n = some (r, m)) : Lib.validRune r = true := by
  unfold numE at h
  split at h
  · cases h
  · split at h
    · cases h
    · split at h
      · rename_i h1; cases h; exact h1
      · cases h
theorem escE_sign {b : Nat → Nat} {n : Nat} {r : Int} {m : Nat} (h : escE b n = some (r, m)) : Lib.validRune r = true := by
  unfold escE at h
  have ok : ∀ c : Int, 0 ≤ c → c < 55296 → Lib.validRune c = true := fun c h1 h2 => (valid_iff c).2 (.inl ⟨h1, h2⟩)
  split at h
  · cases h
  split at h
  · cases h; decide
  split at h
  · cases h; decide
  split at h
  · cases h; decide
  split at h
  · rename_i hc
    cases h
    exact ok _ (by omega) (by omega)
  split at h
  · exact numE_sign h
  · cases h
theorem ok_sign (t : Txt) (i : Nat) (h : t.ok i = true) : Lib.validRune (t.r i : Int) = true := by
  have hk := t.kind i
  unfold Txt.ok Txt.r Txt.w at h
  unfold Txt.r
  apply (valid_iff _).2
  have h0 := t.lt i
  have h1 := t.lt (i + 1)
  have h2 := t.lt (i + 2)
  have h3 := t.lt (i + 3)
  generalize t.dc i = d at hk h
  cases hk with
  | one a => left; constructor <;> (simp only []; omega)
  | bad a => simp at h
  | two a1 a2 a3 a4 a5 => left; constructor <;> (simp only []; omega)
  | three a1 a2 a3 a4 a5 a6 a7 a8 a9 => simp only []; omega
  | four a1 a2 a3 a4 a5 a6 a7 a8 a9 b1 b2 => right; constructor <;> (simp only []; omega)
/-- A sign that stands at a place is one, and ends behind it, within the text. -/
theorem sgnE_in {s : ByteArray} {k : Nat} (hk : k < s.size) {r : Int} {n : Nat} (h : sgnE s k = .sgn r n) : Lib.validRune r = true ∧ k < n ∧ n ≤ s.size := by
  unfold sgnE at h
  have hw := (txt s).w_pos k
  have hwn : k + (txt s).w k ≤ s.size := (txt s).w_in k hk
  have hsz : (s.extract (k + 1) s.size).size = s.size - (k + 1) := ext_size s (Nat.le_refl _)
  split at h
  · cases h
  · rename_i ho
    split at h
    · cases h
      exact ⟨ok_sign _ _ (by simpa using ho), by omega, hwn⟩
    · cases he : escE (txt (s.extract (k + 1) s.size)).b (s.extract (k + 1) s.size).size with
      | none => rw [he] at h; cases h
      | some rn =>
        obtain ⟨r', m⟩ := rn
        rw [he] at h
        have h1 := escE_in he
        have h2 := escE_sign he
        cases h
        exact ⟨h2, by omega, by omega⟩
theorem sgnE_err {s : ByteArray} {k : Nat} {c : Int} (h : sgnE s k = .err c) : c = 11 ∨ c = 12 := by
  unfold sgnE at h
  split at h
  · cases h; exact .inl rfl
  · split at h
    · cases h
    · cases he : escE (txt (s.extract (k + 1) s.size)).b (s.extract (k + 1) s.size).size with
      | none => rw [he] at h; cases h; exact .inr rfl
      | some rn => rw [he] at h; cases h

def stopV (c : Int) (a : Nat) : Value := .agg #[.int .i64 c, .int .i64 (a : Int)]
def ReadP (w : World) (o : Rd) (e : Ending) (w' : World) : Prop :=
  match o with
  | .bad c a => e = .returned (.tuple #[.slice none 0 0, stopV c a]) ∧ Below w.heap.size w w'
  | .good l => ∃ v O, e = .returned (.tuple #[v, stopV 0 0]) ∧ Rowed w' w.heap.size v O ∧ IsOf l O ∧ O.length ≤ l.length ∧ Below w.heap.size w w'

end Go.Proofs.YtfjlhfalnciamaaDoor.Chars

namespace Go.Proofs.YtfjlhfalnciamaaDoor.Chars
open Go Go.RowKit Go.Proofs.Chars
open Go.Proofs.YtfjlhfalnciamaaDoor.Utf

theorem stop_block {W wx : World} (hB : Below (W.heap.size + 1) (W.alloc (.cells #[.int .i64 0, .int .i64 0] 48)) wx) : wx.heap[W.heap.size]? = some (.cells #[.int .i64 0, .int .i64 0] 48 (0, 0)) :=
  (hB.block _ (by omega)).trans (heap_alloc_new W _)
theorem bad_ret {W wx : World} (hB : Below (W.heap.size + 1) (W.alloc (.cells #[.int .i64 0, .int .i64 0] 48)) wx) (p q : Value) :
    Below W.heap.size W ((wx.setCell ⟨W.heap.size, 0, none⟩ p).setCell ⟨W.heap.size, 1, none⟩ q) :=
  (((((RowKit.Below.refl _ W).alloc (Nat.le_refl _) _).trans (hB.mono (by omega))).setCell (p := ⟨W.heap.size, 0, none⟩) (Nat.le_refl _) _).setCell (p := ⟨W.heap.size, 1, none⟩) (Nat.le_refl _) _)

set_option maxHeartbeats 1000000 in
set_option maxRecDepth 100000 in
theorem read_any (s : ByteArray) (hs : s.size ≤ 50000) (W : World) (T : U8 W) :
    Calls Tryd.prog 29 #[.string s] W fun e w' => ReadP W (readE s) e w' := by
  obtain ⟨i0, hi, hz0, hz1, hz2⟩ := info_parts info44
  obtain ⟨E, hE⟩ : ∃ E, readE s = E := ⟨_, rfl⟩
  rw [hE]
  unfold readE at hE
  by_cases h0 : s.size = 0
  · rw [if_pos h0] at hE
    subst hE
    have hs0 : s = ⟨#[]⟩ := by
      have : s.data.toList.length = 0 := by rw [← Lib.size_eq]; exact h0
      cases s with
      | mk d => congr 1; apply Array.toList_inj.1; simpa using this
    subst hs0
    clear h0
    go_enter Tryd.func29, Tryd.ntmps29
    go_wp2_with fail
    refine bodyPost_ret (v := .tuple #[.slice none 0 0, stopV 14 0]) (by simp [results, Tryd.results29, go_sem, stopV]) rfl ?_
    exact ⟨rfl, (RowKit.Below.refl _ W).alloc (Nat.le_refl _) _⟩
  · rw [if_neg h0] at hE
    have HE := Lib.hid hE
    have hne : s.toList ≠ [] := by
      intro h
      have : s.data.toList.length = 0 := by
        have h2 : s.toList = s.data.toList := Lib.toList_data s
        rw [← h2, h]; rfl
      rw [← Lib.size_eq] at this
      omega
    have n1 : (s.toList == []) = false := by simpa using hne
    have hby : ∀ i (h : i < s.size), (s[i]'h).toNat = (txt s).b i := fun i h => by rw [get_bang]; rfl
    have HBY := Lib.hid hby
    have HT := Lib.hid (T.stay ((RowKit.Below.refl _ W).alloc (Nat.le_refl _) (.cells #[.int .i64 0, .int .i64 0] 48)))
    have hTB := T
    clear hE hby hne T hTB
    go_enter Tryd.func29, Tryd.ntmps29
    go_wp2_with fail
    go_loopw [4, 5, 6, 7, 8, 9, 10] (fun v i x6 x7 x8 x9 x10 wx => ∃ (a f : Nat) (l : List Rg), a ≤ s.size ∧ s.size - a ≤ f ∧ i = .int .i64 (a : Int) ∧ l.length ≤ a ∧ (∀ x ∈ l, in32 x) ∧ readGo s f a l = E ∧ Rowed wx (W.heap.size + 1) v l ∧ Below (W.heap.size + 1) (W.alloc (.cells #[.int .i64 0, .int .i64 0] 48)) wx) (fun _ i _ _ _ _ _ _ => s.size - (intOf i).toNat)
    case atStart => exact ⟨0, s.size, [], Nat.zero_le _, by omega, rfl, Nat.le_refl _, by simp, HE.out, ⟨rfl, .inl ⟨rfl, rfl⟩⟩, Below.refl _ _⟩
    case round =>
      obtain ⟨a, f, l, ha, hf, rfl, hll, hin, hgo, hrow, hB⟩ := hrel
      have HG := Lib.hid hgo
      have HIN := Lib.hid hin
      have HW := Lib.hid hrow
      have HB := Lib.hid hB
      have hbl := stop_block hB
      have hsz := hB.size
      simp at hsz
      have HBL := Lib.hid hbl
      have HTr := Lib.hid (HT.out.stay (by simpa using hB))
      clear hgo hin hrow hB hbl
      by_cases hlt : a < s.size
      · have g1 : (a : Int) < (s.size : Int) := by omega
        obtain ⟨f', rfl⟩ : ∃ f', f = f' + 1 := ⟨f - 1, by omega⟩
        have HS := Lib.hid (sign_at s (by omega) a hlt wr HTr.out)
        cases hsg : sgnE s a with
        | err c =>
          have hce := sgnE_err hsg
          have hEc : E = .bad c a := by have := HG.out; rw [readGo, if_pos hlt, hsg] at this; exact this.symm
          rw [hsg] at HS
          unfold sgnV at HS
          have hc0 : (c != 0) = true := by rcases hce with rfl | rfl <;> rfl
          have EQ := Lib.hid hEc
          clear hsg hEc hce
          go_wp2_with fail
          refine HS.out.mono ?_
          rintro e w2 ⟨rfl, hb2⟩
          have bl2 := (hb2.block W.heap.size (by omega)).trans HBL.out
          have HB2 : Hid (Below (W.heap.size + 1) (W.alloc (.cells #[.int .i64 0, .int .i64 0] 48)) w2) := HB.out.trans (hb2.mono hsz)
          clear hb2 HS
          have c0 : w2.cell? ⟨W.heap.size, 0, none⟩ = some (.int .i64 0) := by rw [Lib.cell_of_heap bl2]; rfl
          have c1 : w2.cell? ⟨W.heap.size, 1, none⟩ = some (.int .i64 0) := by rw [Lib.cell_of_heap bl2]; rfl
          have f0 := Lib.frozen_of_heap bl2 0
          have f1 := Lib.frozen_of_heap bl2 1
          have HF := Lib.hid (fun p q => bad_ret HB2.out p q)
          clear bl2
          go_wp2
          refine bodyPost_ret (v := .tuple #[.slice none 0 0, stopV c a]) (by simp [results, Tryd.results29, go_sem, stopV, c0, c1]) rfl ?_
          rw [EQ.out]
          exact ⟨rfl, HF.out _ _⟩
        | sgn lo nx =>
          obtain ⟨hv, hnx1, hnx2⟩ := sgnE_in hlt hsg
          have hlo := (valid_iff lo).1 hv
          rw [hsg] at HS
          unfold sgnV at HS
          have hgo2 := HG.out
          rw [readGo, if_pos hlt, hsg] at hgo2
          simp only [] at hgo2
          have HG2 := Lib.hid hgo2
          clear hsg hv hgo2
          go_wp2_with fail
          refine HS.out.mono ?_
          rintro e w2 ⟨rfl, hb2⟩
          have bl2 := (hb2.block W.heap.size (by omega)).trans HBL.out
          have HB2 : Hid (Below (W.heap.size + 1) (W.alloc (.cells #[.int .i64 0, .int .i64 0] 48)) w2) := HB.out.trans (hb2.mono hsz)
          have HW2 := Lib.hid (HW.out.stay hb2)
          have HT2 := Lib.hid (HTr.out.stay hb2)
          have hsz2 : W.heap.size + 1 ≤ w2.heap.size := by have := hb2.size; omega
          clear hb2 HS
          by_cases hd1 : nx + 1 < s.size
          · have g2 : (nx : Int) + 1 < (s.size : Int) := by omega
            have g2' : decide ((nx : Int) + 1 < (s.size : Int)) = true := decide_eq_true g2
            have g3 : (nx : Int) < (s.size : Int) := by omega
            have hlb : nx < s.size := by omega
            have hby := HBY.out nx hlb
            by_cases hd2 : (txt s).b nx = 45
            · have d3 : (((s[nx]'hlb).toNat : Int) == 45) = true := by rw [hby, hd2]; rfl
              have hE2 := HG2.out
              rw [if_pos ⟨hd1, hd2⟩] at hE2
              have HS2 := Lib.hid (sign_at s (by omega) (nx + 1) hd1 w2 HT2.out)
              rw [show ((nx + 1 : Nat) : Int) = (nx : Int) + 1 by omega] at HS2
              cases hsg : sgnE s (nx + 1) with
              | err c =>
                have hce := sgnE_err hsg
                rw [hsg] at hE2
                have EQ : Hid (E = .bad c (nx + 1)) := hE2.symm
                rw [hsg] at HS2
                unfold sgnV at HS2
                have hc0 : (c != 0) = true := by rcases hce with rfl | rfl <;> rfl
                have HBL2 := Lib.hid bl2
                clear hsg hE2 hce hby hd2 bl2
                go_wp2_with fail
                refine HS2.out.mono ?_
                rintro e w3 ⟨rfl, hb3⟩
                have bl2 := (hb3.block W.heap.size (by omega)).trans HBL2.out
                have HB3 : Hid (Below (W.heap.size + 1) (W.alloc (.cells #[.int .i64 0, .int .i64 0] 48)) w3) := HB2.out.trans (hb3.mono hsz2)
                clear hb3 HS2
                have c0 : w3.cell? ⟨W.heap.size, 0, none⟩ = some (.int .i64 0) := by rw [Lib.cell_of_heap bl2]; rfl
                have c1 : w3.cell? ⟨W.heap.size, 1, none⟩ = some (.int .i64 0) := by rw [Lib.cell_of_heap bl2]; rfl
                have f0 := Lib.frozen_of_heap bl2 0
                have f1 := Lib.frozen_of_heap bl2 1
                have HF := Lib.hid (fun p q => bad_ret HB3.out p q)
                clear bl2
                go_wp2
                refine bodyPost_ret (v := .tuple #[.slice none 0 0, stopV c (nx + 1)]) (by rw [show stopV c (nx + 1) = .agg #[.int .i64 c, .int .i64 ((nx : Int) + 1)] by simp only [stopV]; rw [show ((nx + 1 : Nat) : Int) = (nx : Int) + 1 by omega]]; simp [results, Tryd.results29, go_sem, c0, c1]) rfl ?_
                rw [EQ.out]
                exact ⟨by simp only [stopV], HF.out _ _⟩
              | sgn hi' n2 =>
                obtain ⟨hv2, hn21, hn22⟩ := sgnE_in hd1 hsg
                have hhi := (valid_iff hi').1 hv2
                rw [hsg] at hE2
                simp only [] at hE2
                rw [hsg] at HS2
                unfold sgnV at HS2
                have HE2 := Lib.hid hE2
                have HBL2 := Lib.hid bl2
                clear hsg hE2 hby hd2 bl2 hv2
                go_wp2_with fail
                refine HS2.out.mono ?_
                rintro e w3 ⟨rfl, hb3⟩
                have bl2 := (hb3.block W.heap.size (by omega)).trans HBL2.out
                have HB3 : Hid (Below (W.heap.size + 1) (W.alloc (.cells #[.int .i64 0, .int .i64 0] 48)) w3) := HB2.out.trans (hb3.mono hsz2)
                have HW3 := Lib.hid (HW2.out.stay hb3)
                have hsz3 : W.heap.size + 1 ≤ w3.heap.size := by have := hb3.size; omega
                clear hb3 HS2
                by_cases hlt2 : hi' < lo
                · have dlt : decide (hi' < lo) = true := decide_eq_true hlt2
                  have EQ : Hid (E = .bad 13 a) := by have := HE2.out; rw [if_pos hlt2] at this; exact this.symm
                  have c0 : w3.cell? ⟨W.heap.size, 0, none⟩ = some (.int .i64 0) := by rw [Lib.cell_of_heap bl2]; rfl
                  have c1 : w3.cell? ⟨W.heap.size, 1, none⟩ = some (.int .i64 0) := by rw [Lib.cell_of_heap bl2]; rfl
                  have f0 := Lib.frozen_of_heap bl2 0
                  have f1 := Lib.frozen_of_heap bl2 1
                  have HF := Lib.hid (fun p q => bad_ret HB3.out p q)
                  clear bl2
                  go_wp2
                  refine bodyPost_ret (v := .tuple #[.slice none 0 0, stopV 13 a]) (by simp [results, Tryd.results29, go_sem, stopV, c0, c1]) rfl ?_
                  rw [EQ.out]
                  exact ⟨rfl, HF.out _ _⟩
                · have dlt : decide (hi' < lo) = false := decide_eq_false hlt2
                  have hEn : readGo s f' n2 (l ++ [(lo, hi')]) = E := by have := HE2.out; rw [if_neg hlt2] at this; exact this
                  have HEN := Lib.hid hEn
                  have HRG : Hid (in32 (lo, hi')) := ⟨⟨by show -2147483648 ≤ lo; omega, by show lo ≤ 2147483647; omega⟩, by show -2147483648 ≤ hi'; omega, by show hi' ≤ 2147483647; omega⟩
                  have hown := Lib.hid (show w3.ownsRow (W.heap.size + 1) 44 2 u4 l.length (rcells l) from HW3.out)
                  clear hEn bl2
                  go_wp2_with (at_builtin; refine wpList_append_own _ rfl _ _ 22 rfl (W.heap.size + 1) 44 i0 (.agg #[.int .i32 0, .int .i32 0]) 2 8 Tryd.underlying22 hi hz0 hz1 hz2 rfl (by decide) _ _ _ rfl (hown.out.alloc _) ⟨w3.heap.size, 0, none⟩ 1 1 [.int .i32 lo, .int .i32 hi'] rfl rfl ?c1 ?c2 ?c3 ?c4 ?c5 ?_)
                  case c1 => exact news1 _ #[_, _] _
                  case c2 => intro u hu; simp at hu; rcases hu with rfl | rfl <;> rfl
                  case c3 => unfold maxLen; omega
                  case c4 => omega
                  case c5 => simp; omega
                  intro v' w5 hown2 hgrow _
                  have HR2 : Hid (Rowed w5 (W.heap.size + 1) v' (l ++ [(lo, hi')])) := by
                    unfold Rowed
                    rw [rcells_append, List.length_append]
                    exact Lib.hid hown2
                  have HB5 : Hid (Below (W.heap.size + 1) (W.alloc (.cells #[.int .i64 0, .int .i64 0] 48)) w5) := ((HB3.out.alloc (by omega) _).grown hgrow (by simp; omega) fun k hk => (hown.out.lt k hk).1)
                  have hin2 : ∀ x ∈ l ++ [(lo, hi')], in32 x := fun x hx => by
                    rcases List.mem_append.1 hx with h | h
                    · exact HIN.out x h
                    · simp at h; subst h; exact HRG.out
                  have HIN2 := Lib.hid hin2
                  have hll2 : (l ++ [(lo, hi')]).length ≤ a + 1 := by simp; omega
                  clear hown2 hgrow hown hin2
                  go_wp2
                  go_roundw
                  case rel => exact ⟨n2, f', _, hn22, by omega, rfl, by omega, HIN2.out, HEN.out, HR2.out, HB5.out⟩
                  case measure => simp [intOf]; omega
            · have d3 : (((s[nx]'hlb).toNat : Int) == 45) = false := by rw [hby]; simp; omega
              have hEn : readGo s f' nx (l ++ [(lo, lo)]) = E := by have := HG2.out; rw [if_neg (by omega)] at this; exact this
              have HEN := Lib.hid hEn
              have HRG : Hid (in32 (lo, lo)) := ⟨⟨by show -2147483648 ≤ lo; omega, by show lo ≤ 2147483647; omega⟩, by show -2147483648 ≤ lo; omega, by show lo ≤ 2147483647; omega⟩
              have hown := Lib.hid (show w2.ownsRow (W.heap.size + 1) 44 2 u4 l.length (rcells l) from HW2.out)
              have dlt : decide (lo < lo) = false := decide_eq_false (by omega)
              clear hEn hby hd2 bl2
              go_wp2_with (at_builtin; refine wpList_append_own _ rfl _ _ 22 rfl (W.heap.size + 1) 44 i0 (.agg #[.int .i32 0, .int .i32 0]) 2 8 Tryd.underlying22 hi hz0 hz1 hz2 rfl (by decide) _ _ _ rfl (hown.out.alloc _) ⟨w2.heap.size, 0, none⟩ 1 1 [.int .i32 lo, .int .i32 lo] rfl rfl ?c1 ?c2 ?c3 ?c4 ?c5 ?_)
              case c1 => exact news1 _ #[_, _] _
              case c2 => intro u hu; simp at hu; rcases hu with rfl | rfl <;> rfl
              case c3 => unfold maxLen; omega
              case c4 => omega
              case c5 => simp; omega
              intro v' w5 hown2 hgrow _
              have HR2 : Hid (Rowed w5 (W.heap.size + 1) v' (l ++ [(lo, lo)])) := by
                unfold Rowed
                rw [rcells_append, List.length_append]
                exact Lib.hid hown2
              have HB5 : Hid (Below (W.heap.size + 1) (W.alloc (.cells #[.int .i64 0, .int .i64 0] 48)) w5) := ((HB2.out.alloc (by omega) _).grown hgrow (by simp; omega) fun k hk => (hown.out.lt k hk).1)
              have hin2 : ∀ x ∈ l ++ [(lo, lo)], in32 x := fun x hx => by
                rcases List.mem_append.1 hx with h | h
                · exact HIN.out x h
                · simp at h; subst h; exact HRG.out
              have HIN2 := Lib.hid hin2
              have hll2 : (l ++ [(lo, lo)]).length ≤ a + 1 := by simp; omega
              clear hown2 hgrow hown hin2
              go_wp2
              go_roundw
              case rel => exact ⟨nx, f', _, hnx2, by omega, rfl, by omega, HIN2.out, HEN.out, HR2.out, HB5.out⟩
              case measure => simp [intOf]; omega
          · have g2 : ¬ (nx : Int) + 1 < (s.size : Int) := by omega
            have g2' : decide ((nx : Int) + 1 < (s.size : Int)) = false := decide_eq_false g2
            have hEn : readGo s f' nx (l ++ [(lo, lo)]) = E := by have := HG2.out; rw [if_neg (by omega)] at this; exact this
            have HEN := Lib.hid hEn
            have HRG : Hid (in32 (lo, lo)) := ⟨⟨by show -2147483648 ≤ lo; omega, by show lo ≤ 2147483647; omega⟩, by show -2147483648 ≤ lo; omega, by show lo ≤ 2147483647; omega⟩
            have hown := Lib.hid (show w2.ownsRow (W.heap.size + 1) 44 2 u4 l.length (rcells l) from HW2.out)
            have dlt : decide (lo < lo) = false := decide_eq_false (by omega)
            clear hEn bl2
            go_wp2_with (at_builtin; refine wpList_append_own _ rfl _ _ 22 rfl (W.heap.size + 1) 44 i0 (.agg #[.int .i32 0, .int .i32 0]) 2 8 Tryd.underlying22 hi hz0 hz1 hz2 rfl (by decide) _ _ _ rfl (hown.out.alloc _) ⟨w2.heap.size, 0, none⟩ 1 1 [.int .i32 lo, .int .i32 lo] rfl rfl ?c1 ?c2 ?c3 ?c4 ?c5 ?_)
            case c1 => exact news1 _ #[_, _] _
            case c2 => intro u hu; simp at hu; rcases hu with rfl | rfl <;> rfl
            case c3 => unfold maxLen; omega
            case c4 => omega
            case c5 => simp; omega
            intro v' w5 hown2 hgrow _
            have HR2 : Hid (Rowed w5 (W.heap.size + 1) v' (l ++ [(lo, lo)])) := by
              unfold Rowed
              rw [rcells_append, List.length_append]
              exact Lib.hid hown2
            have HB5 : Hid (Below (W.heap.size + 1) (W.alloc (.cells #[.int .i64 0, .int .i64 0] 48)) w5) := ((HB2.out.alloc (by omega) _).grown hgrow (by simp; omega) fun k hk => (hown.out.lt k hk).1)
            have hin2 : ∀ x ∈ l ++ [(lo, lo)], in32 x := fun x hx => by
              rcases List.mem_append.1 hx with h | h
              · exact HIN.out x h
              · simp at h; subst h; exact HRG.out
            have HIN2 := Lib.hid hin2
            have hll2 : (l ++ [(lo, lo)]).length ≤ a + 1 := by simp; omega
            clear hown2 hgrow hown hin2
            go_wp2
            go_roundw
            case rel => exact ⟨nx, f', _, hnx2, by omega, rfl, by omega, HIN2.out, HEN.out, HR2.out, HB5.out⟩
            case measure => simp [intOf]; omega
      · have g1 : ¬ (a : Int) < (s.size : Int) := by omega
        have EQ : Hid (E = .good l) := by
          have := HG.out
          cases f with
          | zero => rw [readGo] at this; exact this.symm
          | succ f => rw [readGo, if_neg hlt] at this; exact this.symm
        have HO := Lib.hid (of_any (HW.out.rgs HIN.out) (by omega))
        clear hlt
        go_wp2_with fail
        refine HO.out.mono ?_
        rintro e w2 ⟨v2, O, rfl, hr2, hof, hol, hb2⟩
        have bl2 := (hb2.block W.heap.size (by omega)).trans HBL.out
        have HB2 : Hid (Below (W.heap.size + 1) (W.alloc (.cells #[.int .i64 0, .int .i64 0] 48)) w2) := HB.out.trans (hb2.mono hsz)
        have HR2 := Lib.hid hr2
        have HOF := Lib.hid hof
        have hne2 : v2.ownBlock ≠ some W.heap.size := fun e => by
          rcases hr2.2 with ⟨rfl, _⟩ | ⟨g, cap, cur, rfl, h1, _⟩
          · cases e
          · have : g = W.heap.size := by simpa [Value.ownBlock] using e
            omega
        have HNE := Lib.hid hne2
        obtain ⟨A2, cap2, rfl⟩ := hr2.form
        clear hr2 hof hb2 HO hne2
        have c0 : w2.cell? ⟨W.heap.size, 0, none⟩ = some (.int .i64 0) := by rw [Lib.cell_of_heap bl2]; rfl
        have c1 : w2.cell? ⟨W.heap.size, 1, none⟩ = some (.int .i64 0) := by rw [Lib.cell_of_heap bl2]; rfl
        have f0 := Lib.frozen_of_heap bl2 0
        have f1 := Lib.frozen_of_heap bl2 1
        have HF := Lib.hid (fun p q => bad_ret HB2.out p q)
        have HRR : Hid (∀ p q, Rowed ((w2.setCell ⟨W.heap.size, 0, none⟩ p).setCell ⟨W.heap.size, 1, none⟩ q) W.heap.size (.slice A2 O.length cap2) O) := fun p q =>
          ((HR2.out.setFar (p := ⟨W.heap.size, 0, none⟩) HNE.out p).setFar (p := ⟨W.heap.size, 1, none⟩) HNE.out q).low (by omega)
        clear bl2
        go_wp2
        refine bodyPost_ret (v := .tuple #[.slice A2 O.length cap2, stopV 0 0]) (by simp [results, Tryd.results29, go_sem, stopV, c0, c1]) rfl ?_
        rw [EQ.out]
        exact ⟨_, O, rfl, HRR.out _ _, HOF.out, hol, HF.out _ _⟩

end Go.Proofs.YtfjlhfalnciamaaDoor.Chars

namespace Go.Proofs.YtfjlhfalnciamaaDoor.Chars
open Go Go.RowKit Go.Proofs.Chars
open Go.Proofs.YtfjlhfalnciamaaDoor.Utf

/-- What the package leans on: the tables, and some number in the library's MaxLen. -/
def GT (W : World) : Prop := U8 W ∧ Z16 W ∧ ∃ m, W.cell? ⟨2, 0, none⟩ = some (.int .i64 m)
theorem GT.stay {w w' : World} (h : GT w) (hb : Below w.heap.size w w') : GT w' := by
  obtain ⟨h1, h2, m, h3⟩ := h
  exact ⟨h1.stay hb, h2.stay hb, m, (hb.cell (p := ⟨2, 0, none⟩) (World.block_lt_of_cell? w ⟨2, 0, none⟩ h3)).trans h3⟩
theorem GT.of {W : World} (h1 : U8 W) (h2 : Z16 W) (h3 : W.ShapedOpen Tryd.prog) : GT W := ⟨h1, h2, Tryd.laysM144.s1_3 W h3⟩

def signB (r : Int) (esc : ByteArray) : ByteArray :=
  if r = 10 then ⟨#[92, 110]⟩
  else if r = 9 then ⟨#[92, 116]⟩
  else if r = 13 then ⟨#[92, 114]⟩
  else if r = 92 ∨ Lib.contains esc.data.toList (encB r).data.toList = true then (⟨#[92]⟩ : ByteArray) ++ encB r
  else if 32 ≤ r ∧ r ≠ 127 then encB r
  else (⟨#[92, 117, 123]⟩ : ByteArray) ++ ⟨(hexL r.toNat).toArray⟩ ++ ⟨#[125]⟩

theorem encB_size (r : Int) (h : Lib.validRune r = true) : 1 ≤ (encB r).size ∧ (encB r).size ≤ 4 := by
  have h0 : 0 ≤ r := by have := (valid_iff r).1 h; omega
  obtain ⟨n, rfl⟩ := Int.eq_ofNat_of_zero_le h0
  have h1 := encB_nat n
  have h2 : (encB (n : Int)).size = (encN n).length := by rw [← h1, List.length_map, Lib.size_eq]
  rw [h2]
  have := (valid_iff _).1 h
  unfold encN
  rw [if_neg (by omega)]
  repeat' split
  all_goals simp

set_option maxHeartbeats 1000000 in
set_option maxRecDepth 100000 in
theorem sign_any (r : Int) (hv : Lib.validRune r = true) (esc : ByteArray) (hesc : esc.size ≤ 1000) (W : World) (T : GT W) :
    Calls Tryd.prog 48 #[.int .i32 r, .string esc] W fun e w' => e = .returned (.string (signB r esc)) ∧ Below W.heap.size W w' := by
  obtain ⟨X, hX⟩ : ∃ X, signB r esc = X := ⟨_, rfl⟩
  rw [hX]
  unfold signB at hX
  have hvi := (valid_iff r).1 hv
  have hes := encB_size r hv
  by_cases k1 : r = 10
  · subst k1
    rw [if_pos rfl] at hX
    have HX := Lib.hid hX
    clear hX hv hvi hes T
    go_enter Tryd.func48, Tryd.ntmps48
    go_wp2
    go_ret
    exact ⟨by rw [← HX.out]; rfl, Below.refl _ _⟩
  have d1 : (r == 10) = false := by simpa using k1
  rw [if_neg k1] at hX
  by_cases k2 : r = 9
  · subst k2
    rw [if_pos rfl] at hX
    have HX := Lib.hid hX
    clear hX hv hvi hes T
    go_enter Tryd.func48, Tryd.ntmps48
    go_wp2
    go_ret
    exact ⟨by rw [← HX.out]; rfl, Below.refl _ _⟩
  have d2 : (r == 9) = false := by simpa using k2
  rw [if_neg k2] at hX
  by_cases k3 : r = 13
  · subst k3
    rw [if_pos rfl] at hX
    have HX := Lib.hid hX
    clear hX hv hvi hes T
    go_enter Tryd.func48, Tryd.ntmps48
    go_wp2
    go_ret
    exact ⟨by rw [← HX.out]; rfl, Below.refl _ _⟩
  have d3 : (r == 13) = false := by simpa using k3
  rw [if_neg k3] at hX
  have HE := Lib.hid (enc_any r W)
  rw [hv] at HE
  obtain ⟨m, hm⟩ := T.2.2
  have HC := Lib.hid (Tryd.strings_Contains esc (encB r) m W (by omega) hm)
  have HF : ∀ n : Nat, r = n → n < 256 → Hid (Calls Tryd.prog 82 #[.int .i64 (n : Int), .int .i64 16] W fun e w' => e = .returned (.string ⟨(hexL n).toArray⟩) ∧ Below W.heap.size W w') := fun n _ hn => format_any n hn W T.2.1
  have HFF := Lib.hid HF
  obtain ⟨B, hB⟩ : ∃ B, encB r = B := ⟨_, rfl⟩
  rw [hB] at hX HE HC hes
  obtain ⟨c, hc⟩ : ∃ c, Lib.contains esc.data.toList B.data.toList = c := ⟨_, rfl⟩
  rw [hc] at hX HC
  clear k1 k2 k3 hv hm T hB hc HF
  by_cases k4 : r = 92
  · have d4 : (r == 92) = true := by simpa using k4
    rw [if_pos (.inl k4)] at hX
    have HX := Lib.hid hX
    clear hX k4 HFF hvi
    go_enter Tryd.func48, Tryd.ntmps48
    go_wp2_with fail
    refine HE.out.mono ?_
    rintro e w1 ⟨rfl, rfl⟩
    go_wp2
    go_ret
    exact ⟨by rw [← HX.out]; rfl, Below.refl _ _⟩
  have d4 : (r == 92) = false := by simpa using k4
  cases c with
  | true =>
    rw [if_pos (.inr rfl)] at hX
    have HX := Lib.hid hX
    clear hX k4 HFF hvi
    go_enter Tryd.func48, Tryd.ntmps48
    go_wp2_with fail
    refine HE.out.mono ?_
    rintro e w1 ⟨rfl, rfl⟩
    go_wp2_with fail
    refine HC.out.mono ?_
    rintro e w2 ⟨rfl, rfl⟩
    go_wp2
    go_ret
    exact ⟨by rw [← HX.out]; rfl, Below.refl _ _⟩
  | false =>
    rw [if_neg (by rintro (h | h); exact k4 h; cases h)] at hX
    by_cases k5 : 32 ≤ r
    · have d5 : decide (32 ≤ r) = true := decide_eq_true k5
      by_cases k6 : r = 127
      · have d6 : (r != 127) = false := by simpa using k6
        rw [if_neg (by omega)] at hX
        have HX := Lib.hid hX
        have HFM := HFF.out 127 (by omega) (by omega)
        have e127 : r.toNat = 127 := by omega
        have HT := Lib.hid e127
        subst k6
        clear hX k4 HFF hvi e127
        go_enter Tryd.func48, Tryd.ntmps48
        go_wp2_with fail
        refine HE.out.mono ?_
        rintro e w1 ⟨rfl, rfl⟩
        go_wp2_with fail
        refine HC.out.mono ?_
        rintro e w2 ⟨rfl, rfl⟩
        go_wp2_with fail
        refine HFM.out.mono ?_
        rintro e w3 ⟨rfl, hb⟩
        have HB := Lib.hid hb
        clear hb
        go_wp2
        go_ret
        exact ⟨by rw [← HX.out]; rfl, HB.out⟩
      · have d6 : (r != 127) = true := by simpa using k6
        rw [if_pos ⟨k5, k6⟩] at hX
        have HX := Lib.hid hX
        clear hX k4 k6 HFF hvi
        go_enter Tryd.func48, Tryd.ntmps48
        go_wp2_with fail
        refine HE.out.mono ?_
        rintro e w1 ⟨rfl, rfl⟩
        go_wp2_with fail
        refine HC.out.mono ?_
        rintro e w2 ⟨rfl, rfl⟩
        go_wp2
        go_ret
        exact ⟨by rw [← HX.out]; rfl, Below.refl _ _⟩
    · have d5 : decide (32 ≤ r) = false := decide_eq_false k5
      have h0 : 0 ≤ r := by omega
      obtain ⟨n, rfl⟩ := Int.eq_ofNat_of_zero_le h0
      rw [if_neg (by omega)] at hX
      have HX := Lib.hid hX
      have HFM := HFF.out n rfl (by omega)
      have hl := hexL_len n
      have hn32 : (n : Int) < 32 := by omega
      clear hX k4 k5 HFF hvi
      go_enter Tryd.func48, Tryd.ntmps48
      go_wp2_with fail
      refine HE.out.mono ?_
      rintro e w1 ⟨rfl, rfl⟩
      go_wp2_with fail
      refine HC.out.mono ?_
      rintro e w2 ⟨rfl, rfl⟩
      go_wp2_with fail
      refine HFM.out.mono ?_
      rintro e w3 ⟨rfl, hb⟩
      have HB := Lib.hid hb
      clear hb
      go_wp2
      go_ret
      exact ⟨by rw [← HX.out]; rfl, HB.out⟩

end Go.Proofs.YtfjlhfalnciamaaDoor.Chars
