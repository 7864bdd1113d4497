/- Package stack: a node goes on to one more, walked. -/
import Derived.Test.YtcpmgijakhhlkaaStackE
import Derived.Deep.RegionLaw
import Derived.Deep.DeepCutAuto
namespace Go.Proofs.Ytcpmgijakhhlkaa.Stack
open Go Go.RowKit

theorem infoI : (Try.prog.info? 3).map (fun i => (i.zero, i.size, i.bytes)) = some (some (.int .i64 0), 1, 8) := by kernel_rfl
set_option maxHeartbeats 4000000 in
set_option maxRecDepth 100000 in
theorem link_any {w : World} {B p : Nat} {N : List Nd} {K : List Ky} (h : Stk w B p N K) {n up : Nat} (hn : n < N.length) (hup : up ≤ 1000) (hl : lk N ≤ 98) :
    Calls Try.prog 32 #[ptr p, .int .i64 (n : Int), .int .i64 (up : Int)] w fun e w' => e = .returned (.tuple #[]) ∧ Stk w' B p (addUp N n up) K ∧ Below B w w' := by
  obtain ⟨vn, mf, mm, hc⟩ := h
  obtain ⟨x, hx⟩ : ∃ x, N[n]? = some x := ⟨N[n], List.getElem?_eq_getElem hn⟩
  obtain ⟨g, cap, u, rfl, gB, gl, _, gf, _, _, d2, hrow, hug⟩ := hc.nodes.get hx
  obtain ⟨A, uc, rfl, _, _⟩ := ownsRow_form hrow
  obtain ⟨c0, _, c2, c3, cf⟩ := hc.cells
  have hul : (upI x).length = x.u.length := by simp [upI]
  have hxu : x.u.length ≤ lk N := lk_mem (List.mem_of_getElem? hx)
  rw [hul] at d2 hug
  obtain ⟨i0, hi, hz0, hz1, hz2⟩ := info_parts infoI
  have hpl := hc.lt
  have hN := hc.len
  have hpg : p ≠ g := by
    rintro rfl
    obtain ⟨L, _, ho, _, _⟩ := hc.nodes
    obtain ⟨_, _, cur, h3⟩ := ownsRow_block ho (k := p) rfl
    rw [hc.head] at h3
    cases h3
  have hBs : B ≤ w.heap.size := by have := hc.pB; omega
  have hua : ∀ q, (Value.slice A x.u.length uc).ownBlock = some q → B ≤ q ∧ q < w.heap.size ∧ q ≠ p := fun q hq => by
    rw [← hul] at hq
    obtain ⟨h1, h2, cur, h3⟩ := ownsRow_block hrow hq
    refine ⟨h1, h2, ?_⟩
    rintro rfl
    rw [hc.head] at h3
    cases h3
  have hpu : some p ≠ (Value.slice A x.u.length uc).ownBlock := fun e => (hua p e.symm).2.2 rfl
  have hgu : some g ≠ (Value.slice A x.u.length uc).ownBlock := fun e => hug e.symm
  have f2 := gf (n * 3 + 2)
  have fp := cf 3
  have g0 : (0 : Int) ≤ (n : Int) := by omega
  have g1 : (n : Int) < (N.length : Int) := by omega
  have hown : w.ownsRow B 3 1 (.slice A x.u.length uc) x.u.length (intC (upI x)) := by have := hrow; unfold IntRow at this; rw [hul] at this; exact this
  have HC := Lib.hid hc
  have HX := Lib.hid hx
  have HO := Lib.hid hown
  have HL := Lib.hid hl
  have HUA := Lib.hid hua
  have hlen : x.u.length ≤ 98 := by omega
  clear hc hx hrow hown cf gf hl hxu hua
  go_enter Try.func32, Try.ntmps32
  go_upto_region 2 with (first
    | (at_builtin
       refine wpList_append_lies _ (by rfl) _ _ _ (by rfl) B 3 i0 _ 1 8 Try.underlying32 hi hz0 hz1 hz2 rfl (by omega) (.slice A x.u.length uc) x.u.length (intC (upI x)) (by rfl) (HO.out.alloc _) ⟨w.heap.size, 0, none⟩ 1 1 [.int .i64 (up : Int)] (by rfl) (by rfl) (World.news_of_block (heap_alloc_new _ _)) (by simp [Value.oneCell']) (by omega) (by unfold maxLen; omega) (by omega) (by simp; omega) (w.heap.size + 1) (by simp) ?_
       intro gg c5 w5 hown5 hgrow hat hlt5
       have u2 := (hgrow.cell_far ⟨g, n * 3 + 2, none⟩ (by simp; omega) hgu).trans ((World.cell?_alloc_lt w _ ⟨g, n * 3 + 2, none⟩ gl).trans d2)
       have v2 := (hgrow.frozen_far ⟨g, n * 3 + 2, none⟩ (by simp; omega) hgu).trans ((Below.frozen (p := ⟨g, n * 3 + 2, none⟩) ((Below.refl w.heap.size w).alloc (Nat.le_refl _) _) gl).trans f2)
       have HW := Lib.hid hown5
       have HG := Lib.hid hgrow
       have HA := Lib.hid hat
       clear hown5 hgrow hat hlt5))
  have hub : ∀ q, (Value.slice A x.u.length uc).ownBlock = some q → B ≤ q ∧ ∃ cur, w.heap[q]? = some (Obj.cells cur 3 (0, 0)) := fun q hq => by
    obtain ⟨h1, _, h3⟩ := ownsRow_block HO.out hq
    exact ⟨h1, h3⟩
  obtain ⟨hc6, hb6⟩ := HC.out.grow HX.out d2 hub _ HG.out HW.out HA.out hup HL.out
  generalize w5.setCell ⟨g, n * 3 + 2, none⟩ (.slice (some ⟨gg, 0, none⟩) (x.u.length + 1) c5) = w6 at *
  obtain ⟨_, _, _, d3, fd⟩ := hc6.cells
  have fd3 := fd 3
  have HC6 := Lib.hid hc6
  have HB6 := Lib.hid hb6
  clear hc6 hb6 fd u2 v2 c0 c2 c3 d2 f2 fp hpu hgu hub HG HW HA HO hug
  have hlk := HL.out
  go_upto_region 3 with fail
  have hc7 := HC6.out.setLinks (lk N + 1)
  rw [show ((lk N + 1 : Nat) : Int) = (lk N : Int) + 1 from by omega] at hc7
  have hb7 : Below B w (w6.setCell ⟨p, 3, none⟩ (.int .i64 ((lk N : Int) + 1))) := HB6.out.setCell (p := ⟨p, 3, none⟩) HC6.out.pB _
  generalize w6.setCell ⟨p, 3, none⟩ (.int .i64 ((lk N : Int) + 1)) = w7 at *
  have hx7 : (addUp N n up)[n]? = some { x with u := x.u ++ [up] } := by rw [addUp_get, if_pos rfl, HX.out]; rfl
  obtain ⟨g', cap', u7, e7, _, gl7, _, _, _, _, d7, hrow7, _⟩ := hc7.nodes.get hx7
  rw [addUp_len] at e7
  cases e7
  have hul7 : (upI { x with u := x.u ++ [up] }).length = x.u.length + 1 := by simp [upI]
  obtain ⟨g7, uc7, rfl, _, g7l, gc7⟩ := hrow7.at (by omega)
  rw [hul7] at d7
  obtain ⟨_, _, e2, _, _⟩ := hc7.cells
  have hfin : ∀ (w' : World) (M' : Nat), Core w' B p (.slice (some ⟨g, 0, none⟩) N.length cap) mf mm (addUp N n up) K (lk N + 1) M' → M' ≤ 100 * (lk N + 1) → Below B w w' → Stk w' B p (addUp N n up) K ∧ Below B w w' := fun w' M' h1 h2 h3 => by
    refine ⟨⟨.slice (some ⟨g, 0, none⟩) N.length cap, mf, mm, ?_⟩, h3⟩
    rw [addUp_lk up hn]
    exact ⟨h1.head, h1.pB, h1.fB, h1.mB, h1.ne, h1.nodes, h1.found, h1.many.mono h2, h1.pos, h1.len, h1.lks, h1.ups⟩
  have HF := Lib.hid hfin
  have HC7 := Lib.hid hc7
  have HB7 := Lib.hid hb7
  have hb0 : ∀ i y, (upI { x with u := x.u ++ [up] })[i]? = some y → in64 y := fun i y hy => by
    unfold upI at hy
    rw [List.getElem?_map] at hy
    cases hz : (x.u ++ [up])[i]? with
    | none => rw [hz] at hy; cases hy
    | some z =>
      rw [hz] at hy
      simp only [Option.map_some, Option.some.injEq] at hy
      have := hc7.ups _ (List.mem_of_getElem? hx7) z (List.mem_of_getElem? hz)
      subst hy
      constructor <;> omega
  have HBI := Lib.hid hb0
  have HGC := Lib.hid gc7
  clear hfin hc7 hb7 HC6 HB6 d3 fd3 hrow7 HX hb0 gc7
  by_cases h9 : x.u.length + 1 = 9
  · have q1 : (((x.u.length + 1 : Nat) : Int) == 9) = true := by rw [h9]; rfl
    have hpm := HC7.out.pm
    have hg7m : g7 ≠ mm := by
      rintro rfl
      obtain ⟨D, n', _, ⟨es, cl, e1, _⟩⟩ := HC7.out.many
      have := HGC.out 0 _ (List.getElem?_eq_getElem (by rw [hul7]; omega))
      simp [World.cell?, e1] at this
    have hnn : (in64 (n : Int)) := by constructor <;> omega
    go_wp2_with fail
    go_loopw [43] (fun x43 wr => ∃ i : Nat, i ≤ 9 ∧ x43 = .int .i64 (i : Int) ∧ (∀ k, k ≠ mm → wr.heap[k]? = w7.heap[k]?) ∧ ManyAt wr mm (100 * lk N + i) ∧ Below B w7 wr) (fun x43 _ => 9 - (intOf x43).toNat)
    case atStart => exact ⟨0, by omega, rfl, fun _ _ => rfl, HC7.out.many, Below.refl _ _⟩
    case round =>
      obtain ⟨i, hi, rfl, hk, hm, hb⟩ := hrel
      by_cases hlt : i < 9
      · have p1 : decide ((i : Int) < ((x.u.length + 1 : Nat) : Int)) = true := decide_eq_true (by omega)
        have p2 : (0 : Int) ≤ (i : Int) := by omega
        have p3 : (i : Int) < ((x.u.length + 1 : Nat) : Int) := by omega
        obtain ⟨y, hy⟩ : ∃ y, (upI { x with u := x.u ++ [up] })[i]? = some y := ⟨_, List.getElem?_eq_getElem (by rw [hul7]; omega)⟩
        have r1 := (World.cell?_of_block (a := ⟨g7, i, none⟩) (hk g7 hg7m)).trans (HGC.out i y hy)
        have r2 := (World.cell?_of_block (a := ⟨p, 2, none⟩) (hk p hpm)).trans e2
        obtain ⟨w8, hrun, hm8, ht⟩ := hm.put (by omega) hnn (HBI.out i y hy)
        have HK := Lib.hid hk
        have HM := Lib.hid hm8
        have HT := Lib.hid ht
        have HB := Lib.hid hb
        clear hy hk hm hm8 ht hb
        go_wp2
        go_roundw
        case rel => exact ⟨i + 1, by omega, by go_num, fun k hk => (mapTurned_block HT.out k hk).trans (HK.out k hk), HM.out, HB.out.trans (mapTurned_below HT.out HC7.out.mB)⟩
        case measure => simp [intOf]; omega
      · have p1 : decide ((i : Int) < ((x.u.length + 1 : Nat) : Int)) = false := decide_eq_false (by omega)
        have HK := Lib.hid hk
        have HM := Lib.hid hm
        have HB := Lib.hid hb
        clear hk hm hb
        go_wp2
        go_end0
        exact ⟨rfl, HF.out _ _ (HC7.out.turnM HK.out HM.out) (by omega) (HB7.out.trans HB.out)⟩
  · have q1 : (((x.u.length + 1 : Nat) : Int) == 9) = false := beq_eq_false_iff_ne.2 (by omega)
    by_cases h8 : 8 < x.u.length + 1
    · have q2 : decide ((8 : Int) < ((x.u.length + 1 : Nat) : Int)) = true := decide_eq_true (by omega)
      have hmm := HC7.out.many
      obtain ⟨w8, hrun, hm8, ht⟩ := hmm.put (by omega) (r := (n : Int)) (a := (up : Int)) (by constructor <;> omega) (by constructor <;> omega)
      have HM := Lib.hid hm8
      have HT := Lib.hid ht
      clear hmm hm8 ht
      go_wp2
      go_end0
      exact ⟨rfl, HF.out _ _ (HC7.out.turnM (fun k hk => mapTurned_block HT.out k hk) HM.out) (by omega) (HB7.out.trans (mapTurned_below HT.out HC7.out.mB))⟩
    · have q2 : decide ((8 : Int) < ((x.u.length + 1 : Nat) : Int)) = false := decide_eq_false (by omega)
      go_wp2
      go_end0
      exact ⟨rfl, HF.out _ _ HC7.out (by omega) HB7.out⟩

end Go.Proofs.Ytcpmgijakhhlkaa.Stack
