/- Package stack: Cut, walked. -/
import Derived.Test.YtcpmgijakhhlkaaStackJ
import Derived.Deep.RegionHeld3
import Derived.Deep.QuietTactic
import Derived.Deep.CutBlock
import Derived.Lib.Buffer
namespace Go.Proofs.Ytcpmgijakhhlkaa.Stack
open Go Go.RowKit

set_option maxHeartbeats 4000000 in
set_option maxRecDepth 100000 in
theorem cut_any {w : World} {B p : Nat} {N : List Nd} (h : Stk w B p N (keys N)) (hg : Good N) (k : Int) (n : Nat) (hk : (n : Int) = min (max k 1) (N.length : Int)) :
    Calls Try.prog 9 #[ptr p, .int .i64 k] w fun e w' => ∃ c, e = .returned (ptr c) ∧ Stk w' w.heap.size c (cutN N n) (keys (cutN N n)) ∧ Below w.heap.size w w' := by
  have HP := Lib.hid (plain_any h)
  have HS := Lib.hid h
  obtain ⟨vn, mf, mm, hc⟩ := h
  obtain ⟨c0, _, _, _, _⟩ := hc.cells
  obtain ⟨g, cap, rfl, hcap⟩ : ∃ g cap, vn = .slice (some ⟨g, 0, none⟩) N.length cap ∧ N.length ≤ cap := by
    obtain ⟨g, cap, _, e, _⟩ := hc.nodes.get (List.getElem?_eq_getElem hc.pos)
    obtain ⟨_, _, e2, h1, _⟩ := hc.nodes.form
    rw [e] at e2
    cases e2
    exact ⟨g, cap, e, h1⟩
  have HC := Lib.hid hc
  obtain ⟨M, hM⟩ : ∃ M : Int, max k 1 = M := ⟨_, rfl⟩
  have i1 : (if k < 1 then (1 : Int) else k) = M := by rw [← hM]; split <;> omega
  have i2 : (if (N.length : Int) < M then (N.length : Int) else M) = (n : Int) := by rw [hk, hM]; split <;> omega
  have hpos := hc.pos
  have hN := hc.len
  have hn1 : 1 ≤ n := by omega
  have hn2 : n ≤ N.length := by omega
  clear hc hM hk
  go_enter Try.func9, Try.ntmps9
  go_wp2_with fail
  refine HP.out.mono ?_
  rintro e w' ⟨rfl, rfl⟩
  go_wp2_with fail
  refine (new_any w).mono ?_
  rintro e w1 ⟨c, rfl, hS1, hb1⟩
  obtain ⟨vn1, mf1, mm1, hc1⟩ := hS1
  obtain ⟨e0, _, _, _, ef⟩ := hc1.cells
  have ef0 := ef 0
  have hcl := hc1.lt
  have hw1 := hb1.size
  obtain ⟨i0, hi0, hz0, hz1, hz2⟩ := info_parts infoN
  have hpw : p < w.heap.size := by obtain ⟨_, _, _, hc⟩ := HS.out; exact hc.lt
  have p0 := (hb1.cell (p := ⟨p, 0, none⟩) hpw).trans c0
  have HC1 := Lib.hid hc1
  have HB1 := Lib.hid hb1
  clear hc1 hb1 ef i1 i2
  go_upto_region 6 with (first
    | (at_make
       refine wpList_make_full _ (by rfl) _ _ 38 (by rfl) w.heap.size 70 i0 _ 3 Try.underlying38 hi0 hz0 hz1 .i64 .i64 (n : Int) (n : Int) n (by rfl) (by rfl) (by rfl) (by rfl) (by rw [hz2]; omega) (by unfold maxLen; omega) (by omega) ?_
       intro w2 hown2 hgrow2
       have u0 := (hgrow2.cell_far ⟨c, 0, none⟩ hcl (by simp)).trans e0
       have v0 := (hgrow2.frozen_far ⟨c, 0, none⟩ hcl (by simp)).trans ef0
       have HW2 := Lib.hid hown2
       have HG2 := Lib.hid hgrow2
       clear hown2 hgrow2))
  have hc3 : Core (w2.setCell ⟨c, 0, none⟩ (.slice (some ⟨w1.heap.size, 0, none⟩) n n)) w.heap.size c (.slice (some ⟨w1.heap.size, 0, none⟩) n n) mf1 mm1 (List.replicate n Z) (keys (N.take 1)) 0 0 := by
    have h1 := HC1.out
    have hk : ∀ q, q < w1.heap.size → q ≠ c → (w2.setCell ⟨c, 0, none⟩ (.slice (some ⟨w1.heap.size, 0, none⟩) n n)).heap[q]? = w1.heap[q]? := fun q hq hqc => by
      rw [Below.heap_setCell _ _ _ _ hqc]
      exact HG2.out.block q hq (by simp)
    have hrow := HW2.out
    simp only [Value.cells] at hrow
    rw [made_nodes] at hrow
    have hh := (HG2.out.block c hcl (by simp)).trans h1.head
    refine ⟨?_, h1.pB, h1.fB, h1.mB, h1.ne, ⟨List.replicate n ⟨Z, .slice none 0 0⟩, by simp, ?_, ?_, ?_⟩, ?_, ?_, by simp; omega, by simp; omega, by rw [lk_rep]; omega, ?_⟩
    · simp [World.setCell, Array.getElem?_modify, hh]
      rfl
    · rw [List.length_replicate]
      exact ownsRow_agree hrow fun q hq => Below.heap_setCell _ _ _ _ (by cases hq; show w1.heap.size ≠ c; omega)
    · intro x hx
      obtain ⟨_, rfl⟩ := List.mem_replicate.1 hx
      exact ⟨rfl, .inl ⟨rfl, rfl⟩⟩
    · rw [List.pairwise_replicate]
      exact .inr fun q hq => by cases hq
    · have hf := h1.found.same (hk mf1 h1.found.lt (fun e => h1.pf e.symm))
      obtain ⟨D, m, hm, h2, h3⟩ := hf
      refine ⟨D, m, ?_, h2, fun r a z hr ha => ?_⟩
      · rw [keys_len, List.length_take]
        simp [keys] at hm
        omega
      · rw [h3 r a z hr ha]
        have : (N.take 1).tail = [] := by
          rw [← List.length_eq_zero_iff]
          simp
          omega
        unfold idx
        rw [keys_tail, keys_tail, this]
        rfl
    · exact (h1.many.mono (by simp [lk])).same (hk mm1 h1.many.lt (fun e => h1.pm e.symm))
    · intro x hx u hu
      obtain ⟨_, rfl⟩ := List.mem_replicate.1 hx
      cases hu
  have hb3 : Below w.heap.size w (w2.setCell ⟨c, 0, none⟩ (.slice (some ⟨w1.heap.size, 0, none⟩) n n)) := (Below.grown HB1.out HG2.out hw1 (by simp)).setCell (p := ⟨c, 0, none⟩) HC1.out.pB _
  generalize w2.setCell ⟨c, 0, none⟩ (.slice (some ⟨w1.heap.size, 0, none⟩) n n) = w3 at *
  have HC3 := Lib.hid hc3
  have HB3 := Lib.hid hb3
  have s0 := (hb3.cell (p := ⟨p, 0, none⟩) hpw).trans c0
  clear hc3 hb3 HC1 HB1 HW2 HG2 e0 ef0 u0 v0 p0 hi0 hz0 hz1 hz2
  go_wp2_with fail
  go_loopw [33] (fun x33 wr => ∃ i : Nat, i ≤ n ∧ x33 = .int .i64 (i : Int) ∧ Stk wr w.heap.size c (part N n i) (keys (N.take (max i 1))) ∧ Below w.heap.size w wr) (fun x33 _ => n - (intOf x33).toNat)
  case atStart =>
    refine ⟨0, by omega, rfl, ⟨.slice (some ⟨w1.heap.size, 0, none⟩) n n, mf1, mm1, ?_⟩, HB3.out⟩
    rw [part0, lk_rep]
    exact HC3.out
  case round =>
    obtain ⟨i, hi, rfl, hSr, hBr⟩ := hrel
    by_cases hlt : i < n
    · obtain ⟨x, hx⟩ : ∃ x, N[i]? = some x := ⟨N[i]'(by omega), List.getElem?_eq_getElem (by omega)⟩
      obtain ⟨_, _, u, e9, _, gl, _, _, d0, d1, d2, hrow, _⟩ := HC.out.nodes.get hx
      cases e9
      have d0 := (hBr.cell (p := ⟨g, i * 3, none⟩) gl).trans d0
      have d1 := (hBr.cell (p := ⟨g, i * 3 + 1, none⟩) gl).trans d1
      have d2 := (hBr.cell (p := ⟨g, i * 3 + 2, none⟩) gl).trans d2
      obtain ⟨A, uc, rfl, _, _⟩ := ownsRow_form hrow
      have hul : (upI x).length = x.u.length := by simp [upI]
      rw [hul] at d2 hrow
      have hxl : x.u.length ≤ 99 := Nat.le_trans (lk_mem (List.mem_of_getElem? hx)) HC.out.lks
      have p1 : decide ((i : Int) < (n : Int)) = true := decide_eq_true (by omega)
      have p2 : (0 : Int) ≤ (i : Int) := by omega
      have p3 : (i : Int) < (n : Int) := by omega
      have p4 : (i : Int) < (N.length : Int) := by omega
      have HR := Lib.hid hrow
      have HSR := Lib.hid hSr
      have HBR := Lib.hid hBr
      have HX := Lib.hid hx
      clear hrow hSr hBr hx
      go_upto_region 9 with fail
      have hb4 : Below wr.heap.size wr (wr.alloc (Obj.cells #[.int .i64 x.r, .int .i64 x.a, .slice A x.u.length uc] 70)) := (Below.refl _ _).alloc (Nat.le_refl _) _
      have hh4 := heap_alloc_new wr (Obj.cells #[.int .i64 x.r, .int .i64 x.a, .slice A x.u.length uc] 70)
      obtain ⟨X, hX⟩ : ∃ X, wr.heap.size = X := ⟨_, rfl⟩
      rw [hX] at hh4
      have hXs : X < (wr.alloc (Obj.cells #[.int .i64 x.r, .int .i64 x.a, .slice A x.u.length uc] 70)).heap.size := by rw [← hX]; simp
      simp only [hX]
      generalize wr.alloc (Obj.cells #[.int .i64 x.r, .int .i64 x.a, .slice A x.u.length uc] 70) = w4 at *
      obtain ⟨vc, mf4, mm4, hCr⟩ := HSR.out
      obtain ⟨gc, capc, vu, rfl, _, gcl, _, _⟩ := hCr.nodes.get (part_get hlt hn2)
      have hC4 := hCr.stay hb4
      obtain ⟨gc', _, _, e9, _, _, _, gcf, m0, m1, _, _, _⟩ := hC4.nodes.get (part_get hlt hn2)
      cases e9
      rw [part_len (by omega) hn2] at *
      obtain ⟨l0, l1, _, _, _⟩ := hC4.cells
      have q0 : w4.cell? ⟨X, 0, none⟩ = some (.int .i64 x.r) := by rw [Lib.cell_of_heap hh4]; rfl
      have q1 : w4.cell? ⟨X, 1, none⟩ = some (.int .i64 x.a) := by rw [Lib.cell_of_heap hh4]; rfl
      have f0 := gcf (i * 3)
      have f1 := gcf (i * 3 + 1)
      have HC4 := Lib.hid hC4
      have HB4 := Lib.hid hb4
      have HH4 := Lib.hid hh4
      have HXX := Lib.hid hX
      clear hC4 hCr hb4 gcf hh4
      go_region
      go_upto_if 48 with fail
      obtain ⟨hC5, hB5⟩ := HC4.out.setPlace (part_get hlt hn2) x.r x.a
      rw [part_set hlt hn2] at hC5
      have hh5 : ((w4.setCell ⟨gc, i * 3, none⟩ (.int .i64 x.r)).setCell ⟨gc, i * 3 + 1, none⟩ (.int .i64 x.a)).drew.heap[X]? = w4.heap[X]? := by
        have hne : X ≠ gc := by omega
        show ((w4.setCell ⟨gc, i * 3, none⟩ (.int .i64 x.r)).setCell ⟨gc, i * 3 + 1, none⟩ (.int .i64 x.a)).heap[X]? = w4.heap[X]?
        rw [Below.heap_setCell _ _ _ _ hne, Below.heap_setCell _ _ _ _ hne]
      have hC5 := hC5.stay (w' := ((w4.setCell ⟨gc, i * 3, none⟩ (.int .i64 x.r)).setCell ⟨gc, i * 3 + 1, none⟩ (.int .i64 x.a)).drew) ((Below.refl _ _).drew)
      have hB5 := hB5.drew
      have hq5 : ((w4.setCell ⟨gc, i * 3, none⟩ (.int .i64 x.r)).setCell ⟨gc, i * 3 + 1, none⟩ (.int .i64 x.a)).drew.heap[X]? = _ := hh5.trans HH4.out
      have hB5w : Below w.heap.size w ((w4.setCell ⟨gc, i * 3, none⟩ (.int .i64 x.r)).setCell ⟨gc, i * 3 + 1, none⟩ (.int .i64 x.a)).drew := (HBR.out.trans (HB4.out.mono HBR.out.size)).trans hB5
      generalize ((w4.setCell ⟨gc, i * 3, none⟩ (.int .i64 x.r)).setCell ⟨gc, i * 3 + 1, none⟩ (.int .i64 x.a)).drew = w5 at *
      have HC5 := Lib.hid hC5
      have HB5 := Lib.hid hB5w
      have HQ5 := Lib.hid hq5
      clear hC5 hB5 hh5 hq5 hB5w HC4 HB4 HH4 l0 l1 m0 m1 q0 q1 f0 f1 d0 d1 d2
      generalize hb : decide (0 < i) = b
      have HBI := Lib.hid hb
      clear hb
      go_cut [] (fun wx => RowP w w.heap.size c N n i x [] wx ∧ wx.cell? ⟨X, 2, none⟩ = some (.slice A x.u.length uc))
      case first =>
        have hfin : ∀ wx, Core wx w.heap.size c (.slice (some ⟨gc, 0, none⟩) n capc) mf4 mm4 (part2 N n i x.r x.a []) (keys (N.take (i + 1))) (lk (part N n i)) (100 * lk (part N n i)) → Below w.heap.size w wx → wx.heap[X]? = w5.heap[X]? → RowP w w.heap.size c N n i x [] wx ∧ wx.cell? ⟨X, 2, none⟩ = some (.slice A x.u.length uc) := fun wx h1 h2 h3 => by
          refine ⟨⟨⟨.slice (some ⟨gc, 0, none⟩) n capc, mf4, mm4, ?_⟩, h2⟩, ?_⟩
          · rw [part2_lk0]
            exact h1
          · rw [Lib.cell_of_heap (h3.trans HQ5.out)]
            rfl
        have HF := Lib.hid hfin
        clear hfin
        cases b with
        | false =>
          have HI0 := Lib.hid (by have := HBI.out; simpa using this : i = 0)
          go_wp2_with fail
          go_meet
          have hc := HC5.out
          rw [show max i 1 = i + 1 by have := HI0.out; omega] at hc
          exact HF.out _ hc HB5.out rfl
        | true =>
          have hi0 : 0 < i := of_decide_eq_true HBI.out
          have hc := HC5.out
          rw [show max i 1 = i by omega] at hc
          obtain ⟨_, t1, _, _, _⟩ := hc.cells
          have t2 : w5.cell? ⟨X, 0, none⟩ = some (.int .i64 x.r) := by rw [Lib.cell_of_heap HQ5.out]; rfl
          have t3 : w5.cell? ⟨X, 1, none⟩ = some (.int .i64 x.a) := by rw [Lib.cell_of_heap HQ5.out]; rfl
          have hpos := hg.pos x (List.mem_iff_getElem?.2 ⟨i - 1, by rw [List.getElem?_tail, show i - 1 + 1 = i by omega]; exact HX.out⟩)
          have hr6 : in64 x.r := by constructor <;> omega
          have ha6 : in64 x.a := by constructor <;> omega
          have hkl : (keys (N.take i)).length = i := by rw [keys_len, List.length_take]; omega
          obtain ⟨w6, hrun, hf6, ht6⟩ := FoundAt.put (w := w5.drew) (hc.found.same rfl) hr6 ha6 (by omega) (by omega) (idx_take hg.nd (by omega) HX.out)
          rw [hkl] at hrun
          rw [keys_take HX.out] at hf6
          have hc6 := Core.turnF (w := w5.drew) (hc.stay ((Below.refl _ _).drew)) (fun k hk => mapTurned_block ht6 k hk) hf6
          have hX6 : w6.heap[X]? = w5.heap[X]? := mapTurned_block ht6 X (by
            rintro rfl
            obtain ⟨D, n', _, ⟨es, cl, e1, _⟩, _⟩ := hc.found
            rw [HQ5.out] at e1
            cases e1)
          have hB6 : Below w.heap.size w w6 := HB5.out.trans ((Below.refl _ _).drew.trans (mapTurned_below ht6 hc.fB))
          have HC6 := Lib.hid hc6
          have HX6 := Lib.hid hX6
          have HB6 := Lib.hid hB6
          clear hc hc6 hX6 hB6 hf6 ht6 hpos hr6 ha6 hkl
          go_wp2_with fail
          go_region
          go_wp2_with fail
          go_meet
          exact HF.out _ HC6.out HB6.out HX6.out
      case rest =>
        obtain ⟨hP, hq2⟩ := hcut
        have HP5 := Lib.hid hP
        clear hP HC5 HB5 HQ5 HBI
        go_wp2_with fail
        go_loopw [59] (fun x59 wy => ∃ j : Nat, j ≤ x.u.length ∧ x59 = .int .i64 (j : Int) ∧ RowP w w.heap.size c N n i x ((x.u.take j).filter (· < n)) wy) (fun x59 _ => x.u.length - (intOf x59).toNat)
        case atStart => exact ⟨0, by omega, rfl, HP5.out⟩
        case round =>
          obtain ⟨j, hj, rfl, hRr⟩ := hrel
          by_cases hjl : j < x.u.length
          · obtain ⟨y, hy⟩ : ∃ y, x.u[j]? = some y := ⟨x.u[j], List.getElem?_eq_getElem hjl⟩
            have hyi : (upI x)[j]? = some (y : Int) := by unfold upI; rw [List.getElem?_map, hy]; rfl
            have hy3 : y ≤ 1000 := HC.out.ups x (List.mem_of_getElem? HX.out) y (List.mem_of_getElem? hy)
            have hro := HR.out
            rw [← hul] at hro
            obtain ⟨gu, cu, eu, _, gul, guc⟩ := hro.at (by omega)
            cases eu
            have s1 := (hRr.2.cell (p := ⟨gu, j, none⟩) gul).trans (guc j _ hyi)
            have s2 : (0 : Int) ≤ (j : Int) := by omega
            have s3 : (j : Int) < (x.u.length : Int) := by omega
            have s4 : decide ((j : Int) < (x.u.length : Int)) = true := decide_eq_true s3
            have hfl : ((x.u.take j).filter (· < n)).length ≤ j := Nat.le_trans (List.length_filter_le _ _) (by simp; omega)
            have htf := take_filter (n := n) hy
            have HRr := Lib.hid hRr
            have HTF := Lib.hid htf
            clear hRr htf hro guc
            by_cases hyn : y < n
            · have s5 : decide ((y : Int) < (n : Int)) = true := decide_eq_true (by omega)
              have hlk := part2_lk (n := n) HX.out ((x.u.take j).filter (· < n))
              have hlks := HC.out.lks
              have HK := Lib.hid (link_any HRr.out.1 (n := i) (up := y) (by rw [part2_len hlt hn2]; exact hlt) hy3 (by omega))
              clear hlk hlks
              go_wp2_with fail
              refine HK.out.mono ?_
              rintro e w6 ⟨rfl, hS6, hb6⟩
              rw [part2_add hlt hn2] at hS6
              have HS6 := Lib.hid hS6
              have HB6 := Lib.hid hb6
              clear hS6 hb6
              go_wp2_with fail
              go_roundw
              case rel =>
                refine ⟨j + 1, by omega, by go_num, ?_⟩
                rw [HTF.out, if_pos hyn]
                exact ⟨HS6.out, HRr.out.2.trans HB6.out⟩
              case measure => simp [intOf]; omega
            · have s5 : decide ((y : Int) < (n : Int)) = false := decide_eq_false (by omega)
              go_wp2_with fail
              go_roundw
              case rel =>
                refine ⟨j + 1, by omega, by go_num, ?_⟩
                rw [HTF.out, if_neg hyn, List.append_nil]
                exact HRr.out
              case measure => simp [intOf]; omega
          · have s4 : decide ((j : Int) < (x.u.length : Int)) = false := decide_eq_false (by omega)
            rw [List.take_of_length_le (by omega)] at hRr
            have HP6 := Lib.hid hRr
            clear hRr
            go_wp2_with fail
            go_roundw
            case rel =>
              obtain ⟨h1, h2⟩ := HP6.out
              rw [part2_done HX.out] at h1
              refine ⟨i + 1, by omega, by go_num, ?_, h2⟩
              rw [show max (i + 1) 1 = i + 1 by omega]
              exact h1
            case measure => simp [intOf]; omega
    · have p1 : decide ((i : Int) < (n : Int)) = false := decide_eq_false (by omega)
      obtain rfl : i = n := by omega
      have HSR := Lib.hid hSr
      have HBR := Lib.hid hBr
      clear hSr hBr
      go_wp2
      go_ret
      have hs := HSR.out
      rw [part_all, show max i 1 = i by omega] at hs
      refine ⟨c, rfl, ?_, HBR.out⟩
      have : keys (cutN N i) = keys (N.take i) := by
        unfold cutN keys
        rw [List.map_map]
        rfl
      rw [this]
      exact hs

end Go.Proofs.Ytcpmgijakhhlkaa.Stack
