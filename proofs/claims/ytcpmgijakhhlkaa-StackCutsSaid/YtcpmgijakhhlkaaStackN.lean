/- The law StackOwn, walked. -/
import Derived.Test.YtcpmgijakhhlkaaStackM
namespace Go.Proofs.Ytcpmgijakhhlkaa.Stack
open Go Go.RowKit

/-- What the first loop leaves. -/
def PutsDone (W : World) (B p : Nat) (w : World) : Prop := ∃ N, Stk w B p N (keys N) ∧ Good N ∧ N.length ≤ 61 ∧ lk N ≤ 60 ∧ Below B W w
set_option maxHeartbeats 4000000 in
set_option maxRecDepth 100000 in
theorem own_walk (ad : Option Addr) (len cap : Nat) (m0 m1 m2 : Int) (hm0 : in64 m0) (hm1 : in64 m1) (W : World) (hp : PutsAt W ad len) :
    Calls Try.prog 4 #[.slice ad len cap, putV m0 m1 m2] W fun e w' => e = .returned (.bool true) ∧ Below W.heap.size W w' := by
  have HPA := Lib.hid hp
  clear hp
  go_enter Try.func4, Try.ntmps4
  go_wp2_with fail
  refine (new_any _).mono ?_
  rintro e w1 ⟨p, rfl, hS1, hB1⟩
  have hA : Below W.heap.size W (W.alloc (Obj.cells #[.int .i64 m0, .int .i64 m1, .int .i64 m2] 29)) := (Below.refl _ _).alloc (Nat.le_refl _) _
  have hX := heap_alloc_new W (Obj.cells #[.int .i64 m0, .int .i64 m1, .int .i64 m2] 29)
  have hs : (W.alloc (Obj.cells #[.int .i64 m0, .int .i64 m1, .int .i64 m2] 29)).heap.size = W.heap.size + 1 := by simp
  generalize W.alloc (Obj.cells #[.int .i64 m0, .int .i64 m1, .int .i64 m2] 29) = W1 at *
  have HA := Lib.hid hA
  have HX := Lib.hid hX
  have HS := Lib.hid hs
  have HS1 := Lib.hid hS1
  have HB1 := Lib.hid hB1
  clear hA hX hs hS1 hB1
  go_upto_block 0 with fail
  go_cut [] (fun wx => PutsDone w1 W1.heap.size p wx)
  case first =>
    go_wp2_with fail
    go_loopw [6] (fun x6 wr => ∃ i : Nat, i ≤ 60 ∧ x6 = .int .i64 (i : Int) ∧ ∃ N, Stk wr W1.heap.size p N (keys N) ∧ Good N ∧ N.length ≤ i + 1 ∧ lk N ≤ i ∧ Below W1.heap.size w1 wr) (fun x6 _ => 60 - (intOf x6).toNat)
    case atStart => exact ⟨0, by omega, rfl, N0, HS1.out, good0, by decide, by decide, Below.refl _ _⟩
    case round =>
      obtain ⟨i, hi, rfl, N, hSr, hGr, hNl, hNk, hBr⟩ := hrel
      have HF : Hid (PutsDone w1 W1.heap.size p wr) := Lib.hid ⟨N, hSr, hGr, by omega, by omega, hBr⟩
      by_cases h60 : i < 60
      · have q1 : decide ((i : Int) < 60) = true := decide_eq_true (by omega)
        by_cases hil : i < len
        · have q2 : decide ((i : Int) < (len : Int)) = true := decide_eq_true (by omega)
          have q3 : (0 : Int) ≤ (i : Int) := by omega
          have q4 : (i : Int) < (len : Int) := by omega
          obtain ⟨b, off, rfl, bl, hc⟩ := HPA.out (by omega)
          obtain ⟨r, a, u, hr, ha, hu, c0, c1, c2⟩ := hc i hil
          have hWw : Below W.heap.size W wr := HA.out.trans ((HB1.out.trans hBr).mono (by have := HS.out; omega))
          have c0 := (hWw.cell (p := ⟨b, _, none⟩) bl).trans c0
          have c1 := (hWw.cell (p := ⟨b, _, none⟩) bl).trans c1
          have c2 := (hWw.cell (p := ⟨b, _, none⟩) bl).trans c2
          have HK := Lib.hid (put_all (w := wr.drew) (up := u) (hSr.stay (Below.refl _ _).drew) hGr (by omega) (by omega) hr ha)
          have HBR := Lib.hid hBr
          have hbl : b < W1.heap.size := by have := HS.out; omega
          clear hc hWw hSr hGr hBr hr ha hu HF
          go_wp2_with fail
          go_region_held3 (fun w' => w'.cell? ⟨b, off + i * 3, none⟩ = some (.int .i64 r) ∧ w'.cell? ⟨b, off + i * 3 + 1, none⟩ = some (.int .i64 a) ∧ w'.cell? ⟨b, off + i * 3 + 2, none⟩ = some (.int .i64 u)) (first | go_keep | exact ⟨(hB2.cell (p := ⟨b, _, none⟩) hbl).trans c0, (hB2.cell (p := ⟨b, _, none⟩) hbl).trans c1, (hB2.cell (p := ⟨b, _, none⟩) hbl).trans c2⟩)
            (first | (go_at_call 8; refine HK.out.mono ?_; rintro e w2 ⟨n, fr, lb, er, N', rfl, hS2, hG2, hB2, hl2, hk2, -⟩))
          have HS2 := Lib.hid hS2
          have HG2 := Lib.hid hG2
          have HB2 := Lib.hid hB2
          have HL2 := Lib.hid hl2
          have HK2 := Lib.hid hk2
          clear hS2 hG2 hB2 hl2 hk2
          go_wp2_with fail
          go_roundw
          case rel =>
            refine ⟨i + 1, by omega, by go_num, N', HS2.out, HG2.out, ?_, ?_, HBR.out.trans (Below.trans (Below.refl _ _).drew HB2.out)⟩
            · have := HL2.out
              split at this <;> omega
            · have := HK2.out
              split at this <;> omega
          case measure => simp [intOf]; omega
        · have q2 : decide ((i : Int) < (len : Int)) = false := decide_eq_false (by omega)
          clear hSr hGr hBr
          go_wp2_with fail
          go_meet
          exact HF.out
      · have q1 : decide ((i : Int) < 60) = false := decide_eq_false (by omega)
        clear hSr hGr hBr
        by_cases hil : i < len
        · have q2 : decide ((i : Int) < (len : Int)) = true := decide_eq_true (by omega)
          go_wp2_with fail
          go_meet
          exact HF.out
        · have q2 : decide ((i : Int) < (len : Int)) = false := decide_eq_false (by omega)
          go_wp2_with fail
          go_meet
          exact HF.out
  case rest =>
    obtain ⟨N, hS, hG, hN, hK, hB⟩ := hcut
    have HS0 := Lib.hid hS
    have HW0 : Hid (Below W.heap.size W wc) := Lib.hid (HA.out.trans ((HB1.out.trans hB).mono (by have := HS.out; omega)))
    have hXc : wc.heap[W.heap.size]? = some (Obj.cells #[.int .i64 m0, .int .i64 m1, .int .i64 m2] 29 (0, 0)) := ((HB1.out.trans hB).block _ (by have := HS.out; omega)).trans HX.out
    have HXC := Lib.hid hXc
    have HK := Lib.hid (clone_all hS hG)
    have HGD := Lib.hid hG
    have HN := Lib.hid hN
    have HLK := Lib.hid hK
    clear hS hG hN hK hB hXc HS1 HB1 HA HPA
    go_wp2_with fail
    refine HK.out.mono ?_
    rintro e w2 ⟨c, rfl, hC, hB2⟩
    have HC := Lib.hid hC
    have HB2 := Lib.hid hB2
    have HS2 := Lib.hid (HS0.out.stay hB2)
    have HL2 := Lib.hid (long_any HS2.out)
    have HI2 := Lib.hid (links_any HS2.out)
    clear hC hB2
    go_wp2_with fail
    refine HL2.out.mono ?_
    rintro e w' ⟨rfl, rfl⟩
    go_wp2_with fail
    refine HI2.out.mono ?_
    rintro e w' ⟨rfl, rfl⟩
    have hx2 := (HB2.out.block _ (Array.getElem?_eq_some_iff.1 HXC.out).1).trans HXC.out
    have x0 : w2.cell? ⟨W.heap.size, 0, none⟩ = some (.int .i64 m0) := by rw [Lib.cell_of_heap hx2]; rfl
    have x1 : w2.cell? ⟨W.heap.size, 1, none⟩ = some (.int .i64 m1) := by rw [Lib.cell_of_heap hx2]; rfl
    have x2 : w2.cell? ⟨W.heap.size, 2, none⟩ = some (.int .i64 m2) := by rw [Lib.cell_of_heap hx2]; rfl
    have HX2 := Lib.hid hx2
    have HP := Lib.hid (put_all (up := m2) HC.out HGD.out (by have := HLK.out; omega) (by have := HN.out; omega) hm0 hm1)
    clear hx2
    go_wp2_with fail
    refine HP.out.mono ?_
    rintro e w3 ⟨n, fr, lb, er, N', rfl, hS3, hG3, hB3, hl3, hk3, he3⟩
    have HS3 := Lib.hid hS3
    have HB3 := Lib.hid hB3
    have HSS := Lib.hid (HS0.out.stay (w' := w3) (HB2.out.trans hB3))
    have HL3 := Lib.hid (long_any hS3)
    have HI3 := Lib.hid (links_any hS3)
    have HLS := Lib.hid (long_any HSS.out)
    have HIS := Lib.hid (links_any HSS.out)
    have Hl3 := Lib.hid hl3
    have Hk3 := Lib.hid hk3
    have He3 := Lib.hid he3
    have HW3 : Hid (Below W.heap.size W w3) := Lib.hid (HW0.out.trans ((HB2.out.trans hB3).mono HW0.out.size))
    have hx3 : w3.heap[W.heap.size]? = some (Obj.cells #[.int .i64 m0, .int .i64 m1, .int .i64 m2] 29 (0, 0)) := (hB3.block _ (Array.getElem?_eq_some_iff.1 HXC.out).1).trans HX2.out
    have HX3 := Lib.hid hx3
    clear hS3 hG3 hB3 hl3 hk3 he3 x0 x1 x2 hx3
    go_upto_region 9 with fail
    go_cut [108] (fun v wx => v = .bool false ∧ wx = w3)
    case first =>
      have d1 : ((N.length : Int) != (N.length : Int)) = false := by simp
      have d2 : decide (N'.length < N.length) = false := decide_eq_false (by have := Hl3.out; omega)
      have d3 : decide (N.length < N'.length) = fr := by
        have := Hl3.out
        cases fr
        · exact decide_eq_false (by simp at this; omega)
        · exact decide_eq_true (by simp at this; omega)
      have d4 : decide (lk N < lk N') = lb := by
        have := Hk3.out
        cases lb
        · exact decide_eq_false (by simp at this; omega)
        · exact decide_eq_true (by simp at this; omega)
      go_wp2_with fail
      refine HLS.out.mono ?_
      rintro e w' ⟨rfl, rfl⟩
      go_wp2_with fail
      refine HIS.out.mono ?_
      rintro e w' ⟨rfl, rfl⟩
      go_wp2_with fail
      refine HL3.out.mono ?_
      rintro e w' ⟨rfl, rfl⟩
      go_wp2_with fail
      refine HL3.out.mono ?_
      rintro e w' ⟨rfl, rfl⟩
      go_wp2_with fail
      refine HI3.out.mono ?_
      rintro e w' ⟨rfl, rfl⟩
      rcases He3.out with h0 | ⟨h1, h2⟩
      · subst h0
        go_wp2_with fail
        go_meet
        exact ⟨rfl, rfl⟩
      · subst h1 h2
        obtain ⟨bb, hbb⟩ : ∃ bb, (er != 0) = bb := ⟨_, rfl⟩
        cases bb
        · go_wp2_with fail
          go_meet
          exact ⟨rfl, rfl⟩
        · go_wp2_with fail
          go_meet
          exact ⟨rfl, rfl⟩
    case rest =>
      obtain ⟨rfl, rfl⟩ := hcut
      clear HS0 HW0 HK HC HB2 HS2 HL2 HI2 HP HS3 HB3 HSS HL3 HI3 HLS HIS Hl3 Hk3 He3 HX2 HXC HX
      go_wp2_with fail
      go_loopw [14] (fun x14 wr => ∃ j : Nat, j ≤ 2 ∧ x14 = .int .i64 (j : Int) ∧ Below W.heap.size W wr ∧ wr.heap[W.heap.size]? = some (Obj.cells #[.int .i64 m0, .int .i64 m1, .int .i64 m2] 29 (0, 0))) (fun x14 _ => 2 - (intOf x14).toNat)
      case atStart => exact ⟨0, by omega, rfl, HW3.out, HX3.out⟩
      case round =>
        obtain ⟨j, hj, rfl, hBr, hXr⟩ := hrel
        clear HX3 HW3
        rcases (by omega : j = 0 ∨ j = 1 ∨ j = 2) with rfl | rfl | rfl
        · have hst := heap_alloc_new wr (Obj.cells #[.slice none 0 0, .map none, .map none, .int .i64 0] 42)
          have hb4 : Below wr.heap.size wr (wr.alloc (Obj.cells #[.slice none 0 0, .map none, .map none, .int .i64 0] 42)) := (Below.refl _ _).alloc (Nat.le_refl _) _
          have hx4 := (hb4.block _ (Array.getElem?_eq_some_iff.1 hXr).1).trans hXr
          have y0 : (wr.alloc (Obj.cells #[.slice none 0 0, .map none, .map none, .int .i64 0] 42)).cell? ⟨W.heap.size, 0, none⟩ = some (.int .i64 m0) := by rw [Lib.cell_of_heap hx4]; rfl
          have y1 : (wr.alloc (Obj.cells #[.slice none 0 0, .map none, .map none, .int .i64 0] 42)).cell? ⟨W.heap.size, 1, none⟩ = some (.int .i64 m1) := by rw [Lib.cell_of_heap hx4]; rfl
          have y2 : (wr.alloc (Obj.cells #[.slice none 0 0, .map none, .map none, .int .i64 0] 42)).cell? ⟨W.heap.size, 2, none⟩ = some (.int .i64 m2) := by rw [Lib.cell_of_heap hx4]; rfl
          have HPL := Lib.hid (plain_zero (wr.alloc (Obj.cells #[.slice none 0 0, .map none, .map none, .int .i64 0] 42)) wr.heap.size (by rw [Lib.cell_of_heap hst]; rfl))
          have HLG := Lib.hid (long_zero (wr.alloc (Obj.cells #[.slice none 0 0, .map none, .map none, .int .i64 0] 42)) wr.heap.size (by rw [Lib.cell_of_heap hst]; rfl))
          have HLI := Lib.hid (links_zero (wr.alloc (Obj.cells #[.slice none 0 0, .map none, .map none, .int .i64 0] 42)) wr.heap.size (by rw [Lib.cell_of_heap hst]; rfl))
          have HB4 := Lib.hid (hBr.trans (hb4.mono hBr.size))
          have HX4 := Lib.hid hx4
          clear hst hb4 hx4 hBr hXr
          go_wp2_with fail
          refine (put_none HPL.out m0 m1 m2).mono ?_
          rintro e w' ⟨rfl, rfl⟩
          go_wp2_with fail
          refine HLG.out.mono ?_
          rintro e w' ⟨rfl, rfl⟩
          go_wp2_with fail
          refine HLI.out.mono ?_
          rintro e w' ⟨rfl, rfl⟩
          go_wp2_with fail
          refine (ups_none HPL.out 0).mono ?_
          rintro e w' ⟨rfl, rfl⟩
          go_wp2_with fail
          refine (ret_none HPL.out 0).mono ?_
          rintro e w' ⟨rfl, rfl⟩
          go_wp2_with fail
          refine (at_none HPL.out 0).mono ?_
          rintro e w' ⟨rfl, rfl⟩
          go_wp2_with fail
          refine (find_none HPL.out m0 m1).mono ?_
          rintro e w' ⟨rfl, rfl⟩
          go_wp2_with fail
          refine (clone_none HPL.out HLG.out).mono ?_
          rintro e w' ⟨rfl, rfl⟩
          go_wp2_with fail
          go_roundw
          case rel => exact ⟨1, by omega, by go_num, HB4.out, HX4.out⟩
          case measure => simp [intOf]
        · have hst := heap_alloc_new wr (Obj.cells #[.slice none 0 0, .map none, .map none, .int .i64 0] 42)
          have hb4 : Below wr.heap.size wr (wr.alloc (Obj.cells #[.slice none 0 0, .map none, .map none, .int .i64 0] 42)) := (Below.refl _ _).alloc (Nat.le_refl _) _
          have hx4 := (hb4.block _ (Array.getElem?_eq_some_iff.1 hXr).1).trans hXr
          have y0 : (wr.alloc (Obj.cells #[.slice none 0 0, .map none, .map none, .int .i64 0] 42)).cell? ⟨W.heap.size, 0, none⟩ = some (.int .i64 m0) := by rw [Lib.cell_of_heap hx4]; rfl
          have y1 : (wr.alloc (Obj.cells #[.slice none 0 0, .map none, .map none, .int .i64 0] 42)).cell? ⟨W.heap.size, 1, none⟩ = some (.int .i64 m1) := by rw [Lib.cell_of_heap hx4]; rfl
          have y2 : (wr.alloc (Obj.cells #[.slice none 0 0, .map none, .map none, .int .i64 0] 42)).cell? ⟨W.heap.size, 2, none⟩ = some (.int .i64 m2) := by rw [Lib.cell_of_heap hx4]; rfl
          have HPL := Lib.hid (plain_nil (wr.alloc (Obj.cells #[.slice none 0 0, .map none, .map none, .int .i64 0] 42)))
          have HLG := Lib.hid (long_nil (wr.alloc (Obj.cells #[.slice none 0 0, .map none, .map none, .int .i64 0] 42)))
          have HLI := Lib.hid (links_nil (wr.alloc (Obj.cells #[.slice none 0 0, .map none, .map none, .int .i64 0] 42)))
          have HB4 := Lib.hid (hBr.trans (hb4.mono hBr.size))
          have HX4 := Lib.hid hx4
          clear hst hb4 hx4 hBr hXr
          go_wp2_with fail
          refine (put_none HPL.out m0 m1 m2).mono ?_
          rintro e w' ⟨rfl, rfl⟩
          go_wp2_with fail
          refine HLG.out.mono ?_
          rintro e w' ⟨rfl, rfl⟩
          go_wp2_with fail
          refine HLI.out.mono ?_
          rintro e w' ⟨rfl, rfl⟩
          go_wp2_with fail
          refine (ups_none HPL.out 0).mono ?_
          rintro e w' ⟨rfl, rfl⟩
          go_wp2_with fail
          refine (ret_none HPL.out 0).mono ?_
          rintro e w' ⟨rfl, rfl⟩
          go_wp2_with fail
          refine (at_none HPL.out 0).mono ?_
          rintro e w' ⟨rfl, rfl⟩
          go_wp2_with fail
          refine (find_none HPL.out m0 m1).mono ?_
          rintro e w' ⟨rfl, rfl⟩
          go_wp2_with fail
          refine (clone_none HPL.out HLG.out).mono ?_
          rintro e w' ⟨rfl, rfl⟩
          go_wp2_with fail
          go_roundw
          case rel => exact ⟨2, by omega, by go_num, HB4.out, HX4.out⟩
          case measure => simp [intOf]
        · have HB4 := Lib.hid hBr
          clear hBr hXr
          go_wp2_with fail
          refine (works_any wr).mono ?_
          rintro e w5 ⟨rfl, hb5⟩
          have HB5 := Lib.hid (HB4.out.trans (hb5.mono HB4.out.size))
          clear hb5
          go_wp2
          go_ret
          exact ⟨rfl, HB5.out⟩

end Go.Proofs.Ytcpmgijakhhlkaa.Stack
