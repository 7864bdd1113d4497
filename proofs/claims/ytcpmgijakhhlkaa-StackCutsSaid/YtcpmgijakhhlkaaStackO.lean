/- The law StackCuts, walked. -/
import Derived.Test.YtcpmgijakhhlkaaStackN
import Derived.BigQuiet
namespace Go.Proofs.Ytcpmgijakhhlkaa.Stack
open Go Go.RowKit

theorem cutN_len {N : List Nd} {n : Nat} (h : n ≤ N.length) : (cutN N n).length = n := by simp [cutN]; omega
theorem cutN_get {N : List Nd} {n k : Nat} {x : Nd} (hk : k < n) (hx : N[k]? = some x) : (cutN N n)[k]? = some (cutNd n x) := by
  rw [cutN_eq, List.getElem?_map, List.getElem?_take_of_lt hk, hx]
  rfl
theorem lk_take {N : List Nd} {k : Nat} {x : Nd} (hx : N[k]? = some x) : lk (N.take (k + 1)) = lk (N.take k) + x.u.length := by
  rw [List.take_add_one, hx, lk_append]
  simp [lk]
theorem lk_take_le (N : List Nd) (k : Nat) : lk (N.take k) ≤ lk N := by
  have h : lk N = lk (N.take k) + lk (N.drop k) := by rw [← lk_append, List.take_append_drop]
  omega
theorem cutN_keys (N : List Nd) (n : Nat) : keys (cutN N n) = keys (N.take n) := by
  unfold cutN keys
  rw [List.map_map]
  rfl
theorem cutN_nodup {N : List Nd} (h : (keys N).tail.Nodup) (n : Nat) : (keys (cutN N n)).tail.Nodup := by
  rw [cutN_keys]
  have : (keys (N.take n)).tail.Sublist (keys N).tail := by
    rw [keys_tail, keys_tail]
    unfold keys
    exact ((List.take_sublist n N).tail).map _
  exact this.nodup h
theorem filter_at {l : List Nat} {i y n : Nat} (h : l[i]? = some y) (hy : y < n) : (l.filter (· < n))[((l.take i).filter (· < n)).length]? = some y := by
  have hl : i < l.length := (List.getElem?_eq_some_iff.1 h).1
  have e : l = l.take i ++ y :: l.drop (i + 1) := by
    have e2 : l.drop i = y :: l.drop (i + 1) := by
      rw [List.drop_eq_getElem_cons hl]
      congr 1
      exact (List.getElem?_eq_some_iff.1 h).2
    rw [← e2, List.take_append_drop]
  have : l.filter (· < n) = (l.take i).filter (· < n) ++ y :: (l.drop (i + 1)).filter (· < n) := by
    conv => lhs; rw [e]
    rw [List.filter_append, List.filter_cons_of_pos (by simpa using hy)]
  rw [this, List.getElem?_append_right (Nat.le_refl _)]
  simp

set_option maxHeartbeats 8000000 in
set_option maxRecDepth 100000 in
theorem cuts_walk (ad : Option Addr) (len cap : Nat) (m : Int) (W : World) (hp : PutsAt W ad len) :
    Calls Try.prog 3 #[.slice ad len cap, .int .i64 m] W fun e w' => e = .returned (.bool true) ∧ Below W.heap.size W w' := by
  have HPA := Lib.hid hp
  clear hp
  go_enter Try.func3, Try.ntmps3
  go_wp2_with fail
  refine (new_any _).mono ?_
  rintro e w1 ⟨p, rfl, hS1, hB1⟩
  have HS1 := Lib.hid hS1
  have HB1 := Lib.hid hB1
  clear hS1 hB1
  go_upto_block 0 with fail
  go_cut [] (fun wx => PutsDone w1 W.heap.size p wx)
  case first =>
    go_wp2_with fail
    go_loopw [6] (fun x6 wr => ∃ i : Nat, i ≤ 60 ∧ x6 = .int .i64 (i : Int) ∧ ∃ N, Stk wr W.heap.size p N (keys N) ∧ Good N ∧ N.length ≤ i + 1 ∧ lk N ≤ i ∧ Below W.heap.size w1 wr) (fun x6 _ => 60 - (intOf x6).toNat)
    case atStart => exact ⟨0, by omega, rfl, N0, HS1.out, good0, by decide, by decide, Below.refl _ _⟩
    case round =>
      obtain ⟨i, hi, rfl, N, hSr, hGr, hNl, hNk, hBr⟩ := hrel
      have HF : Hid (PutsDone w1 W.heap.size p wr) := Lib.hid ⟨N, hSr, hGr, by omega, by omega, hBr⟩
      by_cases h60 : i < 60
      · have q1 : decide ((i : Int) < 60) = true := decide_eq_true (by omega)
        by_cases hil : i < len
        · have q2 : decide ((i : Int) < (len : Int)) = true := decide_eq_true (by omega)
          have q3 : (0 : Int) ≤ (i : Int) := by omega
          have q4 : (i : Int) < (len : Int) := by omega
          obtain ⟨b, off, rfl, bl, hc⟩ := HPA.out (by omega)
          obtain ⟨r, a, u, hr, ha, hu, c0, c1, c2⟩ := hc i hil
          have hWw : Below W.heap.size W wr := HB1.out.trans hBr
          have c0 := (hWw.cell (p := ⟨b, _, none⟩) bl).trans c0
          have c1 := (hWw.cell (p := ⟨b, _, none⟩) bl).trans c1
          have c2 := (hWw.cell (p := ⟨b, _, none⟩) bl).trans c2
          have HK := Lib.hid (put_all (w := wr.drew) (up := u) (hSr.stay (Below.refl _ _).drew) hGr (by omega) (by omega) hr ha)
          have HBR := Lib.hid hBr
          have hbl : b < W.heap.size := bl
          clear hc hWw hSr hGr hBr hr ha hu HF
          go_wp2_with fail
          go_region_held3 (fun w' => w'.cell? ⟨b, off + i * 3, none⟩ = some (.int .i64 r) ∧ w'.cell? ⟨b, off + i * 3 + 1, none⟩ = some (.int .i64 a) ∧ w'.cell? ⟨b, off + i * 3 + 2, none⟩ = some (.int .i64 u)) (first | go_keep | exact ⟨(hB2.cell (p := ⟨b, _, none⟩) hbl).trans c0, (hB2.cell (p := ⟨b, _, none⟩) hbl).trans c1, (hB2.cell (p := ⟨b, _, none⟩) hbl).trans c2⟩)
            (first | (go_at_call 8; refine HK.out.mono ?_; rintro e w2 ⟨n, fr, lb, er, N', rfl, hS2, hG2, hB2, hl2, hk2, -⟩))
          have HS2 := Lib.hid hS2
          have HG2 := Lib.hid hG2
          have HB2 := Lib.hid hB2
          have HL2 := Lib.hid hl2
          have HK2 := Lib.hid hk2
          clear hS2 hG2 hB2 hl2 hk2
          go_wp2_with fail
          go_roundw
          case rel =>
            refine ⟨i + 1, by omega, by go_num, N', HS2.out, HG2.out, ?_, ?_, HBR.out.trans (Below.trans (Below.refl _ _).drew HB2.out)⟩
            · have := HL2.out
              split at this <;> omega
            · have := HK2.out
              split at this <;> omega
          case measure => simp [intOf]; omega
        · have q2 : decide ((i : Int) < (len : Int)) = false := decide_eq_false (by omega)
          clear hSr hGr hBr
          go_wp2_with fail
          go_meet
          exact HF.out
      · have q1 : decide ((i : Int) < 60) = false := decide_eq_false (by omega)
        clear hSr hGr hBr
        by_cases hil : i < len
        · have q2 : decide ((i : Int) < (len : Int)) = true := decide_eq_true (by omega)
          go_wp2_with fail
          go_meet
          exact HF.out
        · have q2 : decide ((i : Int) < (len : Int)) = false := decide_eq_false (by omega)
          go_wp2_with fail
          go_meet
          exact HF.out
  case rest =>
    obtain ⟨N, hS, hG, hN, hK, hB⟩ := hcut
    obtain ⟨n, hn⟩ : ∃ n : Nat, (n : Int) = min (max m 1) (N.length : Int) := ⟨(min (max m 1) (N.length : Int)).toNat, by
      have : 0 < N.length := by obtain ⟨_, _, _, hc⟩ := hS; exact hc.pos
      omega⟩
    have hpos : 0 < N.length := by obtain ⟨_, _, _, hc⟩ := hS; exact hc.pos
    have hn1 : 1 ≤ n := by omega
    have hn2 : n ≤ N.length := by omega
    have HK := Lib.hid (cut_any hS hG m n hn)
    obtain ⟨M, hM⟩ : ∃ M : Int, min m (N.length : Int) = M := ⟨_, rfl⟩
    have i1 : (if (N.length : Int) < m then (N.length : Int) else m) = M := by rw [← hM]; split <;> omega
    have i2 : (if 1 < M then M else 1) = (n : Int) := by rw [hn, ← hM]; split <;> omega
    have HS0 := Lib.hid hS
    have HGD := Lib.hid hG
    have HLK := Lib.hid hK
    have HW0 : Hid (Below W.heap.size W wc) := Lib.hid (HB1.out.trans hB)
    clear hS hG hK hB HS1 HB1 HPA hM hn
    go_wp2_with fail
    refine HK.out.mono ?_
    rintro e w2 ⟨c, rfl, hC, hB2⟩
    have HL2 := Lib.hid (long_any (HS0.out.stay hB2))
    have hLC := long_any hC
    rw [cutN_len hn2] at hLC
    have HLC := Lib.hid hLC
    have HC := Lib.hid hC
    have HS2 := Lib.hid (HS0.out.stay hB2)
    have HW2 : Hid (Below W.heap.size W w2) := Lib.hid (HW0.out.trans (hB2.mono HW0.out.size))
    clear hC hB2 hLC
    go_wp2_with fail
    refine HL2.out.mono ?_
    rintro e w' ⟨rfl, rfl⟩
    go_wp2_with fail
    refine HLC.out.mono ?_
    rintro e w' ⟨rfl, rfl⟩
    clear HK HS0 HW0
    go_wp2_with fail
    go_loopw [9, 10] (fun x9 x10 wr => ∃ k : Nat, k ≤ n ∧ x9 = .int .i64 (lk ((cutN N n).take k) : Int) ∧ x10 = .int .i64 (k : Int) ∧ Below w2.heap.size w2 wr) (fun _ x10 _ => n - (intOf x10).toNat)
    case atStart => exact ⟨0, by omega, rfl, rfl, Below.refl _ _⟩
    case round =>
      obtain ⟨k, hk, rfl, rfl, hBr⟩ := hrel
      by_cases hkn : k < n
      · have p1 : decide ((k : Int) < (n : Int)) = true := decide_eq_true (by omega)
        have p1' : decide (k < n) = true := decide_eq_true hkn
        obtain ⟨x, hx⟩ : ∃ x, N[k]? = some x := ⟨N[k]'(by omega), List.getElem?_eq_getElem (by omega)⟩
        have HU1 := Lib.hid (ups_any (HS2.out.stay hBr) hx)
        have HBR := Lib.hid hBr
        have HX := Lib.hid hx
        clear hBr hx
        go_wp2_with fail
        refine HU1.out.mono ?_
        rintro e w3 ⟨v1, rfl, hv1, hb3⟩
        have HU2 := Lib.hid (ups_any (HC.out.stay (HBR.out.trans (hb3.mono HBR.out.size))) (cutN_get hkn HX.out))
        have HV1 := Lib.hid hv1
        have HB3 := Lib.hid (HBR.out.trans (hb3.mono HBR.out.size))
        clear hv1 hb3 HU1
        go_wp2_with fail
        refine HU2.out.mono ?_
        rintro e w4 ⟨v2, rfl, hv2, hb4⟩
        have HV1 := Lib.hid (HV1.out.stay hb4)
        have HV2 := Lib.hid hv2
        have HB4 := Lib.hid (HB3.out.trans (hb4.mono HB3.out.size))
        clear hv2 hb4 HU2 HB3 HBR
        obtain ⟨A1, c1, rfl, _, _⟩ := ownsRow_form HV1.out
        obtain ⟨A2, c2, rfl, _, _⟩ := ownsRow_form HV2.out
        have e1 : (upI x).length = x.u.length := by simp [upI]
        have e2 : (upI (cutNd n x)).length = (x.u.filter (· < n)).length := by simp [upI, cutNd]
        obtain ⟨la, hla⟩ : ∃ la, (upI x).length = la := ⟨_, rfl⟩
        obtain ⟨lb, hlb⟩ : ∃ lb, (upI (cutNd n x)).length = lb := ⟨_, rfl⟩
        rw [hla] at e1
        rw [hlb] at e2
        simp only [hla, hlb] at HV1 HV2 ⊢
        have hla9 : la ≤ 99 := by
          obtain ⟨_, _, _, hc⟩ := HS2.out
          rw [e1]
          exact Nat.le_trans (lk_mem (List.mem_of_getElem? HX.out)) hc.lks
        have E1 := Lib.hid e1
        have E2 := Lib.hid e2
        have HLA := Lib.hid hla
        have HLB := Lib.hid hlb
        clear e1 e2 hla hlb
        have HSC := Lib.hid (HC.out.stay HB4.out)
        have HSS := Lib.hid (HS2.out.stay HB4.out)
        have HRC := Lib.hid (ret_any HSC.out (cutN_get hkn HX.out))
        have HRS := Lib.hid (ret_any HSS.out HX.out)
        have HAC := Lib.hid (at_any HSC.out (cutN_get hkn HX.out))
        have HAS := Lib.hid (at_any HSS.out HX.out)
        go_wp2_with fail
        go_loopw [13, 14] (fun x13 x14 wy => ∃ i : Nat, i ≤ la ∧ x13 = .int .i64 (((x.u.take i).filter (· < n)).length : Int) ∧ x14 = .int .i64 (i : Int) ∧ Below w4.heap.size w4 wy) (fun _ x14 _ => la - (intOf x14).toNat)
        case atStart => exact ⟨0, by omega, rfl, rfl, Below.refl _ _⟩
        case round =>
          obtain ⟨i, hi, rfl, rfl, hBy⟩ := hrel
          by_cases hil : i < la
          · have q1 : decide ((i : Int) < (la : Int)) = true := decide_eq_true (by omega)
            have q1' : decide (i < la) = true := decide_eq_true hil
            have q2 : (0 : Int) ≤ (i : Int) := by omega
            have q3 : (i : Int) < (la : Int) := by omega
            obtain ⟨y, hy⟩ : ∃ y, x.u[i]? = some y := ⟨x.u[i]'(by have := E1.out; omega), List.getElem?_eq_getElem (by have := E1.out; omega)⟩
            have hyi : (upI x)[i]? = some (y : Int) := by unfold upI; rw [List.getElem?_map, hy]; rfl
            obtain ⟨g1, d1, f1, _, _, gc1⟩ := (HV1.out.stay hBy).at (by rw [HLA.out]; omega)
            rw [HLA.out] at f1
            cases f1
            have r1 := gc1 i _ hyi
            have htf := take_filter (n := n) hy
            have HTF := Lib.hid htf
            have HBY := Lib.hid hBy
            clear gc1 hyi htf hBy
            by_cases hyn : y < n
            · have s1 : decide ((y : Int) < (n : Int)) = true := decide_eq_true (by omega)
              have s1' : decide (y < n) = true := decide_eq_true hyn
              have hfa := filter_at hy hyn
              obtain ⟨j, hj⟩ : ∃ j, ((x.u.take i).filter (· < n)).length = j := ⟨_, rfl⟩
              rw [hj] at hfa
              have hjb : j < lb := by rw [E2.out]; exact (List.getElem?_eq_some_iff.1 hfa).1
              have hji : (upI (cutNd n x))[j]? = some (y : Int) := by unfold upI cutNd; rw [List.getElem?_map, hfa]; rfl
              obtain ⟨g2, d2, f2, _, _, gc2⟩ := (HV2.out.stay HBY.out).at (by rw [HLB.out]; omega)
              rw [HLB.out] at f2
              cases f2
              have r2 := gc2 j _ hji
              have t1 : (0 : Int) ≤ (j : Int) := by omega
              have t2 : (j : Int) < (lb : Int) := by omega
              have t3 : decide ((lb : Int) ≤ (j : Int)) = false := decide_eq_false (by omega)
              have t3' : decide (lb ≤ j) = false := decide_eq_false (by omega)
              simp only [hj]
              have HJ := Lib.hid hj
              clear gc2 hji hfa hy hj
              have hj9 : j ≤ 99 := by have := E2.out; have := E1.out; have := List.length_filter_le (fun v => decide (v < n)) x.u; omega
              go_wp2_with fail
              go_quiet (fail)
              go_wp2_with fail
              go_roundw
              case rel => exact ⟨i + 1, by omega, by rw [HTF.out, if_pos hyn, List.length_append, HJ.out]; go_num, by go_num, HBY.out.trans ⟨rfl, rfl, rfl, Nat.le_refl _, fun _ _ => rfl⟩⟩
              case measure => simp [intOf]; omega
            · have s1 : decide ((y : Int) < (n : Int)) = false := decide_eq_false (by omega)
              have s1' : decide (y < n) = false := decide_eq_false hyn
              clear hy
              go_wp2_with fail
              go_roundw
              case rel => exact ⟨i + 1, by omega, by rw [HTF.out, if_neg hyn, List.append_nil], by go_num, HBY.out⟩
              case measure => simp [intOf]; omega
          · have q1 : decide ((i : Int) < (la : Int)) = false := decide_eq_false (by omega)
            have q1' : decide (i < la) = false := decide_eq_false hil
            obtain rfl : i = la := by omega
            have hall : ((x.u.take i).filter (· < n)).length = lb := by rw [E2.out, List.take_of_length_le (by rw [E1.out]; exact Nat.le_refl _)]
            rw [hall]
            have hlk := lk_take (k := k) (cutN_get hkn HX.out)
            have hlk2 : lk ((cutN N n).take (k + 1)) = lk ((cutN N n).take k) + lb := by rw [hlk, E2.out]; rfl
            have hlk3 := lk_take_le (cutN N n) (k + 1)
            have hlk4 : lk (cutN N n) ≤ 99 := by obtain ⟨_, _, _, hc⟩ := HC.out; exact hc.lks
            obtain ⟨L, hL⟩ : ∃ L, lk ((cutN N n).take k) = L := ⟨_, rfl⟩
            rw [hL] at hlk2 ⊢
            have hLb : L + lb ≤ 99 := by omega
            have HLK2 := Lib.hid hlk2
            have HSC := Lib.hid (HSC.out.stay hBy)
            have HSS := Lib.hid (HSS.out.stay hBy)
            have HRC := Lib.hid (ret_any HSC.out (cutN_get hkn HX.out))
            have HRS := Lib.hid (ret_any HSS.out HX.out)
            have HAC := Lib.hid (at_any HSC.out (cutN_get hkn HX.out))
            have HAS := Lib.hid (at_any HSS.out HX.out)
            have HBF := Lib.hid (HB4.out.trans (hBy.mono HB4.out.size))
            clear hlk hlk2 hlk3 hlk4 hBy hall hL
            go_wp2_with fail
            refine HRC.out.mono ?_
            rintro e w' ⟨rfl, rfl⟩
            go_wp2_with fail
            refine HRS.out.mono ?_
            rintro e w' ⟨rfl, rfl⟩
            go_wp2_with fail
            refine HAC.out.mono ?_
            rintro e w' ⟨rfl, rfl⟩
            go_wp2_with fail
            refine HAS.out.mono ?_
            rintro e w' ⟨rfl, rfl⟩
            by_cases hk0 : k = 0
            · subst hk0
              have z1 : decide ((0 : Int) < ((0 : Nat) : Int)) = false := by decide
              go_wp2_with fail
              go_roundw
              case rel => exact ⟨1, by omega, congrArg (Value.int .i64) (by have := HLK2.out; simp only [Nat.zero_add] at this; rw [this]; omega), by go_num, HBF.out⟩
              case measure => simp [intOf]; omega
            · have z1 : decide ((0 : Int) < (k : Int)) = true := decide_eq_true (by omega)
              have z1' : decide (0 < k) = true := decide_eq_true (by omega)
              have hpo := HGD.out.pos x (List.mem_iff_getElem?.2 ⟨k - 1, by rw [List.getElem?_tail, show k - 1 + 1 = k by omega]; exact HX.out⟩)
              have HF := Lib.hid (find_any HSC.out (r := x.r) (a := x.a) (by constructor <;> omega) (by constructor <;> omega) (show idx (keys (cutN N n)) (x.r, x.a) = some k from idx_at (x := cutNd n x) (i := k) (cutN_nodup HGD.out.nd n) (by omega) (cutN_get hkn HX.out)))
              clear hpo
              go_wp2_with fail
              refine HRS.out.mono ?_
              rintro e w' ⟨rfl, rfl⟩
              go_wp2_with fail
              refine HAS.out.mono ?_
              rintro e w' ⟨rfl, rfl⟩
              go_wp2_with fail
              refine HF.out.mono ?_
              rintro e w' ⟨rfl, rfl⟩
              go_wp2_with fail
              go_roundw
              case rel => exact ⟨k + 1, by omega, congrArg (Value.int .i64) (by rw [HLK2.out]; omega), by go_num, HBF.out⟩
              case measure => simp [intOf]; omega
      · have p1 : decide ((k : Int) < (n : Int)) = false := decide_eq_false (by omega)
        have p1' : decide (k < n) = false := decide_eq_false hkn
        obtain rfl : k = n := by omega
        have hta : (cutN N k).take k = cutN N k := List.take_of_length_le (by rw [cutN_len hn2]; exact Nat.le_refl _)
        rw [hta]
        have HSC := Lib.hid (HC.out.stay hBr)
        have HLC2 := Lib.hid (links_any HSC.out)
        have HBR := Lib.hid (HW2.out.trans (hBr.mono HW2.out.size))
        clear hBr hta
        go_wp2_with fail
        refine HLC2.out.mono ?_
        rintro e w' ⟨rfl, rfl⟩
        go_wp2_with fail
        refine (works_any _).mono ?_
        rintro e w5 ⟨rfl, hb5⟩
        have HB5 := Lib.hid (HBR.out.trans (hb5.mono HBR.out.size))
        clear hb5
        go_wp2
        go_ret
        exact ⟨rfl, HB5.out⟩

end Go.Proofs.Ytcpmgijakhhlkaa.Stack
