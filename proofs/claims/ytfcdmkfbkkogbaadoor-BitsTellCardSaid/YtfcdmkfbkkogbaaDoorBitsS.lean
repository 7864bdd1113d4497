/- A set's list, walked. -/
import Derived.Test.YtfcdmkfbkkogbaaDoorBitsR
namespace Go.Proofs.YtfcdmkfbkkogbaaDoor.Bits
open Go Go.RowKit

def ints (L : List Nat) : List Value := L.map fun n : Nat => Value.int .i64 (n : Int)
theorem ints_length (L : List Nat) : (ints L).length = L.length := List.length_map _
theorem ints_append (L M : List Nat) : ints (L ++ M) = ints L ++ ints M := by simp [ints]

theorem info3 : (Tryd.prog.info? 3).map (fun i => (i.zero, i.size, i.bytes)) = some (some (.int .i64 0), 1, 8) := by kernel_rfl

theorem and_pred (x : Nat) (hx : x < 18446744073709551616) (h0 : x ≠ 0) : bits .and .u64 (x : Int) ((x : Int) - 1) = ((x &&& (x - 1) : Nat) : Int) := by
  rw [show (x : Int) - 1 = ((x - 1 : Nat) : Int) by omega]
  exact u64_and_nat x (x - 1) hx (by omega)

def natOf : Value → Nat
  | .int _ n => n.toNat
  | _ => 0

set_option maxRecDepth 100000 in
theorem list_any {w : World} {v : Value} {l : List Nat} (H : Words w v l) (T : Tab w) :
    Calls Tryd.prog 40 #[v] w fun e w' => ∃ v', e = .returned v' ∧ w'.ownsRow w.heap.size 3 1 v' (allOf l).length (ints (allOf l)) ∧ Below w.heap.size w w' := by
  obtain ⟨i0, hi, hz0, hz1, hz2⟩ := info_parts info3
  have HCT := Lib.hid (count_any H)
  have hlen := count_all l
  have hcb := count_le l
  obtain ⟨c, hc⟩ : ∃ c, c = count l := ⟨_, rfl⟩
  rw [← hc] at HCT hlen hcb
  by_cases hc0 : c = 0
  · subst hc0
    clear hc hcb
    have he : allOf l = [] := List.length_eq_zero_iff.1 hlen
    rw [he]
    clear he hlen H T
    go_enter Tryd.func40, Tryd.ntmps40
    go_wp2_with fail
    refine HCT.out.mono ?_
    rintro e w1 ⟨rfl, rfl⟩
    go_wp2
    go_ret
    exact ⟨_, rfl, ⟨by simp [ints], .inl ⟨rfl, rfl⟩⟩, Below.refl _ _⟩
  · have HT := Lib.hid (tidyLong_any H)
    have htl := tl_le l
    have htl0 : 0 < tl l := by
      apply Nat.pos_of_ne_zero
      intro h
      have h1 := allOf_eq l
      rw [h] at h1
      rw [h1] at hlen
      exact hc0 hlen.symm
    have HALL := Lib.hid (allOf_eq l)
    have HWD := Lib.hid (fun i (h : i < tl l) => wd_lt h)
    obtain ⟨k, hk⟩ : ∃ k, k = tl l := ⟨_, rfl⟩
    rw [← hk] at HT htl htl0 HALL HWD
    have HK := Lib.hid hk
    obtain ⟨htl1, htl2⟩ := htl
    obtain ⟨b, off, cap, rfl, hcap, hcm, hb, hcc⟩ := H.at (by omega)
    have HCC := Lib.hid hcc
    have HLT := Lib.hid H.2.1
    have HH := Lib.hid H
    obtain ⟨S, hS⟩ : ∃ S, S = w.heap.size := ⟨_, rfl⟩
    rw [← hS] at hb ⊢
    have HS := Lib.hid hS
    have hsz : S ≤ w.heap.size := by omega
    have HT0 := Lib.hid T
    have z1 : ((c : Int) == 0) = false := by simp; omega
    unfold maxLen at hcm
    clear hS hcc H T hk hlen hc
    go_enter Tryd.func40, Tryd.ntmps40
    go_wp2_with fail
    refine HCT.out.mono ?_
    rintro e w1 ⟨rfl, rfl⟩
    go_wp2_with (at_make; refine wpList_make_own _ rfl _ _ 51 rfl S 3 i0 (.int .i64 0) 1 Tryd.underlying51 hi hz0 hz1 _ _ _ c rfl rfl ?hC ?b2 ?b3 hsz ?_)
    case hC => omega
    case b2 => rw [hz2]; omega
    case b3 => unfold maxLen; omega
    intro w1 hown hgrow
    have hB1 : Below S w w1 := (Below.refl _ w).grown hgrow hsz (by simp)
    have HO := Lib.hid hown
    have HB1 := Lib.hid hB1
    have HT1 := Lib.hid (tidyLong_any (HH.out.stay (by rw [← HS.out]; exact hB1)))
    rw [← HK.out] at HT1
    clear hown hgrow hB1
    go_wp2_with fail
    refine HT1.out.mono ?_
    rintro e w1 ⟨rfl, rfl⟩
    go_wp2_with fail
    go_loopw [4, 18] (fun v i wx => ∃ (j : Nat) (L : List Nat), j ≤ k ∧ i = .int .i64 j ∧ L = filt (mem l) (64 * j) 0 ∧ wx.ownsRow S 3 1 v L.length (ints L) ∧ Below S w wx) (fun _ i _ => k - (intOf i).toNat)
    case atStart => exact ⟨0, [], Nat.zero_le _, rfl, rfl, HO.out, HB1.out⟩
    case round =>
      obtain ⟨j, L, hj, rfl, hL, hown, hB⟩ := hrel
      by_cases hlt : j < k
      · obtain ⟨x, hx⟩ : ∃ x, l[j]? = some x := ⟨l[j], List.getElem?_eq_getElem _⟩
        have hcell : wr.cell? ⟨b, off + j, none⟩ = some (wordV x) := (hB.cell (p := ⟨b, off + j, none⟩) hb).trans (HCC.out j x hx)
        have hxl := HLT.out x (List.mem_of_getElem? hx)
        have hfin : L ++ (filt x.testBit 64 0).map (64 * j + ·) = filt (mem l) (64 * (j + 1)) 0 := by
          have hw : wd l j = x := by rw [HWD.out j hlt, List.getD_eq_getElem?_getD, hx]; rfl
          rw [filt_words, hw, hL]
        have HF := Lib.hid hfin
        have HX := Lib.hid hx
        have HXL := Lib.hid hxl
        have HOwn := Lib.hid hown
        have HB := Lib.hid hB
        clear hx hown hB hL hfin hxl
        go_wp2_with fail
        obtain ⟨wo, rfl⟩ : ∃ wo : World, wo = wr := ⟨_, rfl⟩
        go_loopw [4, 6] (fun v x wx => ∃ (y : Nat) (L : List Nat), y < 18446744073709551616 ∧ x = wordV y ∧ L ++ (filt y.testBit 64 0).map (64 * j + ·) = filt (mem l) (64 * (j + 1)) 0 ∧ wx.ownsRow S 3 1 v L.length (ints L) ∧ Below S w wx) (fun _ x _ => (filt (natOf x).testBit 64 0).length)
        case atStart => exact ⟨x, L, HXL.out, rfl, HF.out, HOwn.out, HB.out⟩
        case round =>
          obtain ⟨y, M, hy, rfl, hM, hown, hB⟩ := hrel
          have hszr : S ≤ wr.heap.size := Nat.le_trans hsz hB.size
          by_cases hy0 : y = 0
          · subst hy0
            rw [filt_zero, List.map_nil, List.append_nil] at hM
            have HM := Lib.hid hM
            have HOwn := Lib.hid hown
            have HB := Lib.hid hB
            clear hM hown hB
            go_wp2
            go_roundw
            case rel => exact ⟨j + 1, M, by omega, by go_num, HM.out, HOwn.out, HB.out⟩
            case measure => simp [intOf]; omega
          · have hlow := filt_low hy0 hy
            have htz := (low_bit hy0 hy).1
            have HTZ := Lib.hid (tz_any hy hy0 (HT0.out.stay (by rw [← HS.out]; exact hB)))
            have hMl : M.length < 65536 := by
              have h1 := filt_length_le (mem l) (64 * (j + 1)) 0
              rw [← hM, hlow, List.length_append] at h1
              simp at h1
              omega
            have hap := and_pred y hy hy0
            have hyn : ((y : Int) != 0) = true := by simp; omega
            obtain ⟨t, ht⟩ : ∃ t, t = Lib.ctz 64 y := ⟨_, rfl⟩
            rw [← ht] at hlow htz HTZ
            have hM2 : (M ++ [64 * j + t]) ++ (filt (y &&& (y - 1)).testBit 64 0).map (64 * j + ·) = filt (mem l) (64 * (j + 1)) 0 := by
              rw [← hM, hlow]; simp
            have HM2 := Lib.hid hM2
            have HLOW := Lib.hid hlow
            have HAP := Lib.hid hap
            have HBQ := Lib.hid hB
            clear hM hlow hap hM2 ht hB
            have y1 : (1 : Int) ≤ (y : Int) := by omega
            have y2 : (y : Int) < 18446744073709551616 := by omega
            go_wp2_with fail
            refine HTZ.out.mono ?_
            rintro e w1 ⟨rfl, rfl⟩
            go_wp2_with (at_builtin; refine wpList_append_own _ rfl _ _ 51 rfl S 3 i0 (.int .i64 0) 1 8 Tryd.underlying51 hi hz0 hz1 hz2 rfl (by decide) _ _ _ rfl (hown.alloc _) ⟨wr.heap.size, 0, none⟩ 1 1 [.int .i64 ((j : Int) * 64 + (t : Int))] rfl rfl ?c1 ?c2 ?c3 ?c4 ?c5 ?_)
            case c1 => intro j u hj; cases j <;> simp at hj; subst hj; simp [Addr.add]
            case c2 => intro u hu; simp at hu; subst hu; rfl
            case c3 => unfold maxLen; omega
            case c4 => omega
            case c5 => simp; omega
            intro v' w2 hown' hgrow _
            have hB2 : Below S w w2 := ((HBQ.out.alloc hszr _).grown hgrow (by simp; omega) fun k hk => (hown.lt k hk).1)
            have hown2 : w2.ownsRow S 3 1 v' (M ++ [64 * j + t]).length (ints (M ++ [64 * j + t])) := by
              rw [ints_append, List.length_append]
              have : ints [64 * j + t] = [.int .i64 ((j : Int) * 64 + (t : Int))] := by
                simp [ints]; omega
              rw [this]
              exact hown'
            have HO2 := Lib.hid hown2
            have HB2 := Lib.hid hB2
            clear hown' hgrow hB2 hown hown2
            go_wp2
            go_roundw
            case rel => exact ⟨y &&& (y - 1), M ++ [64 * j + t], Nat.lt_of_le_of_lt Nat.and_le_left hy, by show Value.int .u64 _ = Value.int .u64 _; rw [HAP.out], HM2.out, HO2.out, HB2.out⟩
            case measure =>
              show (filt (natOf (Value.int IntKind.u64 _)).testBit 64 0).length < (filt (natOf (wordV y)).testBit 64 0).length
              rw [HAP.out]
              simp only [natOf, Int.toNat_natCast]
              rw [HLOW.out, List.length_cons]
              exact Nat.lt_succ_self _
      · obtain rfl : j = k := by omega
        rw [← HALL.out] at hL
        subst hL
        have HOwn := Lib.hid hown
        have HB := Lib.hid hB
        clear hown hB
        go_wp2
        go_ret
        exact ⟨_, rfl, HOwn.out, HB.out⟩

end Go.Proofs.YtfcdmkfbkkogbaaDoor.Bits
