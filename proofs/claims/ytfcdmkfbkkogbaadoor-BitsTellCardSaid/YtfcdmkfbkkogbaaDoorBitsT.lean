/- The next number, walked. -/
import Derived.Test.YtfcdmkfbkkogbaaDoorBitsS
namespace Go.Proofs.YtfcdmkfbkkogbaaDoor.Bits
open Go Go.RowKit

def hd : List Nat → Int
  | [] => -1
  | m :: _ => (m : Int)
/-- The first number of a set from one on. -/
def nextI (l : List Nat) (k : Nat) : Int := hd (filt (mem l) (65536 - k) k)

/-- The bits from one on. -/
def upFrom (x r : Nat) : Nat := x / 2 ^ r * 2 ^ r % 18446744073709551616

theorem upFrom_bit (x r b : Nat) (hb : b < 64) : (upFrom x r).testBit b = (decide (r ≤ b) && x.testBit b) := by
  unfold upFrom
  rw [show (18446744073709551616 : Nat) = 2 ^ 64 by decide +kernel, Nat.testBit_mod_two_pow, decide_eq_true hb, Bool.true_and, Nat.testBit_mul_two_pow]
  by_cases h : r ≤ b
  · rw [decide_eq_true h, Bool.true_and, Bool.true_and, Nat.testBit_div_two_pow, show b - r + r = b by omega]
  · rw [decide_eq_false h]; rfl

/-- What is left of a word, and the words behind it. -/
theorem filt_from (l : List Nat) (k : Nat) (hk : k < 65536) : filt (mem l) (65536 - k) k = (filt (upFrom (wd l (k / 64)) (k % 64)).testBit 64 0).map (64 * (k / 64) + ·) ++ filt (mem l) (65536 - 64 * (k / 64 + 1)) (64 * (k / 64 + 1)) := by
  obtain ⟨i, hi⟩ : ∃ i, i = k / 64 := ⟨_, rfl⟩
  obtain ⟨r, hr⟩ : ∃ r, r = k % 64 := ⟨_, rfl⟩
  rw [← hi, ← hr]
  have h1 : filt (mem l) (65536 - k) k = filt (mem l) (64 - r) k ++ filt (mem l) (65536 - 64 * (i + 1)) (64 * (i + 1)) := by
    rw [show 65536 - k = (64 - r) + (65536 - 64 * (i + 1)) by omega, filt_append, show k + (64 - r) = 64 * (i + 1) by omega]
  rw [h1]
  congr 1
  have h2 := filt_shift (fun n => decide (k ≤ n) && mem l n) (64 * i) 64 0
  rw [Nat.add_zero] at h2
  have h3 : filt (fun n => decide (k ≤ n) && mem l n) 64 (64 * i) = filt (mem l) (64 - r) k := by
    have e := filt_append (fun n => decide (k ≤ n) && mem l n) r (64 - r) (64 * i)
    rw [show r + (64 - r) = 64 by omega, filt_none (p := fun n => decide (k ≤ n) && mem l n) r (64 * i) (fun b h1 h2 => by show (decide (k ≤ b) && mem l b) = false; rw [decide_eq_false (by omega)]; rfl), List.nil_append, show 64 * i + r = k by omega] at e
    rw [e]
    exact filt_congr _ _ fun b h1 h2 => by show (decide (k ≤ b) && mem l b) = mem l b; rw [decide_eq_true h1, Bool.true_and]
  rw [← h3, h2]
  congr 1
  refine filt_congr 64 0 fun b _ hb => ?_
  rw [upFrom_bit _ _ _ (by omega), mem_word _ _ _ (by omega), decide_eq_decide.2 (show k ≤ 64 * i + b ↔ r ≤ b by omega)]

theorem next_none {l : List Nat} {k : Nat} (h : 64 * tl l ≤ k) : nextI l k = -1 := by
  unfold nextI
  rw [filt_none _ _ fun i h1 _ => mem_high (by omega)]
  rfl

set_option maxRecDepth 100000 in
theorem next_nat {w : World} {v : Value} {l : List Nat} (H : Words w v l) (T : Tab w) (k : Nat) (hk2 : k < 9223372036854775808) :
    Calls Tryd.prog 47 #[v, .int .i64 (k : Int)] w fun e w' => e = .returned (.int .i64 (nextI l k)) ∧ w = w' := by
  have HT := Lib.hid (tidyLong_any H)
  have htl := tl_le l
  have HN := Lib.hid (fun h : 64 * tl l ≤ k => next_none h)
  obtain ⟨m, hm⟩ : ∃ m, m = tl l := ⟨_, rfl⟩
  rw [← hm] at HT htl HN
  obtain ⟨htl1, htl2⟩ := htl
  by_cases hkm : m ≤ k / 64
  · have hnone : nextI l k = -1 := HN.out (by omega)
    rw [hnone]
    have g1 : (m : Int) ≤ (k : Int) / 64 := by omega
    have g2 : decide ((m : Int) ≤ (k : Int) / 64) = true := decide_eq_true g1
    clear hnone hkm hm H T HN
    go_enter Tryd.func47, Tryd.ntmps47
    go_wp2_with fail
    refine HT.out.mono ?_
    rintro e w1 ⟨rfl, rfl⟩
    go_wp2
    go_ret
    exact ⟨rfl, rfl⟩
  · obtain ⟨b, off, cap, rfl, hcap, hcm, hb, hc⟩ := H.at (by omega)
    have HCC := Lib.hid hc
    have HLT := Lib.hid H.2.1
    have HTAB := Lib.hid T
    have HM := Lib.hid hm
    have hil : k / 64 < l.length := by omega
    obtain ⟨x, hx⟩ : ∃ x, l[k / 64]? = some x := ⟨l[k / 64], List.getElem?_eq_getElem _⟩
    have c1 : w.cell? ⟨b, off + k / 64, none⟩ = some (wordV x) := hc _ x hx
    have g1 : ¬ (m : Int) ≤ (k : Int) / 64 := by omega
    have g2 : decide ((m : Int) ≤ (k : Int) / 64) = false := decide_eq_false g1
    have hup : IntKind.u64.wrap ((x : Int) / 2 ^ (k % 64) * 2 ^ (k % 64)) = ((upFrom x (k % 64) : Nat) : Int) := by
      rw [IntKind.wrap_u64]
      unfold upFrom
      rw [Int.natCast_emod, Int.natCast_mul, Int.natCast_ediv, Int.natCast_pow]
      rfl
    have hul : upFrom x (k % 64) < 18446744073709551616 := Nat.mod_lt _ (by omega)
    have hstart : nextI l k = hd ((filt (upFrom x (k % 64)).testBit 64 0).map (64 * (k / 64) + ·) ++ filt (mem l) (65536 - 64 * (k / 64 + 1)) (64 * (k / 64 + 1))) := by
      have hw : wd l (k / 64) = x := by rw [wd_lt (by omega), List.getD_eq_getElem?_getD, hx]; rfl
      unfold nextI
      rw [filt_from l k (by omega), hw]
    have HUP := Lib.hid hup
    have HUL := Lib.hid hul
    have HSTART := Lib.hid hstart
    clear hc hm H T HN hup hul hstart hx
    go_enter Tryd.func47, Tryd.ntmps47
    go_wp2_with fail
    refine HT.out.mono ?_
    rintro e w1 ⟨rfl, rfl⟩
    go_wp2_with fail
    go_loopw [6, 7] (fun y i wx => w = wx ∧ ∃ (j z : Nat), i = .int .i64 j ∧ j < m ∧ y = wordV z ∧ z < 18446744073709551616 ∧ nextI l k = hd ((filt z.testBit 64 0).map (64 * j + ·) ++ filt (mem l) (65536 - 64 * (j + 1)) (64 * (j + 1)))) (fun _ i _ => m - (intOf i).toNat)
    case atStart => exact ⟨rfl, k / 64, upFrom x (k % 64), by go_num, by omega, by show Value.int .u64 _ = Value.int .u64 _; rw [HUP.out], HUL.out, HSTART.out⟩
    case round =>
      obtain ⟨rfl, j, z, rfl, hj, rfl, hz, hnext⟩ := hrel
      by_cases hz0 : z = 0
      · subst hz0
        rw [filt_zero, List.map_nil, List.nil_append] at hnext
        by_cases hjm : m ≤ j + 1
        · rw [filt_none _ _ fun i h1 _ => mem_high (by rw [← HM.out]; omega)] at hnext
          have HNX : Hid (nextI l k = -1) := hnext
          have g3 : (m : Int) ≤ (j : Int) + 1 := by omega
          have g4 : decide ((m : Int) ≤ (j : Int) + 1) = true := decide_eq_true g3
          clear hnext hjm
          go_wp2
          go_ret
          exact ⟨by rw [HNX.out]; rfl, rfl⟩
        · obtain ⟨x2, hx2⟩ : ∃ x, l[j + 1]? = some x := ⟨l[j + 1], List.getElem?_eq_getElem _⟩
          have c2 : w.cell? ⟨b, off + (j + 1), none⟩ = some (wordV x2) := HCC.out _ x2 hx2
          have hwj : wd l (j + 1) = x2 := by rw [wd_lt (by rw [← HM.out]; omega), List.getD_eq_getElem?_getD, hx2]; rfl
          have hx2l := HLT.out x2 (List.mem_of_getElem? hx2)
          have HX2L := Lib.hid hx2l
          have hN2 : nextI l k = hd ((filt x2.testBit 64 0).map (64 * (j + 1) + ·) ++ filt (mem l) (65536 - 64 * (j + 1 + 1)) (64 * (j + 1 + 1))) := by
            rw [hnext, ← hwj, ← filt_word, show 65536 - 64 * (j + 1) = 64 + (65536 - 64 * (j + 1 + 1)) by omega, filt_append, show 64 * (j + 1) + 64 = 64 * (j + 1 + 1) by omega]
          have HN2 := Lib.hid hN2
          have g3 : ¬ (m : Int) ≤ (j : Int) + 1 := by omega
          have g4 : decide ((m : Int) ≤ (j : Int) + 1) = false := decide_eq_false g3
          clear hnext hx2 hwj hN2 hx2l
          go_wp2
          go_roundw
          case rel => exact ⟨trivial, j + 1, x2, by go_num, by omega, rfl, HX2L.out, HN2.out⟩
          case measure => simp [intOf]; omega
      · rw [filt_low hz0 hz] at hnext
        have htz := (low_bit hz0 hz).1
        have HTZ := Lib.hid (tz_any hz hz0 HTAB.out)
        obtain ⟨t, ht⟩ : ∃ t, t = Lib.ctz 64 z := ⟨_, rfl⟩
        rw [← ht] at hnext htz HTZ
        have hfin : nextI l k = (j : Int) * 64 + (t : Int) := by
          rw [hnext]
          show ((64 * j + t : Nat) : Int) = _
          omega
        have HFIN := Lib.hid hfin
        have hzn : ((z : Int) != 0) = true := by simp; omega
        clear hfin hnext ht hz
        go_wp2_with fail
        refine HTZ.out.mono ?_
        rintro e w1 ⟨rfl, rfl⟩
        go_wp2
        go_ret
        exact ⟨by rw [HFIN.out]; rfl, rfl⟩

set_option maxRecDepth 100000 in
theorem next_neg {w : World} {v : Value} {l : List Nat} (H : Words w v l) (T : Tab w) (n : Int) (hn : n < 0) :
    Calls Tryd.prog 47 #[v, .int .i64 n] w fun e w' => e = .returned (.int .i64 (nextI l 0)) ∧ w = w' := by
  have HT := Lib.hid (tidyLong_any H)
  have htl := tl_le l
  have HN := Lib.hid (fun h : 64 * tl l ≤ 0 => next_none h)
  obtain ⟨m, hm⟩ : ∃ m, m = tl l := ⟨_, rfl⟩
  rw [← hm] at HT htl HN
  obtain ⟨htl1, htl2⟩ := htl
  by_cases hkm : m ≤ 0
  · have hnone : nextI l 0 = -1 := HN.out (by omega)
    rw [hnone]
    have g1 : (m : Int) ≤ (0 : Int) := by omega
    have g2 : decide ((m : Int) ≤ (0 : Int)) = true := decide_eq_true g1
    clear hnone hkm hm H T HN
    go_enter Tryd.func47, Tryd.ntmps47
    go_wp2_with fail
    refine HT.out.mono ?_
    rintro e w1 ⟨rfl, rfl⟩
    go_wp2
    go_ret
    exact ⟨rfl, rfl⟩
  · obtain ⟨b, off, cap, rfl, hcap, hcm, hb, hc⟩ := H.at (by omega)
    have HCC := Lib.hid hc
    have HLT := Lib.hid H.2.1
    have HTAB := Lib.hid T
    have HM := Lib.hid hm
    have hil : 0 < l.length := by omega
    obtain ⟨x, hx⟩ : ∃ x, l[0]? = some x := ⟨l[0], List.getElem?_eq_getElem _⟩
    have c1 : w.cell? ⟨b, off, none⟩ = some (wordV x) := hc _ x hx
    have g1 : ¬ (m : Int) ≤ (0 : Int) := by omega
    have g2 : decide ((m : Int) ≤ (0 : Int)) = false := decide_eq_false g1
    have hxl := H.2.1 x (List.mem_of_getElem? hx)
    have hstart : nextI l 0 = hd ((filt x.testBit 64 0).map (64 * 0 + ·) ++ filt (mem l) (65536 - 64 * (0 + 1)) (64 * (0 + 1))) := by
      have hw : wd l 0 = x := by rw [wd_lt (by omega), List.getD_eq_getElem?_getD, hx]; rfl
      unfold nextI
      rw [← hw, ← filt_word, show 65536 - 0 = 64 + (65536 - 64 * (0 + 1)) by omega, filt_append]
    have HXL := Lib.hid hxl
    have HSTART := Lib.hid hstart
    clear hc hm H T HN hxl hstart hx
    go_enter Tryd.func47, Tryd.ntmps47
    go_wp2_with fail
    refine HT.out.mono ?_
    rintro e w1 ⟨rfl, rfl⟩
    go_wp2_with fail
    go_loopw [6, 7] (fun y i wx => w = wx ∧ ∃ (j z : Nat), i = .int .i64 j ∧ j < m ∧ y = wordV z ∧ z < 18446744073709551616 ∧ nextI l 0 = hd ((filt z.testBit 64 0).map (64 * j + ·) ++ filt (mem l) (65536 - 64 * (j + 1)) (64 * (j + 1)))) (fun _ i _ => m - (intOf i).toNat)
    case atStart => exact ⟨rfl, 0, x, by go_num, by omega, by show Value.int .u64 _ = Value.int .u64 _; rw [wrapU x HXL.out], HXL.out, HSTART.out⟩
    case round =>
      obtain ⟨rfl, j, z, rfl, hj, rfl, hz, hnext⟩ := hrel
      by_cases hz0 : z = 0
      · subst hz0
        rw [filt_zero, List.map_nil, List.nil_append] at hnext
        by_cases hjm : m ≤ j + 1
        · rw [filt_none _ _ fun i h1 _ => mem_high (by rw [← HM.out]; omega)] at hnext
          have HNX : Hid (nextI l 0 = -1) := hnext
          have g3 : (m : Int) ≤ (j : Int) + 1 := by omega
          have g4 : decide ((m : Int) ≤ (j : Int) + 1) = true := decide_eq_true g3
          clear hnext hjm
          go_wp2
          go_ret
          exact ⟨by rw [HNX.out]; rfl, rfl⟩
        · obtain ⟨x2, hx2⟩ : ∃ x, l[j + 1]? = some x := ⟨l[j + 1], List.getElem?_eq_getElem _⟩
          have c2 : w.cell? ⟨b, off + (j + 1), none⟩ = some (wordV x2) := HCC.out _ x2 hx2
          have hwj : wd l (j + 1) = x2 := by rw [wd_lt (by rw [← HM.out]; omega), List.getD_eq_getElem?_getD, hx2]; rfl
          have hx2l := HLT.out x2 (List.mem_of_getElem? hx2)
          have HX2L := Lib.hid hx2l
          have hN2 : nextI l 0 = hd ((filt x2.testBit 64 0).map (64 * (j + 1) + ·) ++ filt (mem l) (65536 - 64 * (j + 1 + 1)) (64 * (j + 1 + 1))) := by
            rw [hnext, ← hwj, ← filt_word, show 65536 - 64 * (j + 1) = 64 + (65536 - 64 * (j + 1 + 1)) by omega, filt_append, show 64 * (j + 1) + 64 = 64 * (j + 1 + 1) by omega]
          have HN2 := Lib.hid hN2
          have g3 : ¬ (m : Int) ≤ (j : Int) + 1 := by omega
          have g4 : decide ((m : Int) ≤ (j : Int) + 1) = false := decide_eq_false g3
          clear hnext hx2 hwj hN2 hx2l
          go_wp2
          go_roundw
          case rel => exact ⟨trivial, j + 1, x2, by go_num, by omega, rfl, HX2L.out, HN2.out⟩
          case measure => simp [intOf]; omega
      · rw [filt_low hz0 hz] at hnext
        have htz := (low_bit hz0 hz).1
        have HTZ := Lib.hid (tz_any hz hz0 HTAB.out)
        obtain ⟨t, ht⟩ : ∃ t, t = Lib.ctz 64 z := ⟨_, rfl⟩
        rw [← ht] at hnext htz HTZ
        have hfin : nextI l 0 = (j : Int) * 64 + (t : Int) := by
          rw [hnext]
          show ((64 * j + t : Nat) : Int) = _
          omega
        have HFIN := Lib.hid hfin
        have hzn : ((z : Int) != 0) = true := by simp; omega
        clear hfin hnext ht hz
        go_wp2_with fail
        refine HTZ.out.mono ?_
        rintro e w1 ⟨rfl, rfl⟩
        go_wp2
        go_ret
        exact ⟨by rw [HFIN.out]; rfl, rfl⟩

theorem next_any {w : World} {v : Value} {l : List Nat} (H : Words w v l) (T : Tab w) (n : Int) (hn : n < 9223372036854775808) :
    Calls Tryd.prog 47 #[v, .int .i64 n] w fun e w' => e = .returned (.int .i64 (nextI l n.toNat)) ∧ w = w' := by
  by_cases h : n < 0
  · rw [show n.toNat = 0 by omega]
    exact next_neg H T n h
  · obtain ⟨k, rfl⟩ := Int.eq_ofNat_of_zero_le (show 0 ≤ n by omega)
    exact next_nat H T k (by omega)

end Go.Proofs.YtfcdmkfbkkogbaaDoor.Bits
