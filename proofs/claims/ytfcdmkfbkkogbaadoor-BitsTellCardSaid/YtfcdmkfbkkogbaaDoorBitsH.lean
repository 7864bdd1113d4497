/- How many numbers a set has (Count); may. -/
import Derived.Test.YtfcdmkfbkkogbaaDoorBitsG
namespace Go.Proofs.YtfcdmkfbkkogbaaDoor.Bits
open Go Go.RowKit

def cntTo (f : Nat → Nat) : Nat → Nat
  | 0 => 0
  | k + 1 => cntTo f k + pcN 64 (f k)

theorem cntTo_le (f : Nat → Nat) : ∀ k, cntTo f k ≤ 64 * k
  | 0 => Nat.le_refl _
  | k + 1 => by have := cntTo_le f k; have := pcN_le 64 (f k); unfold cntTo; omega
theorem cntTo_stop (f : Nat → Nat) (n : Nat) (h : ∀ i, n ≤ i → f i = 0) : ∀ d, cntTo f (n + d) = cntTo f n
  | 0 => rfl
  | d + 1 => by rw [← Nat.add_assoc, cntTo, cntTo_stop f n h d, h _ (by omega), pcN_zero]; rfl
/-- How many numbers. -/
def count (l : List Nat) : Nat := cntTo (wd l) 1024
theorem count_tl (l : List Nat) : cntTo (wd l) (tl l) = count l := by
  have h := (tl_le l).2
  unfold count
  rw [show 1024 = tl l + (1024 - tl l) by omega, cntTo_stop (wd l) (tl l) (fun i hi => wd_ge hi)]
theorem count_congr {l l' : List Nat} (h : ∀ i, wd l i = wd l' i) : count l = count l' := by
  unfold count
  rw [show wd l = wd l' from funext h]

set_option maxRecDepth 100000 in
theorem count_any {w : World} {v : Value} {l : List Nat} (H : Words w v l) : Calls Tryd.prog 46 #[v] w fun e w' => e = .returned (.int .i64 (count l : Int)) ∧ w = w' := by
  have HT := Lib.hid (tidyLong_any H)
  have htl := tl_le l
  have HC := Lib.hid (count_tl l)
  obtain ⟨k, hk⟩ : ∃ k, k = tl l := ⟨_, rfl⟩
  rw [← hk] at HT htl HC
  obtain ⟨htl1, htl2⟩ := htl
  by_cases hk0 : k = 0
  · subst hk0
    obtain ⟨hshape, -, -⟩ := H
    have hz : count l = 0 := by have := HC.out; rw [← this]; rfl
    rw [hz]
    clear hz hk
    rcases hshape with ⟨rfl, rfl⟩ | ⟨x, cp, rfl, rfl⟩ | ⟨bo, oo, co, rfl, hne, hbc, hcm, -⟩
    all_goals
      go_enter Tryd.func46, Tryd.ntmps46
      go_wp2_with fail
      refine HT.out.mono ?_
      rintro e w1 ⟨rfl, rfl⟩
      go_wp2_with fail
      go_loopw [3, 11] (fun n i wx => n = .int .i64 0 ∧ i = .int .i64 0 ∧ w = wx) (fun _ _ _ => 0)
      case atStart => exact ⟨rfl, rfl, rfl⟩
      case round =>
        obtain ⟨rfl, rfl, rfl⟩ := hrel
        go_wp2
        go_ret
        exact ⟨rfl, rfl⟩
  · obtain ⟨b, off, cap, rfl, hcap, hcm, hb, hc⟩ := H.at (by omega)
    have HCC := Lib.hid hc
    have HLT := Lib.hid H.2.1
    have HKK := Lib.hid hk
    unfold maxLen at hcm
    clear hc H hk hk0
    go_enter Tryd.func46, Tryd.ntmps46
    go_wp2_with fail
    refine HT.out.mono ?_
    rintro e w1 ⟨rfl, rfl⟩
    go_wp2_with fail
    go_loopw [3, 11] (fun n i wx => ∃ j : Nat, j ≤ k ∧ n = .int .i64 (cntTo (wd l) j) ∧ i = .int .i64 j ∧ w = wx) (fun _ i _ => k - (intOf i).toNat)
    case atStart => exact ⟨0, Nat.zero_le _, rfl, rfl, rfl⟩
    case round =>
      obtain ⟨j, hj, rfl, rfl, rfl⟩ := hrel
      have hcb := cntTo_le (wd l) j
      by_cases hlt : j < k
      · obtain ⟨x, hx⟩ : ∃ x, l[j]? = some x := ⟨l[j], List.getElem?_eq_getElem _⟩
        have hcell := HCC.out j x hx
        have hxl := HLT.out x (List.mem_of_getElem? hx)
        have hw : wd l j = x := by rw [wd_lt (by rw [← HKK.out]; exact hlt), List.getD_eq_getElem?_getD, hx]; rfl
        have hnext : cntTo (wd l) (j + 1) = cntTo (wd l) j + pcN 64 x := by rw [cntTo, hw]
        have hpl := pcN_le 64 x
        have HO := Lib.hid (ones_any x hxl w)
        have HN := Lib.hid hnext
        obtain ⟨c, hcc⟩ : ∃ c, c = cntTo (wd l) j := ⟨_, rfl⟩
        obtain ⟨p, hpp⟩ : ∃ p, p = pcN 64 x := ⟨_, rfl⟩
        rw [← hcc] at hcb HN ⊢
        rw [← hpp] at hpl HN HO
        clear hx hxl hw hnext hcc hpp
        go_wp2_with fail
        refine HO.out.mono ?_
        rintro e w1 ⟨rfl, rfl⟩
        go_wp2
        go_roundw
        case rel => exact ⟨j + 1, by omega, by rw [HN.out]; go_num, by go_num, trivial⟩
        case measure => simp [intOf]; omega
      · obtain rfl : j = k := by omega
        have hfin : cntTo (wd l) j = count l := HC.out
        rw [hfin]
        clear hfin hcb
        go_wp2
        go_ret
        exact ⟨rfl, rfl⟩

theorem may_yes (k : Nat) (h : k < 65536) (w : World) : Calls Tryd.prog 69 #[.int .i64 (k : Int)] w fun e w' => e = .returned (.bool true) ∧ w = w' := by
  have hd : decide ((k : Int) < 65536) = true := decide_eq_true (by omega)
  clear h
  go_enter Tryd.func69, Tryd.ntmps69
  go_wp2
  go_ret
  rw [← hd]
  exact ⟨rfl, rfl⟩
theorem may_no (n : Int) (h : n < 0 ∨ 65535 < n) (w : World) : Calls Tryd.prog 69 #[.int .i64 n] w fun e w' => e = .returned (.bool false) ∧ w = w' := by
  rcases h with h | h
  · go_enter Tryd.func69, Tryd.ntmps69
    go_wp2
    go_ret
    exact ⟨rfl, rfl⟩
  · have hd : decide (n < 65536) = false := decide_eq_false (by omega)
    have h0 : 0 ≤ n := by omega
    clear h
    go_enter Tryd.func69, Tryd.ntmps69
    go_wp2
    go_ret
    rw [← hd]
    exact ⟨rfl, rfl⟩

end Go.Proofs.YtfcdmkfbkkogbaaDoor.Bits
