/- Count, Right; the document's Hex and Show. -/
import Derived.Test.YtfcdmkfbkkogbaaDoorUtfK
namespace Go.Proofs.YtfcdmkfbkkogbaaDoor.Utf
open Go Go.RowKit

set_option maxRecDepth 100000 in
theorem count_any (s : ByteArray) (W : World) (hs : s.size ≤ 1000000) : Calls Tryd.prog 17 #[.string s] W fun e w' => e = .returned (.int .i64 ((txt s).cnt : Int)) ∧ Below W.heap.size W w' := by
  have HC := Lib.hid (Tryd.utf8_RuneCountInString s W (by omega))
  rw [count_txt] at HC
  go_enter Tryd.func17, Tryd.ntmps17
  go_wp2_with fail
  refine HC.out.mono ?_
  rintro e w1 ⟨rfl, pos, rfl⟩
  go_wp2
  go_ret
  exact ⟨rfl, (Below.refl _ _).alloc (Nat.le_refl _) _⟩
def rightB (t : ByteArray) : Bool := Lib.validD t.data.toList
set_option maxRecDepth 100000 in
theorem right_any (s : ByteArray) (W : World) (T : U8 W) (hs : s.size ≤ 1000000) : Calls Tryd.prog 18 #[.string s] W fun e w' => e = .returned (.bool (rightB s)) ∧ Below W.heap.size W w' := by
  have HC := Lib.hid (Tryd.utf8_ValidString s W (by omega) T)
  have hR : Lib.validD s.data.toList = rightB s := rfl
  rw [hR] at HC
  clear T hR
  go_enter Tryd.func18, Tryd.ntmps18
  go_wp2_with fail
  refine HC.out.mono ?_
  rintro e w1 ⟨rfl, hb⟩
  have HB := Lib.hid hb
  clear hb
  go_wp2
  go_ret
  exact ⟨rfl, HB.out⟩

theorem bytes_append (a b : List UInt8) : ((⟨a.toArray⟩ : ByteArray) ++ ⟨b.toArray⟩) = ⟨(a ++ b).toArray⟩ := by
  apply ByteArray.ext
  apply Array.toList_inj.1
  simp
theorem digit_cut : ∀ k : Fin 16, ((⟨#[48, 49, 50, 51, 52, 53, 54, 55, 56, 57, 97, 98, 99, 100, 101, 102]⟩ : ByteArray).extract k.val (k.val + 1)).data.toList = [digH k.val] := by decide
theorem digit_cut' (k : Nat) (hk : k < 16) : ((⟨#[48, 49, 50, 51, 52, 53, 54, 55, 56, 57, 97, 98, 99, 100, 101, 102]⟩ : ByteArray).extract k (k + 1)) = ⟨[digH k].toArray⟩ := by
  apply ByteArray.ext
  apply Array.toList_inj.1
  exact digit_cut ⟨k, hk⟩

set_option maxRecDepth 100000 in
theorem hex_one (n : Nat) (hn : n < 16) (W : World) : Calls Tryd.prog 58 #[.int .i64 (n : Int)] W fun e w' => e = .returned (.string ⟨(hexL n).toArray⟩) ∧ W = w' := by
  have hh : hexL n = [digH n] := by unfold hexL; rw [if_pos hn]
  rw [hh, ← digit_cut' n hn]
  have hm : (n : Int) % 16 = (n : Int) := by omega
  have g1 : decide ((n : Int) < 16) = true := decide_eq_true (by omega)
  clear hh
  go_enter Tryd.func58, Tryd.ntmps58
  go_wp2_with fail
  go_ret
  exact ⟨rfl, rfl⟩
set_option maxRecDepth 100000 in
theorem hex_any (n : Nat) (hn : n < 256) (W : World) : Calls Tryd.prog 58 #[.int .i64 (n : Int)] W fun e w' => e = .returned (.string ⟨(hexL n).toArray⟩) ∧ W = w' := by
  by_cases h1 : n < 16
  · exact hex_one n h1 W
  obtain ⟨q, hq⟩ : ∃ q, n / 16 = q := ⟨_, rfl⟩
  obtain ⟨m, hm⟩ : ∃ m, n % 16 = m := ⟨_, rfl⟩
  have hh : hexL n = [digH q] ++ [digH m] := by unfold hexL; rw [if_neg h1, hq, hm]; rfl
  have hqq : hexL q = [digH q] := by unfold hexL; rw [if_pos (by omega)]
  rw [hh, ← bytes_append, ← digit_cut' m (by omega), ← hqq]
  have HH := Lib.hid (hex_one q (by omega) W)
  have hq' : (n : Int) / 16 = (q : Int) := by omega
  have hm' : (n : Int) % 16 = (m : Int) := by omega
  have hm16 : m < 16 := by omega
  have g1 : decide ((n : Int) < 16) = false := decide_eq_false (by omega)
  have hl := hexL_len q
  clear hh hqq hq hm
  go_enter Tryd.func58, Tryd.ntmps58
  go_wp2_with fail
  refine HH.out.mono ?_
  rintro e w1 ⟨rfl, rfl⟩
  go_wp2
  go_ret
  exact ⟨rfl, rfl⟩

theorem bytes_numb (l : List UInt8) (n : Nat) : ((⟨l.toArray⟩ : ByteArray) ++ ⟨#[92, 117, 123]⟩ ++ ⟨(hexL n).toArray⟩ ++ ⟨#[125]⟩) = ⟨(l ++ numb n).toArray⟩ := by
  apply ByteArray.ext
  apply Array.toList_inj.1
  simp [numb]

set_option maxRecDepth 100000 in
theorem refshow_any (s : ByteArray) (W : World) (hs : s.size ≤ 1000000) :
    Calls Tryd.prog 25 #[.string s] W fun e w' => e = .returned (.string ⟨(showL s.data.toList).toArray⟩) ∧ Below W.heap.size W w' := by
  obtain ⟨S, hS⟩ : ∃ S, S = W.heap.size := ⟨_, rfl⟩
  have HS := Lib.hid hS
  rw [← hS]
  have hsz : S ≤ W.heap.size := by omega
  obtain ⟨X, hX⟩ : ∃ X : ByteArray, ⟨(showL s.data.toList).toArray⟩ = X := ⟨_, rfl⟩
  rw [hX]
  have HX := Lib.hid hX
  clear hS hX
  go_enter Tryd.func25, Tryd.ntmps25
  go_wp2_with fail
  go_loopw [3, 4, 5, 6] (fun o i r n wx => ∃ (p : Nat) (l : List UInt8), p ≤ s.size ∧ o = .string ⟨l.toArray⟩ ∧ i = .int .i64 (p : Int) ∧ Shown s p l ∧ Below S W wx) (fun _ i _ _ _ => s.size - (intOf i).toNat)
  case atStart => exact ⟨0, [], by omega, rfl, rfl, ⟨by simp, by simp⟩, Below.refl _ _⟩
  case round =>
    obtain ⟨p, l, hp, rfl, rfl, hl, hB⟩ := hrel
    have HB := Lib.hid hB
    have hll := hl.2
    have hszr : S ≤ wr.heap.size := Nat.le_trans hsz hB.size
    by_cases hlt : p < s.size
    · have HST := Lib.hid (hl.step hlt)
      have HA := Lib.hid (refat_any s p wr hlt hs)
      have hdd := drop_decode s p
      have hb := drop_b s p
      have hpc : piece (s.data.toList.drop p) = if (txt s).r p = 65533 ∧ (txt s).w p = 1 then numb ((txt s).b p)
        else if (txt s).r p = 92 then [92, 92]
        else if (txt s).r p < 32 ∨ (txt s).r p = 127 then numb ((txt s).r p)
        else (s.data.toList.drop p).take ((txt s).w p) := by
          unfold piece
          rw [hdd, hb]; rfl
      have hok : (txt s).ok p = (decide ((txt s).r p ≠ 65533) || decide (1 < (txt s).w p)) := rfl
      have hw1 := (txt s).w_pos p
      have hw4 := (txt s).w_le p
      have hwn : p + (txt s).w p ≤ s.size := (txt s).w_in p hlt
      have hr := (txt s).r_lt p
      have hbl := (txt s).lt p
      have hx : ∀ h, ((s[p]'h)).toNat = (txt s).b p := fun h => by rw [get_bang]; rfl
      have hex := ext_take s p ((txt s).w p)
      unfold refR at HA
      obtain ⟨r, hr0⟩ : ∃ x, (txt s).r p = x := ⟨_, rfl⟩
      obtain ⟨w, hw0⟩ : ∃ x, (txt s).w p = x := ⟨_, rfl⟩
      obtain ⟨b, hb0⟩ : ∃ x, (txt s).b p = x := ⟨_, rfl⟩
      obtain ⟨o, ho0⟩ : ∃ x, (txt s).ok p = x := ⟨_, rfl⟩
      rw [hr0, hw0, hb0] at hpc
      rw [hr0, hw0, ho0] at hok HA
      rw [hw0] at hw1 hw4 hwn HST hex
      rw [hr0] at hr
      rw [hb0] at hbl hx
      have HEX := Lib.hid hex
      have hlx : (s.extract p (p + w)).size ≤ 4 := by rw [ext_size s hwn]; omega
      have hl64 : (p : Int) ≤ 1000000 := by omega
      clear hdd hb hr0 hw0 hb0 ho0 hB hl hex
      cases o with
      | false =>
        rw [if_pos (by
          have := hok.symm
          rw [Bool.or_eq_false_iff, decide_eq_false_iff_not, decide_eq_false_iff_not] at this
          omega)] at hpc
        rw [hpc] at HST
        have hhl := hexL_len b
        have HN := Lib.hid (fun w => hex_any b hbl w)
        have HA2 : Hid (Calls Tryd.prog 16 #[.string s, .int .i64 (p : Int)] wr fun e W' => e = .returned (.tuple #[.int .i64 (-1), .int .i64 (w : Int)]) ∧ Below wr.heap.size wr W') := HA.out
        clear hok hpc HA
        go_wp2_with fail
        refine HA2.out.mono ?_
        rintro e w1 ⟨rfl, hb⟩
        have HB1 := Lib.hid (HB.out.trans (hb.mono hszr))
        clear hb
        go_wp2_with fail
        refine (HN.out _).mono ?_
        rintro e w2 ⟨rfl, rfl⟩
        go_wp2
        go_roundw
        case rel => exact ⟨p + w, l ++ numb b, by omega, by rw [bytes_numb], by go_num, HST.out, HB1.out⟩
        case measure => simp [intOf]; omega
      | true =>
        rw [if_neg (by
          have := hok.symm
          rw [Bool.or_eq_true, decide_eq_true_eq, decide_eq_true_eq] at this
          omega)] at hpc
        have HA2 : Hid (Calls Tryd.prog 16 #[.string s, .int .i64 (p : Int)] wr fun e W' => e = .returned (.tuple #[.int .i64 (r : Int), .int .i64 (w : Int)]) ∧ Below wr.heap.size wr W') := HA.out
        clear hok HA
        have hr0 : ¬ (r : Int) < 0 := by omega
        have e0 : decide ((r : Int) < 0) = false := decide_eq_false hr0
        by_cases h92 : r = 92
        · have e1 : ((r : Int) == 92) = true := by rw [h92]; rfl
          rw [if_pos h92] at hpc
          rw [hpc] at HST
          clear h92 hpc
          go_wp2_with fail
          refine HA2.out.mono ?_
          rintro e w1 ⟨rfl, hb⟩
          have HB1 := Lib.hid (HB.out.trans (hb.mono hszr))
          clear hb
          go_wp2
          go_roundw
          case rel => exact ⟨p + w, l ++ [92, 92], by omega, by rw [← bytes_append], by go_num, HST.out, HB1.out⟩
          case measure => simp [intOf]; omega
        · have e1 : ((r : Int) == 92) = false := beq_eq_false_iff_ne.2 (by omega)
          rw [if_neg h92] at hpc
          by_cases hctl : r < 32 ∨ r = 127
          · rw [if_pos hctl] at hpc
            rw [hpc] at HST
            have hhl := hexL_len r
            have HN := Lib.hid (fun w => hex_any r (by omega) w)
            have hcase : decide ((32 : Int) ≤ (r : Int)) = false ∨ (decide ((32 : Int) ≤ (r : Int)) = true ∧ ((r : Int) != 127) = false) := by
              rcases hctl with h | h
              · exact .inl (decide_eq_false (by omega))
              · exact .inr ⟨decide_eq_true (by omega), by rw [h]; rfl⟩
            clear h92 hpc hctl
            rcases hcase with e2 | ⟨e2, e3⟩
            all_goals
              go_wp2_with fail
              refine HA2.out.mono ?_
              rintro e w1 ⟨rfl, hb⟩
              have HB1 := Lib.hid (HB.out.trans (hb.mono hszr))
              clear hb
              go_wp2_with fail
              refine (HN.out _).mono ?_
              rintro e w2 ⟨rfl, rfl⟩
              go_wp2
              go_roundw
              case rel => exact ⟨p + w, l ++ numb r, by omega, by rw [bytes_numb], by go_num, HST.out, HB1.out⟩
              case measure => simp [intOf]; omega
          · rw [if_neg hctl] at hpc
            rw [hpc] at HST
            have e2 : decide ((32 : Int) ≤ (r : Int)) = true := decide_eq_true (by omega)
            have e3 : ((r : Int) != 127) = true := by rw [bne_iff_ne]; omega
            clear h92 hpc hctl
            go_wp2_with fail
            refine HA2.out.mono ?_
            rintro e w1 ⟨rfl, hb⟩
            have HB1 := Lib.hid (HB.out.trans (hb.mono hszr))
            clear hb
            go_wp2
            go_roundw
            case rel => exact ⟨p + w, _, by omega, by rw [HEX.out, bytes_append], by go_num, HST.out, HB1.out⟩
            case measure => simp [intOf]; omega
    · obtain rfl : p = s.size := by omega
      have hD : Hid ((⟨l.toArray⟩ : ByteArray) = X) := by rw [hl.done, HX.out]; exact rfl
      clear hB hl hll
      go_wp2
      go_ret
      exact ⟨by rw [← hD.out]; rfl, HB.out⟩

end Go.Proofs.YtfcdmkfbkkogbaaDoor.Utf
