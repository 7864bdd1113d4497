/- Has for any number; the document's Has and List. -/
import Derived.Test.YtfcdmkfbkkogbaaDoorBitsY
import Derived.Test.YtfcdmkfbkkogbaaDoorBitsT
namespace Go.Proofs.YtfcdmkfbkkogbaaDoor.Bits
open Go Go.RowKit

theorem and_test (q : Nat) (hq : q < 18446744073709551616) : (bits .and .u64 (q : Int) 1 == 1) = (q % 2 == 1) := by
  have : bits .and .u64 (q : Int) 1 = ((q &&& 1 : Nat) : Int) := by simpa using u64_and_nat q 1 hq (by decide)
  rw [this, Nat.and_one_is_mod]
  by_cases h : q % 2 = 1
  · rw [h]; rfl
  · rw [show q % 2 = 0 by omega]; rfl
theorem and_bit (x i : Nat) (hx : x < 18446744073709551616) : (bits .and .u64 ((x : Int) / 2 ^ i) 1 == 1) = x.testBit i := by
  rw [Nat.testBit_eq_decide_div_mod_eq]
  have e0 : (x : Int) / 2 ^ i = ((x / 2 ^ i : Nat) : Int) := by
    rw [Int.natCast_ediv, Int.natCast_pow]; rfl
  have hq : x / 2 ^ i < 18446744073709551616 := Nat.lt_of_le_of_lt (Nat.div_le_self _ _) hx
  rw [e0, and_test _ hq]
  generalize x / 2 ^ i = q
  by_cases h : q % 2 = 1
  · rw [h]; rfl
  · rw [show q % 2 = 0 by omega]; rfl

/-- Whether any number is in a set. -/
def memI (l : List Nat) (n : Int) : Bool := decide (0 ≤ n) && mem l n.toNat

theorem memI_out {l : List Nat} {n : Int} (h : n < 0 ∨ 65535 < n) : memI l n = false := by
  unfold memI
  rcases h with h | h
  · rw [decide_eq_false (by omega)]; rfl
  · cases hm : mem l n.toNat with
    | false => simp
    | true => have := mem_lt hm; omega
theorem memI_in {l : List Nat} (k : Nat) : memI l (k : Int) = mem l k := by
  unfold memI
  rw [decide_eq_true (by omega)]
  simp

set_option maxRecDepth 100000 in
theorem has_any {w : World} {v : Value} {l : List Nat} (H : Words w v l) (n : Int) :
    Calls Tryd.prog 44 #[v, .int .i64 n] w fun e w' => e = .returned (.bool (memI l n)) ∧ w = w' := by
  by_cases hr : n < 0 ∨ 65535 < n
  · rw [memI_out hr]
    have HM := Lib.hid (may_no n hr w)
    clear H hr
    go_enter Tryd.func44, Tryd.ntmps44
    go_wp2_with fail
    refine HM.out.mono ?_
    rintro e w1 ⟨rfl, rfl⟩
    go_wp2
    go_ret
    exact ⟨rfl, rfl⟩
  · obtain ⟨k, rfl⟩ := Int.eq_ofNat_of_zero_le (show 0 ≤ n by omega)
    have hk : k < 65536 := by omega
    rw [memI_in]
    have HM := Lib.hid (may_yes k hk w)
    have HL := H.len
    clear hr
    by_cases hi : k / 64 < l.length
    · obtain ⟨b, off, cap, rfl, hcap, hcm, hb, hc⟩ := H.at (by omega)
      obtain ⟨x, hx⟩ : ∃ x, l[k / 64]? = some x := ⟨l[k / 64], List.getElem?_eq_getElem _⟩
      have c1 : w.cell? ⟨b, off + k / 64, none⟩ = some (wordV x) := hc _ x hx
      have hm : mem l k = x.testBit (k % 64) := by
        unfold mem wd
        rw [if_pos (by omega), List.getD_eq_getElem?_getD, hx]; rfl
      have hxl := H.2.1 x (List.mem_of_getElem? hx)
      rw [hm]
      have hq := and_bit x (k % 64) hxl
      have g4 : (k : Int) / 64 < (l.length : Int) := by omega
      have g5 : decide ((k : Int) / 64 < (l.length : Int)) = true := decide_eq_true g4
      clear H hc hx hm
      go_enter Tryd.func44, Tryd.ntmps44
      go_wp2_with fail
      refine HM.out.mono ?_
      rintro e w1 ⟨rfl, rfl⟩
      go_wp2
      go_ret
      exact ⟨rfl, rfl⟩
    · have hm : mem l k = false := by
        unfold mem wd
        rw [if_pos (by omega), getD_ge (by omega), Nat.zero_testBit]
      have g4 : ¬ (k : Int) / 64 < (l.length : Int) := by omega
      have g5 : decide ((k : Int) / 64 < (l.length : Int)) = false := decide_eq_false g4
      rw [hm]
      clear H hm
      go_enter Tryd.func44, Tryd.ntmps44
      go_wp2_with fail
      refine HM.out.mono ?_
      rintro e w1 ⟨rfl, rfl⟩
      go_wp2
      go_ret
      exact ⟨rfl, rfl⟩

set_option maxRecDepth 100000 in
theorem ref_any {w : World} {v : Value} {l : List Nat} (H : Words w v l) (n : Int) :
    Calls Tryd.prog 45 #[v, .int .i64 n] w fun e w' => e = .returned (.bool (memI l n)) ∧ w = w' := by
  by_cases hr : n < 0 ∨ 65535 < n
  · rw [memI_out hr]
    clear H
    by_cases h0 : n < 0
    · have g1 : ¬ (0 : Int) ≤ n := by omega
      have g2 : decide ((0 : Int) ≤ n) = false := decide_eq_false g1
      clear hr
      go_enter Tryd.func45, Tryd.ntmps45
      go_wp2
      go_ret
      exact ⟨rfl, rfl⟩
    · have g1 : (0 : Int) ≤ n := by omega
      have g2 : decide ((0 : Int) ≤ n) = true := decide_eq_true g1
      have g3 : ¬ n < 65536 := by omega
      have g4 : decide (n < 65536) = false := decide_eq_false g3
      clear hr h0
      go_enter Tryd.func45, Tryd.ntmps45
      go_wp2
      go_ret
      exact ⟨rfl, rfl⟩
  · obtain ⟨k, rfl⟩ := Int.eq_ofNat_of_zero_le (show 0 ≤ n by omega)
    rw [memI_in]
    exact has_ref H k (by omega)

set_option maxRecDepth 100000 in
theorem list_ref {w : World} {v : Value} {l : List Nat} (H : Words w v l) :
    Calls Tryd.prog 39 #[v] w fun e w' => ∃ v', e = .returned v' ∧ w'.ownsRow w.heap.size 3 1 v' (allOf l).length (ints (allOf l)) ∧ Below w.heap.size w w' := by
  obtain ⟨i0, hi, hz0, hz1, hz2⟩ := info_parts info3
  obtain ⟨S, hS⟩ : ∃ S, S = w.heap.size := ⟨_, rfl⟩
  have HLL := H.len22
  have HH := Lib.hid H
  rw [← hS]
  have hsz : S ≤ w.heap.size := by omega
  have HS := Lib.hid hS
  obtain ⟨A, hA⟩ : ∃ A, A = allOf l := ⟨_, rfl⟩
  have HA := Lib.hid hA
  rw [← hA]
  clear H hS hA
  go_enter Tryd.func39, Tryd.ntmps39
  go_wp2_with fail
  go_loopw [3, 4] (fun v i wx => ∃ (k : Nat) (L : List Nat), k ≤ 65536 ∧ i = .int .i64 k ∧ L = filt (mem l) k 0 ∧ L.length ≤ k ∧ wx.ownsRow S 3 1 v L.length (ints L) ∧ Below S w wx) (fun _ i _ => 65536 - (intOf i).toNat)
  case atStart => exact ⟨0, [], by omega, rfl, rfl, Nat.le_refl _, ⟨rfl, .inl ⟨rfl, rfl⟩⟩, Below.refl _ _⟩
  case round =>
    obtain ⟨k, L, hk, rfl, hL, hLk, hown, hB⟩ := hrel
    have fin : (k = 65536 ∨ l.length ≤ k / 64) → Hid (L = A) := fun h => by
      rw [HA.out, hL]
      rcases h with rfl | h
      · exact rfl
      · have h1 := (tl_le l).1
        by_cases hk2 : 64 * tl l ≤ k
        · have := (tl_le l).2
          unfold allOf
          have e := filt_append (mem l) k (65536 - k) 0
          rw [show k + (65536 - k) = 65536 by omega] at e
          rw [e, filt_none (p := mem l) (65536 - k) (0 + k) fun i h1 _ => mem_high (by omega), List.append_nil]
          exact rfl
        · omega
    by_cases hlt : k < 65536
    · have g2 : (k : Int) < 65536 := by omega
      have g3 : decide ((k : Int) < 65536) = true := decide_eq_true g2
      by_cases hi64 : k / 64 < l.length
      · have g4 : (k : Int) / 64 < (l.length : Int) := by omega
        have g5 : decide ((k : Int) / 64 < (l.length : Int)) = true := decide_eq_true g4
        have hszr : S ≤ wr.heap.size := Nat.le_trans hsz hB.size
        have HR := Lib.hid (has_ref (HH.out.stay (by rw [← HS.out]; exact hB)) k hlt)
        have HF := Lib.hid (filt_snoc (mem l) k)
        obtain ⟨m, hm⟩ : ∃ m, m = mem l k := ⟨_, rfl⟩
        rw [← hm] at HR HF
        rw [← hL] at HF
        have HBE := Lib.hid hB
        have HO := Lib.hid hown
        clear hm hL fin hB hown hi64
        go_wp2_with fail
        refine HR.out.mono ?_
        rintro e w1 ⟨rfl, rfl⟩
        cases m with
        | true =>
          have hown := HO.out
          go_wp2_with (at_builtin; refine wpList_append_own _ rfl _ _ 51 rfl S 3 i0 (.int .i64 0) 1 8 Tryd.underlying51 hi hz0 hz1 hz2 rfl (by decide) _ _ _ rfl (hown.alloc _) ⟨wr.heap.size, 0, none⟩ 1 1 [.int .i64 (k : Int)] rfl rfl ?c1 ?c2 ?c3 ?c4 ?c5 ?_)
          case c1 => intro j u hj; cases j <;> simp at hj; subst hj; simp [Addr.add]
          case c2 => intro u hu; simp at hu; subst hu; rfl
          case c3 => unfold maxLen; omega
          case c4 => omega
          case c5 => simp; omega
          intro v' w2 hown' hgrow _
          have hB2 : Below S w w2 := ((HBE.out.alloc hszr _).grown hgrow (by simp; omega) fun k hk => (hown.lt k hk).1)
          have hown2 : w2.ownsRow S 3 1 v' (L ++ [k]).length (ints (L ++ [k])) := by
            rw [ints_append, List.length_append]
            exact hown'
          have HO2 := Lib.hid hown2
          have HB2 := Lib.hid hB2
          clear hown' hgrow hB2 hown hown2
          go_wp2
          go_roundw
          case rel => exact ⟨k + 1, L ++ [k], by omega, by go_num, by rw [HF.out]; rfl, by rw [List.length_append]; simp; omega, HO2.out, HB2.out⟩
          case measure => simp [intOf]; omega
        | false =>
          go_wp2
          go_roundw
          case rel => exact ⟨k + 1, L, by omega, by go_num, by rw [HF.out]; rfl, by omega, HO.out, HBE.out⟩
          case measure => simp [intOf]; omega
      · have g4 : ¬ (k : Int) / 64 < (l.length : Int) := by omega
        have g5 : decide ((k : Int) / 64 < (l.length : Int)) = false := decide_eq_false g4
        have HFIN := fin (.inr (by omega))
        have HBE := Lib.hid hB
        have HO := Lib.hid hown
        clear hL fin hB hown hi64
        go_wp2
        go_ret
        exact ⟨_, rfl, by rw [← HFIN.out]; exact HO.out, HBE.out⟩
    · have g2 : ¬ (k : Int) < 65536 := by omega
      have g3 : decide ((k : Int) < 65536) = false := decide_eq_false g2
      have HFIN := fin (.inl (by omega))
      have HBE := Lib.hid hB
      have HO := Lib.hid hown
      clear hL fin hB hown
      go_wp2
      go_ret
      exact ⟨_, rfl, by rw [← HFIN.out]; exact HO.out, HBE.out⟩

end Go.Proofs.YtfcdmkfbkkogbaaDoor.Bits
