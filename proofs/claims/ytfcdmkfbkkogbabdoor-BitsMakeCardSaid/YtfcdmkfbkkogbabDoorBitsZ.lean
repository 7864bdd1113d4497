/- The law of what two sets make, walked. -/
import Derived.Test.YtfcdmkfbkkogbabDoorBitsY
namespace Go.Proofs.YtfcdmkfbkkogbabDoor.Bits
open Go Go.RowKit

set_option maxRecDepth 100000 in
theorem make_long {w : World} {va vb : Value} {a b : List Nat} (Ha : Words w va a) (Hb : Words w vb b) (h : 20 < a.length ∨ 20 < b.length) :
    Calls Tryd.prog 3 #[va, vb] w fun e w' => e = .returned (.bool true) ∧ Below w.heap.size w w' := by
  have HLA := Ha.len
  have HLB := Hb.len
  clear Ha Hb
  by_cases ha : 20 < a.length
  · have h1 : (20 : Int) < a.length := by omega
    have h2 : decide ((20 : Int) < a.length) = true := decide_eq_true h1
    go_enter Tryd.func3, Tryd.ntmps3
    go_wp2
    go_ret
    exact ⟨rfl, Below.refl _ _⟩
  · have h1 : ¬ (20 : Int) < a.length := by omega
    have h2 : decide ((20 : Int) < a.length) = false := decide_eq_false h1
    have h3 : (20 : Int) < b.length := by omega
    have h4 : decide ((20 : Int) < b.length) = true := decide_eq_true h3
    go_enter Tryd.func3, Tryd.ntmps3
    go_wp2
    go_ret
    exact ⟨rfl, Below.refl _ _⟩

theorem three_none (w : World) (S : Nat) : Three w S (.slice none 0 0) (.slice none 0 0) (.slice none 0 0) [] [] [] := by
  have h : w.ownsRow S 3 1 (.slice none 0 0) 0 [] := ⟨rfl, .inl ⟨rfl, rfl⟩⟩
  have k : apart (.slice none 0 0) (.slice none 0 0) := fun g h => by simp [Value.ownBlock] at h
  exact ⟨h, h, h, k, k, k⟩

def Kept (w : World) (S : Nat) (a b : List Nat) (v1 v2 v3 : Value) (k : Nat) (wx : World) : Prop :=
  Three wx S v1 v2 v3 (filt (orP a b) k 0) (filt (andP a b) k 0) (filt (lessP a b) k 0) ∧ Below S w wx

set_option maxRecDepth 100000 in
set_option maxHeartbeats 4000000 in
theorem make_walk {w : World} {va vb : Value} {a b : List Nat} (Ha : Words w va a) (Hb : Words w vb b) (hla : ¬ 20 < a.length) (hlb : ¬ 20 < b.length) (h0 : w.cell? ⟨0, 0, none⟩ = some (.int .u8 0)) :
    Calls Tryd.prog 3 #[va, vb] w fun e w' => e = .returned (.bool true) ∧ Below w.heap.size w w' := by
  obtain ⟨i0, hi, hz0, hz1, hz2⟩ := info_parts info3
  have HLA := Ha.len
  have HLB := Hb.len
  have d1 : ¬ (20 : Int) < a.length := by omega
  have d2 : decide ((20 : Int) < a.length) = false := decide_eq_false d1
  have d3 : ¬ (20 : Int) < b.length := by omega
  have d4 : decide ((20 : Int) < b.length) = false := decide_eq_false d3
  have HSA := Lib.hid (show a.length ≤ 20 by omega)
  have HSB := Lib.hid (show b.length ≤ 20 by omega)
  have BA := Lib.hid Ha.bound
  have BB := Lib.hid Hb.bound
  have HHA := Lib.hid Ha
  have HHB := Lib.hid Hb
  have HC0 := Lib.hid h0
  obtain ⟨S, hS⟩ : ∃ S, S = w.heap.size := ⟨_, rfl⟩
  have hsz : S ≤ w.heap.size := by omega
  have HS := Lib.hid hS
  have e0 : Hid (Kept w S a b (.slice none 0 0) (.slice none 0 0) (.slice none 0 0) 0 w) := ⟨three_none w S, Below.refl _ _⟩
  clear Ha Hb h0 hla hlb hS
  go_enter Tryd.func3, Tryd.ntmps3
  go_wp2_with fail
  go_loopw [5, 6, 7, 8, 9] (fun v1 v2 v3 sb n wx => ∃ k : Nat, k ≤ 1280 ∧ n = .int .i64 k ∧ sb = .bool (sameTo a b k) ∧ Kept w S a b v1 v2 v3 k wx) (fun _ _ _ _ n _ => 1280 - (intOf n).toNat)
  case atStart => exact ⟨0, by omega, rfl, rfl, e0.out⟩
  case round =>
    obtain ⟨k, hk, rfl, rfl, hkept⟩ := hrel
    by_cases hlt : k < 1280
    · have hszr : S ≤ wr.heap.size := Nat.le_trans hsz hkept.2.size
      have HA := Lib.hid (has_ref (HHA.out.stay (by rw [← HS.out]; exact hkept.2)) k (by omega))
      have HB := Lib.hid (has_ref (HHB.out.stay (by rw [← HS.out]; exact hkept.2)) k (by omega))
      have hl1 := filt_length_le (orP a b) k 0
      have hl2 := filt_length_le (andP a b) k 0
      have hl3 := filt_length_le (lessP a b) k 0
      have HF1 := Lib.hid (filt_snoc (orP a b) k)
      have HF2 := Lib.hid (filt_snoc (andP a b) k)
      have HF3 := Lib.hid (filt_snoc (lessP a b) k)
      have HP1 := Lib.hid (show orP a b k = (mem a k || mem b k) from rfl)
      have HP2 := Lib.hid (show andP a b k = (mem a k && mem b k) from rfl)
      have HP3 := Lib.hid (show lessP a b k = (mem a k && !mem b k) from rfl)
      have HSM := Lib.hid (show sameTo a b (k + 1) = (sameTo a b k && (mem a k == mem b k)) from rfl)
      obtain ⟨x, hx⟩ : ∃ x, x = mem a k := ⟨_, rfl⟩
      obtain ⟨y, hy⟩ : ∃ y, y = mem b k := ⟨_, rfl⟩
      obtain ⟨s, hs⟩ : ∃ s, s = sameTo a b k := ⟨_, rfl⟩
      rw [← hx] at HA HP1 HP2 HP3 HSM
      rw [← hy] at HB HP1 HP2 HP3 HSM
      rw [← hs] at HSM ⊢
      rw [HP1.out] at HF1
      rw [HP2.out] at HF2
      rw [HP3.out] at HF3
      have HBE := Lib.hid hkept.2
      have HT := Lib.hid hkept.1
      obtain ⟨L1, hL1⟩ : ∃ L, L = filt (orP a b) k 0 := ⟨_, rfl⟩
      obtain ⟨L2, hL2⟩ : ∃ L, L = filt (andP a b) k 0 := ⟨_, rfl⟩
      obtain ⟨L3, hL3⟩ : ∃ L, L = filt (lessP a b) k 0 := ⟨_, rfl⟩
      rw [← hL1] at HF1 HT hl1
      rw [← hL2] at HF2 HT hl2
      rw [← hL3] at HF3 HT hl3
      clear hkept hx hy hs HP1 HP2 HP3 hL1 hL2 hL3
      go_wp2_with fail
      refine HA.out.mono ?_
      rintro e w1 ⟨rfl, rfl⟩
      go_wp2_with fail
      refine HB.out.mono ?_
      rintro e w1 ⟨rfl, rfl⟩
      clear HA HB
      cases x with
      | true =>
        cases y with
        | true =>
          cases s
          all_goals
            have hown := (HT.out).1
            have hszr : S ≤ wr.heap.size := Nat.le_trans hsz HBE.out.size
            go_wp2_with (at_builtin; refine wpList_append_own_at _ rfl _ _ 24 rfl S 3 i0 (.int .i64 0) 1 8 Tryd.underlying24 hi hz0 hz1 hz2 rfl (by decide) _ _ _ rfl (hown.alloc _) ⟨wr.heap.size, 0, none⟩ 1 1 [.int .i64 (k : Int)] rfl rfl ?c1 ?c2 ?c3 ?c4 ?c5 ?_)
            case c1 => intro j u hj; cases j <;> simp at hj; subst hj; simp [Addr.add]
            case c2 => intro u hu; simp at hu; subst hu; rfl
            case c3 => unfold maxLen; omega
            case c4 => omega
            case c5 => simp; omega
            intro v1' wn0 hown' hgrow _ hat
            have HBE : Hid (Below S w wn0) := ((HBE.out.alloc hszr _).grown hgrow (by simp; omega) fun k hk => (hown.lt k hk).1)
            have HT := Lib.hid (((HT.out).alloc _).push hown' hgrow (by simpa using hat))
            have HT := Lib.hid (HT.out)
            clear hown' hgrow hat hown hszr
            have hown := (HT.out.swap12).1
            have hszr : S ≤ wn0.heap.size := Nat.le_trans hsz HBE.out.size
            go_wp2_with (at_builtin; refine wpList_append_own_at _ rfl _ _ 24 rfl S 3 i0 (.int .i64 0) 1 8 Tryd.underlying24 hi hz0 hz1 hz2 rfl (by decide) _ _ _ rfl (hown.alloc _) ⟨wn0.heap.size, 0, none⟩ 1 1 [.int .i64 (k : Int)] rfl rfl ?c1 ?c2 ?c3 ?c4 ?c5 ?_)
            case c1 => intro j u hj; cases j <;> simp at hj; subst hj; simp [Addr.add]
            case c2 => intro u hu; simp at hu; subst hu; rfl
            case c3 => unfold maxLen; omega
            case c4 => omega
            case c5 => simp; omega
            intro v2' wn1 hown' hgrow _ hat
            have HBE : Hid (Below S w wn1) := ((HBE.out.alloc hszr _).grown hgrow (by simp; omega) fun k hk => (hown.lt k hk).1)
            have HT := Lib.hid (((HT.out.swap12).alloc _).push hown' hgrow (by simpa using hat))
            have HT := Lib.hid (HT.out.swap12)
            clear hown' hgrow hat hown hszr
            go_wp2
            go_roundw
            case rel =>
              refine ⟨k + 1, by omega, by go_num, by rw [HSM.out]; rfl, ?_, HBE.out⟩
              rw [HF1.out, HF2.out, HF3.out]
              exact HT.out
            case measure => simp [intOf]; omega
        | false =>
          cases s
          all_goals
            have hown := (HT.out).1
            have hszr : S ≤ wr.heap.size := Nat.le_trans hsz HBE.out.size
            go_wp2_with (at_builtin; refine wpList_append_own_at _ rfl _ _ 24 rfl S 3 i0 (.int .i64 0) 1 8 Tryd.underlying24 hi hz0 hz1 hz2 rfl (by decide) _ _ _ rfl (hown.alloc _) ⟨wr.heap.size, 0, none⟩ 1 1 [.int .i64 (k : Int)] rfl rfl ?c1 ?c2 ?c3 ?c4 ?c5 ?_)
            case c1 => intro j u hj; cases j <;> simp at hj; subst hj; simp [Addr.add]
            case c2 => intro u hu; simp at hu; subst hu; rfl
            case c3 => unfold maxLen; omega
            case c4 => omega
            case c5 => simp; omega
            intro v1' wn0 hown' hgrow _ hat
            have HBE : Hid (Below S w wn0) := ((HBE.out.alloc hszr _).grown hgrow (by simp; omega) fun k hk => (hown.lt k hk).1)
            have HT := Lib.hid (((HT.out).alloc _).push hown' hgrow (by simpa using hat))
            have HT := Lib.hid (HT.out)
            clear hown' hgrow hat hown hszr
            have hown := (HT.out.swap13).1
            have hszr : S ≤ wn0.heap.size := Nat.le_trans hsz HBE.out.size
            go_wp2_with (at_builtin; refine wpList_append_own_at _ rfl _ _ 24 rfl S 3 i0 (.int .i64 0) 1 8 Tryd.underlying24 hi hz0 hz1 hz2 rfl (by decide) _ _ _ rfl (hown.alloc _) ⟨wn0.heap.size, 0, none⟩ 1 1 [.int .i64 (k : Int)] rfl rfl ?c1 ?c2 ?c3 ?c4 ?c5 ?_)
            case c1 => intro j u hj; cases j <;> simp at hj; subst hj; simp [Addr.add]
            case c2 => intro u hu; simp at hu; subst hu; rfl
            case c3 => unfold maxLen; omega
            case c4 => omega
            case c5 => simp; omega
            intro v3' wn1 hown' hgrow _ hat
            have HBE : Hid (Below S w wn1) := ((HBE.out.alloc hszr _).grown hgrow (by simp; omega) fun k hk => (hown.lt k hk).1)
            have HT := Lib.hid (((HT.out.swap13).alloc _).push hown' hgrow (by simpa using hat))
            have HT := Lib.hid (HT.out.swap13)
            clear hown' hgrow hat hown hszr
            go_wp2
            go_roundw
            case rel =>
              refine ⟨k + 1, by omega, by go_num, by rw [HSM.out]; rfl, ?_, HBE.out⟩
              rw [HF1.out, HF2.out, HF3.out]
              exact HT.out
            case measure => simp [intOf]; omega
      | false =>
        cases y with
        | true =>
          cases s
          all_goals
            have hown := (HT.out).1
            have hszr : S ≤ wr.heap.size := Nat.le_trans hsz HBE.out.size
            go_wp2_with (at_builtin; refine wpList_append_own_at _ rfl _ _ 24 rfl S 3 i0 (.int .i64 0) 1 8 Tryd.underlying24 hi hz0 hz1 hz2 rfl (by decide) _ _ _ rfl (hown.alloc _) ⟨wr.heap.size, 0, none⟩ 1 1 [.int .i64 (k : Int)] rfl rfl ?c1 ?c2 ?c3 ?c4 ?c5 ?_)
            case c1 => intro j u hj; cases j <;> simp at hj; subst hj; simp [Addr.add]
            case c2 => intro u hu; simp at hu; subst hu; rfl
            case c3 => unfold maxLen; omega
            case c4 => omega
            case c5 => simp; omega
            intro v1' wn0 hown' hgrow _ hat
            have HBE : Hid (Below S w wn0) := ((HBE.out.alloc hszr _).grown hgrow (by simp; omega) fun k hk => (hown.lt k hk).1)
            have HT := Lib.hid (((HT.out).alloc _).push hown' hgrow (by simpa using hat))
            have HT := Lib.hid (HT.out)
            clear hown' hgrow hat hown hszr
            go_wp2
            go_roundw
            case rel =>
              refine ⟨k + 1, by omega, by go_num, by rw [HSM.out]; rfl, ?_, HBE.out⟩
              rw [HF1.out, HF2.out, HF3.out]
              exact HT.out
            case measure => simp [intOf]; omega
        | false =>
          cases s
          all_goals
            go_wp2
            go_roundw
            case rel =>
              refine ⟨k + 1, by omega, by go_num, by rw [HSM.out]; rfl, ?_, HBE.out⟩
              rw [HF1.out, HF2.out, HF3.out]
              exact HT.out
            case measure => simp [intOf]; omega
    · have hk2 : k = 1280 := by omega
      have hsame : sameTo a b k = sameB a b := by rw [hk2]; exact sameTo_all HSA.out HSB.out BA.out BB.out
      rw [hsame]
      obtain ⟨L1, hL1⟩ : ∃ L, L = filt (orP a b) k 0 := ⟨_, rfl⟩
      obtain ⟨L2, hL2⟩ : ∃ L, L = filt (andP a b) k 0 := ⟨_, rfl⟩
      obtain ⟨L3, hL3⟩ : ∃ L, L = filt (lessP a b) k 0 := ⟨_, rfl⟩
      obtain ⟨hT, hB⟩ := hkept
      rw [← hL1, ← hL2, ← hL3] at hT
      have hs1 : ∀ n, orP a b n = true → n < 1280 := fun n h => Nat.lt_of_not_le fun hle => by
        have e1 := mem_short HSA.out hle
        have e2 := mem_short HSB.out hle
        unfold orP at h
        rw [e1] at h
        rw [e2] at h
        cases h
      have M1 : Hid ((∀ x ∈ L1, x < 65536) ∧ L1.Pairwise (· < ·) ∧ L1.length ≤ 1280 ∧ ∀ n, n ∈ L1 ↔ orP a b n = true) := by
        rw [hL1, hk2]
        exact ⟨fun x hx => by have := ((mem_filt _ _).1 hx).2.1; omega, filt_rise _ _ _, filt_length_le _ _ _, in_filt fun n hn => by
          cases h : orP a b n with
          | false => rfl
          | true => exact absurd (hs1 n h) (by omega)⟩
      have hs2 : ∀ n, andP a b n = true → n < 1280 := fun n h => Nat.lt_of_not_le fun hle => by
        have e1 := mem_short HSA.out hle
        have e2 := mem_short HSB.out hle
        unfold andP at h
        rw [e1] at h
        skip
        cases h
      have M2 : Hid ((∀ x ∈ L2, x < 65536) ∧ L2.Pairwise (· < ·) ∧ L2.length ≤ 1280 ∧ ∀ n, n ∈ L2 ↔ andP a b n = true) := by
        rw [hL2, hk2]
        exact ⟨fun x hx => by have := ((mem_filt _ _).1 hx).2.1; omega, filt_rise _ _ _, filt_length_le _ _ _, in_filt fun n hn => by
          cases h : andP a b n with
          | false => rfl
          | true => exact absurd (hs2 n h) (by omega)⟩
      have hs3 : ∀ n, lessP a b n = true → n < 1280 := fun n h => Nat.lt_of_not_le fun hle => by
        have e1 := mem_short HSA.out hle
        have e2 := mem_short HSB.out hle
        unfold lessP at h
        rw [e1] at h
        skip
        cases h
      have M3 : Hid ((∀ x ∈ L3, x < 65536) ∧ L3.Pairwise (· < ·) ∧ L3.length ≤ 1280 ∧ ∀ n, n ∈ L3 ↔ lessP a b n = true) := by
        rw [hL3, hk2]
        exact ⟨fun x hx => by have := ((mem_filt _ _).1 hx).2.1; omega, filt_rise _ _ _, filt_length_le _ _ _, in_filt fun n hn => by
          cases h : lessP a b n with
          | false => rfl
          | true => exact absurd (hs3 n h) (by omega)⟩
      have HAT : Hid (At w va vb a b wr) := by
        rw [HS.out] at hB
        exact ⟨HHA.out.stay hB, HHB.out.stay hB, hB, (hB.cell (p := ⟨0, 0, none⟩) (lt_of_cell HC0.out)).trans HC0.out⟩
      have O1 := Lib.hid hT.1
      have O2 := Lib.hid hT.2.1
      have O3 := Lib.hid hT.2.2.1
      obtain ⟨sb, hsb⟩ : ∃ sb, sb = sameB a b := ⟨_, rfl⟩
      rw [← hsb]
      have HSB2 := Lib.hid hsb
      obtain ⟨K1, hK1⟩ : ∃ K, K = keyS a := ⟨_, rfl⟩
      obtain ⟨K2, hK2⟩ : ∃ K, K = keyS b := ⟨_, rfl⟩
      have HKA := Lib.hid hK1
      have HKB := Lib.hid hK2
      have hkeq : (K1.toList == K2.toList) = sb := by
        rw [hsb, hK1, hK2]
        cases h : sameB a b with
        | true => rw [key_congr (same_iff.1 h)]; simp
        | false =>
          rw [beq_eq_false_iff_ne]
          intro e
          have e2 : keyS a = keyS b := by
            have e3 : (keyS a).toList = (keyS b).toList := e
            rw [ByteArray.toList_eq, ByteArray.toList_eq] at e3
            exact ByteArray.ext (Array.toList_inj.1 e3)
          have := same_iff.2 (key_inj BA.out BB.out e2)
          rw [h] at this
          cases this
      have gk1 : ¬ (k : Int) < 1280 := by omega
      have gk2 : decide ((k : Int) < 1280) = false := decide_eq_false gk1
      clear hT hB hL1 hL2 hL3 hs1 hs2 hs3 hk2 hsame hsb hK1 hK2 hlt hk HHA HHB HC0
      -- or_any
      have H1 := Lib.hid (or_any HAT.out.1 HAT.out.2.1)
      go_wp2_with fail
      refine H1.out.mono ?_
      rintro e x1 ⟨v1, l1, rfl, ho, ht, hw, hB⟩
      have HAT := Lib.hid (HAT.out.next hB)
      have O1 := Lib.hid (own_stay O1.out hB)
      have O2 := Lib.hid (own_stay O2.out hB)
      have O3 := Lib.hid (own_stay O3.out hB)
      have HO := Lib.hid ho
      have HTI := Lib.hid ht
      have HW := Lib.hid (or_mem hw)
      have hlen := own_len O1.out
      have H1 := Lib.hid (of_ref (own_ints O1.out (by have := M1.out.2.2.1; omega)) M1.out.1 M1.out.2.1 hlen)
      clear ho ht hw hB hlen
      go_wp2_with fail
      refine H1.out.mono ?_
      rintro e y1 ⟨u1', r1, rfl, ho, ht, hw, hB⟩
      have HAT := Lib.hid (HAT.out.next hB)
      have O2 := Lib.hid (own_stay O2.out hB)
      have O3 := Lib.hid (own_stay O3.out hB)
      have heq : l1 = r1 := tidy_eq HO.out.2.1 ho.2.1 HTI.out ht fun n => by rw [Bool.eq_iff_iff, HW.out n, hw n, M1.out.2.2.2 n]
      have H1 := Lib.hid (is_same (HO.out.words.stay hB) (by rw [heq]; exact ho.words))
      clear ho ht hw hB heq HO HTI HW O1
      go_wp2_with fail
      refine H1.out.mono ?_
      rintro e z1 ⟨rfl, hk⟩
      have HAT := Lib.hid (HAT.out.like hk)
      have O2 := Lib.hid (own_stay O2.out (hk.below _))
      have O3 := Lib.hid (own_stay O3.out (hk.below _))
      clear hk
      -- and_any
      have H1 := Lib.hid (and_any HAT.out.1 HAT.out.2.1)
      go_wp2_with fail
      refine H1.out.mono ?_
      rintro e x2 ⟨v2, l2, rfl, ho, ht, hw, hB⟩
      have HAT := Lib.hid (HAT.out.next hB)
      have O2 := Lib.hid (own_stay O2.out hB)
      have O3 := Lib.hid (own_stay O3.out hB)
      have HO := Lib.hid ho
      have HTI := Lib.hid ht
      have HW := Lib.hid (and_mem hw)
      have hlen := own_len O2.out
      have H1 := Lib.hid (of_ref (own_ints O2.out (by have := M2.out.2.2.1; omega)) M2.out.1 M2.out.2.1 hlen)
      clear ho ht hw hB hlen
      go_wp2_with fail
      refine H1.out.mono ?_
      rintro e y2 ⟨u2', r2, rfl, ho, ht, hw, hB⟩
      have HAT := Lib.hid (HAT.out.next hB)
      have O3 := Lib.hid (own_stay O3.out hB)
      have heq : l2 = r2 := tidy_eq HO.out.2.1 ho.2.1 HTI.out ht fun n => by rw [Bool.eq_iff_iff, HW.out n, hw n, M2.out.2.2.2 n]
      have H1 := Lib.hid (is_same (HO.out.words.stay hB) (by rw [heq]; exact ho.words))
      clear ho ht hw hB heq HO HTI HW O2
      go_wp2_with fail
      refine H1.out.mono ?_
      rintro e z2 ⟨rfl, hk⟩
      have HAT := Lib.hid (HAT.out.like hk)
      have O3 := Lib.hid (own_stay O3.out (hk.below _))
      clear hk
      -- less_any
      have H1 := Lib.hid (less_any HAT.out.1 HAT.out.2.1)
      go_wp2_with fail
      refine H1.out.mono ?_
      rintro e x3 ⟨v3, l3, rfl, ho, ht, hw, hB⟩
      have HAT := Lib.hid (HAT.out.next hB)
      have O3 := Lib.hid (own_stay O3.out hB)
      have HO := Lib.hid ho
      have HTI := Lib.hid ht
      have HW := Lib.hid (less_mem BB.out hw)
      have hlen := own_len O3.out
      have H1 := Lib.hid (of_ref (own_ints O3.out (by have := M3.out.2.2.1; omega)) M3.out.1 M3.out.2.1 hlen)
      clear ho ht hw hB hlen
      go_wp2_with fail
      refine H1.out.mono ?_
      rintro e y3 ⟨u3', r3, rfl, ho, ht, hw, hB⟩
      have HAT := Lib.hid (HAT.out.next hB)
      have heq : l3 = r3 := tidy_eq HO.out.2.1 ho.2.1 HTI.out ht fun n => by rw [Bool.eq_iff_iff, HW.out n, hw n, M3.out.2.2.2 n]
      have H1 := Lib.hid (is_same (HO.out.words.stay hB) (by rw [heq]; exact ho.words))
      clear ho ht hw hB heq HO HTI HW O3
      go_wp2_with fail
      refine H1.out.mono ?_
      rintro e z3 ⟨rfl, hk⟩
      have HAT := Lib.hid (HAT.out.like hk)
      clear hk
      -- same
      have H1 := Lib.hid (same_any HAT.out.1 HAT.out.2.1)
      rw [← HSB2.out] at H1
      clear HSB2
      cases sb
      all_goals
        go_wp2_with fail
        refine H1.out.mono ?_
        rintro e w4 ⟨rfl, hk⟩
        have HAT := Lib.hid (HAT.out.like hk)
        have H1 := Lib.hid (key_any HAT.out.1)
        rw [← HKA.out] at H1
        clear hk
        go_wp2_with fail
        refine H1.out.mono ?_
        rintro e w5 ⟨rfl, hB⟩
        have HAT := Lib.hid (HAT.out.next hB)
        have H1 := Lib.hid (key_any HAT.out.2.1)
        rw [← HKB.out] at H1
        clear hB
        go_wp2_with fail
        refine H1.out.mono ?_
        rintro e w6 ⟨rfl, hB⟩
        have HAT := Lib.hid (HAT.out.next hB)
        clear hB
        have H1 := Lib.hid (works_any HAT.out.2.2.2)
        go_wp2_with fail
        refine H1.out.mono ?_
        rintro e w9 ⟨rfl, hB⟩
        have HAT := Lib.hid (HAT.out.next hB)
        clear hB H1
        go_wp2
        go_ret
        exact ⟨rfl, HAT.out.2.2.1⟩

end Go.Proofs.YtfcdmkfbkkogbabDoor.Bits
