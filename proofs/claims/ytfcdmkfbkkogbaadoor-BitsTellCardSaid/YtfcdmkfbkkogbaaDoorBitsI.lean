/- The set of numbers (Of), walked. -/
import Derived.Test.YtfcdmkfbkkogbaaDoorBitsH
namespace Go.Proofs.YtfcdmkfbkkogbaaDoor.Bits
open Go Go.RowKit

/-- A value that is the row of these numbers. -/
def Ints (w : World) (v : Value) (ns : List Int) : Prop :=
  ((v = .slice none 0 0 ∧ ns = []) ∨
    (∃ b off cap, v = .slice (some ⟨b, off, none⟩) ns.length cap ∧ b < w.heap.size ∧ ∀ i x, ns[i]? = some x → w.cell? ⟨b, off + i, none⟩ = some (.int .i64 x))) ∧
  ns.length ≤ 1000000

def lgTo (ns : List Int) : Nat → Nat
  | 0 => 0
  | j + 1 => match ns[j]? with
    | some n => if 0 ≤ n ∧ n < 65536 then max (lgTo ns j) (n.toNat / 64 + 1) else lgTo ns j
    | none => lgTo ns j
def ofTo (ns : List Int) (long : Nat) : Nat → List Nat
  | 0 => List.replicate long 0
  | j + 1 => match ns[j]? with
    | some n => if 0 ≤ n ∧ n < 65536 then (ofTo ns long j).set (n.toNat / 64) ((ofTo ns long j).getD (n.toNat / 64) 0 ||| 2 ^ (n.toNat % 64)) else ofTo ns long j
    | none => ofTo ns long j
def ofL (ns : List Int) : List Nat := ofTo ns (lgTo ns ns.length) ns.length

theorem lgTo_yes {ns : List Int} {j k : Nat} (h : ns[j]? = some (k : Int)) (hk : k < 65536) : lgTo ns (j + 1) = max (lgTo ns j) (k / 64 + 1) := by
  rw [lgTo, h]
  simp only
  rw [if_pos ⟨by omega, by omega⟩, Int.toNat_natCast]
theorem lgTo_no {ns : List Int} {j : Nat} {n : Int} (h : ns[j]? = some n) (hn : ¬ (0 ≤ n ∧ n < 65536)) : lgTo ns (j + 1) = lgTo ns j := by
  rw [lgTo, h]
  simp only
  rw [if_neg hn]
theorem ofTo_yes {ns : List Int} {long j k : Nat} (h : ns[j]? = some (k : Int)) (hk : k < 65536) : ofTo ns long (j + 1) = (ofTo ns long j).set (k / 64) ((ofTo ns long j).getD (k / 64) 0 ||| 2 ^ (k % 64)) := by
  rw [ofTo, h]
  simp only
  rw [if_pos ⟨by omega, by omega⟩, Int.toNat_natCast]
theorem ofTo_no {ns : List Int} {long j : Nat} {n : Int} (h : ns[j]? = some n) (hn : ¬ (0 ≤ n ∧ n < 65536)) : ofTo ns long (j + 1) = ofTo ns long j := by
  rw [ofTo, h]
  simp only
  rw [if_neg hn]
theorem ofTo_length (ns : List Int) (long : Nat) : ∀ j, (ofTo ns long j).length = long
  | 0 => List.length_replicate
  | j + 1 => by
    rw [ofTo]
    split
    · split
      · rw [List.length_set]; exact ofTo_length ns long j
      · exact ofTo_length ns long j
    · exact ofTo_length ns long j
theorem pow_small (k : Nat) (hk : k < 64) : 2 ^ k < 18446744073709551616 := Nat.lt_of_lt_of_eq (Nat.pow_lt_pow_right (by decide : 1 < 2) hk) (by decide +kernel : 2 ^ 64 = 18446744073709551616)
theorem ofTo_lt (ns : List Int) (long : Nat) : ∀ j, ∀ x ∈ ofTo ns long j, x < 18446744073709551616
  | 0, x, h => by
    have := (List.mem_replicate.1 h).2
    omega
  | j + 1, x, h => by
    rw [ofTo] at h
    have ih := ofTo_lt ns long j
    split at h
    · split at h
      · rcases List.mem_or_eq_of_mem_set h with h | h
        · exact ih x h
        · rw [h]
          refine or_lt ?_ ?_
          · rw [List.getD_eq_getElem?_getD]
            cases hx : (ofTo ns long j)[Int.toNat _ / 64]? with
            | none => simp
            | some y => exact ih y (List.mem_of_getElem? hx)
          · exact pow_small _ (Nat.mod_lt _ (by omega))
      · exact ih x h
    · exact ih x h
theorem lgTo_mono (ns : List Int) : ∀ d j, lgTo ns j ≤ lgTo ns (j + d)
  | 0, _ => Nat.le_refl _
  | d + 1, j => by
    refine Nat.le_trans (lgTo_mono ns d j) ?_
    rw [← Nat.add_assoc]
    conv => rhs; rw [lgTo]
    split
    · split
      · exact Nat.le_max_left _ _
      · exact Nat.le_refl _
    · exact Nat.le_refl _
theorem lgTo_le (ns : List Int) : ∀ j, lgTo ns j ≤ 1024
  | 0 => by simp [lgTo]
  | j + 1 => by
    have ih := lgTo_le ns j
    rw [lgTo]
    split
    · split
      · omega
      · exact ih
    · exact ih
theorem lg_in {ns : List Int} {j k : Nat} (h : ns[j]? = some (k : Int)) (hk : k < 65536) : k / 64 < lgTo ns ns.length := by
  have hj := (List.getElem?_eq_some_iff.1 h).1
  have h1 := lgTo_yes h hk
  have h2 := lgTo_mono ns (ns.length - (j + 1)) (j + 1)
  rw [show j + 1 + (ns.length - (j + 1)) = ns.length by omega] at h2
  omega

/-- A power of two, as Go's shift reckons it. -/
theorem shl_one (k : Nat) (hk : k < 64) : IntKind.u64.wrap (2 ^ k) = ((2 ^ k : Nat) : Int) := by
  have h := pow_small k hk
  have := wrapU (2 ^ k) h
  rw [Int.natCast_pow] at this ⊢
  exact this

theorem made_words (n : Nat) : (madeCells #[Value.int .u64 0] n).toList = words (List.replicate n 0) := by
  apply List.ext_getElem?
  intro i
  rw [words_get]
  unfold madeCells
  by_cases h : i < n
  · simp [h, wordV, Nat.mod_one]
  · simp [h]

set_option maxRecDepth 100000 in
theorem of_any {w : World} {v : Value} {ns : List Int} (H : Ints w v ns) : Calls Tryd.prog 42 #[v] w fun e w' => ∃ v', e = .returned v' ∧ Own w' w.heap.size v' (ofL ns) ∧ Below w.heap.size w w' := by
  obtain ⟨i0, hi, hz0, hz1, hz2⟩ := info_parts info35
  obtain ⟨h, hmax⟩ := H
  rcases h with ⟨rfl, rfl⟩ | ⟨b, off, cap, rfl, hb, hc⟩
  · go_enter Tryd.func42, Tryd.ntmps42
    go_wp2_with fail
    go_loopw [3, 11] (fun n i wx => n = .int .i64 0 ∧ i = .int .i64 0 ∧ w = wx) (fun _ _ _ => 0)
    case atStart => exact ⟨rfl, rfl, rfl⟩
    case round =>
      obtain ⟨rfl, rfl, rfl⟩ := hrel
      go_wp2
      go_ret
      exact ⟨_, rfl, ⟨⟨rfl, .inl ⟨rfl, rfl⟩⟩, by simp [ofL, ofTo, lgTo], by simp [ofL, ofTo, lgTo]⟩, Below.refl _ _⟩
  · obtain ⟨S, hS⟩ : ∃ S, S = w.heap.size := ⟨_, rfl⟩
    rw [← hS] at hb ⊢
    have HS := Lib.hid hS
    have HC := Lib.hid hc
    obtain ⟨n, hn⟩ : ∃ n, n = ns.length := ⟨_, rfl⟩
    rw [← hn] at hmax ⊢
    have HN := Lib.hid hn
    clear hS hc hn
    go_enter Tryd.func42, Tryd.ntmps42
    go_wp2_with fail
    go_loopw [3, 11] (fun t i wx => ∃ j : Nat, j ≤ n ∧ t = .int .i64 (lgTo ns j) ∧ i = .int .i64 j ∧ w = wx) (fun _ i _ => n - (intOf i).toNat)
    case atStart => exact ⟨0, Nat.zero_le _, rfl, rfl, rfl⟩
    case round =>
      obtain ⟨j, hj, rfl, rfl, rfl⟩ := hrel
      have hlg := lgTo_le ns j
      by_cases hlt : j < n
      · obtain ⟨x, hx⟩ : ∃ x, ns[j]? = some x := ⟨ns[j]'(by rw [← HN.out]; exact hlt), List.getElem?_eq_getElem _⟩
        have hcell := HC.out j x hx
        by_cases hok : 0 ≤ x ∧ x < 65536
        · obtain ⟨k, rfl⟩ := Int.eq_ofNat_of_zero_le hok.1
          have hk : k < 65536 := by omega
          have HNX := Lib.hid (lgTo_yes hx hk)
          have HM := Lib.hid (may_yes k hk w)
          obtain ⟨a, ha⟩ : ∃ a, a = lgTo ns j := ⟨_, rfl⟩
          rw [← ha] at hlg HNX ⊢
          clear hx hok ha
          go_wp2_with fail
          refine HM.out.mono ?_
          rintro e w1 ⟨rfl, rfl⟩
          by_cases hcmp : a < k / 64 + 1
          · have hcmp2 : (a : Int) < (k : Int) / 64 + 1 := by omega
            go_wp2
            go_roundw
            case rel => exact ⟨j + 1, by omega, by rw [HNX.out, Nat.max_eq_right (by omega)]; go_num, by go_num, trivial⟩
            case measure => simp [intOf]; omega
          · have hcmp2 : ¬ (a : Int) < (k : Int) / 64 + 1 := by omega
            go_wp2
            go_roundw
            case rel => exact ⟨j + 1, by omega, by rw [HNX.out, Nat.max_eq_left (by omega)], by go_num, trivial⟩
            case measure => simp [intOf]; omega
        · have HNX := Lib.hid (lgTo_no hx hok)
          have HM := Lib.hid (may_no x (by omega) w)
          clear hx hok
          go_wp2_with fail
          refine HM.out.mono ?_
          rintro e w1 ⟨rfl, rfl⟩
          go_wp2
          go_roundw
          case rel => exact ⟨j + 1, by omega, by rw [HNX.out], by go_num, trivial⟩
          case measure => simp [intOf]; omega
      · obtain rfl : n = j := by omega
        have hL : lgTo ns n = lgTo ns ns.length := by rw [← HN.out]
        obtain ⟨long, hlong⟩ : ∃ long, long = lgTo ns n := ⟨_, rfl⟩
        rw [← hlong] at hlg hL ⊢
        have HL := Lib.hid hL
        have HLO := Lib.hid hlong
        clear hL hlong
        by_cases h0 : long = 0
        · have hof : ofL ns = [] := by
            have := ofTo_length ns (lgTo ns ns.length) ns.length
            rw [← HL.out, h0] at this
            unfold ofL
            rw [← HL.out, h0]
            exact List.length_eq_zero_iff.1 this
          have HOF := Lib.hid hof
          subst h0
          clear hof
          go_wp2
          go_ret
          exact ⟨_, rfl, by rw [HOF.out]; exact ⟨⟨rfl, .inl ⟨rfl, rfl⟩⟩, by simp, by simp⟩, Below.refl _ _⟩
        · have hz : ((long : Int) == 0) = false := by simp; omega
          have hsz : S ≤ w.heap.size := by rw [HS.out]; exact Nat.le_refl _
          clear h0
          go_wp2_with (at_make; refine wpList_make_full _ rfl _ _ 64 rfl S 94 i0 (.int .u64 0) 1 Tryd.underlying64 hi hz0 hz1 _ _ _ _ long rfl rfl rfl rfl ?b2 ?b3 hsz ?_)
          case b2 => rw [hz2]; omega
          case b3 => unfold maxLen; omega
          intro w1 hown hgrow
          have hB1 : Below S w w1 := (Below.refl _ w).grown hgrow hsz (by simp)
          have hrow : w1.ownsRow S 94 1 (.slice (some ⟨w.heap.size, 0, none⟩) long long) long (words (ofTo ns long 0)) := by
            rw [ofTo, ← made_words]; exact hown
          obtain ⟨g, hg⟩ : ∃ g, g = w.heap.size := ⟨_, rfl⟩
          rw [← hg] at hrow ⊢
          have HR := Lib.hid hrow
          have HB1 := Lib.hid hB1
          clear hown hgrow hrow hB1 hg
          go_wp2_with fail
          go_loopw [29] (fun i wx => ∃ j : Nat, j ≤ n ∧ i = .int .i64 j ∧ wx.ownsRow S 94 1 (.slice (some ⟨g, 0, none⟩) long long) long (words (ofTo ns long j)) ∧ Below S w wx) (fun i _ => n - (intOf i).toNat)
          case atStart => exact ⟨0, Nat.zero_le _, rfl, HR.out, HB1.out⟩
          case round =>
            obtain ⟨j, hj, rfl, hrow, hB⟩ := hrel
            by_cases hlt : j < n
            · obtain ⟨x, hx⟩ : ∃ x, ns[j]? = some x := ⟨ns[j]'(by rw [← HN.out]; exact hlt), List.getElem?_eq_getElem _⟩
              have hcell : wr.cell? ⟨b, off + j, none⟩ = some (.int .i64 x) := (hB.cell (p := ⟨b, off + j, none⟩) hb).trans (HC.out j x hx)
              by_cases hok : 0 ≤ x ∧ x < 65536
              · obtain ⟨k, rfl⟩ := Int.eq_ofNat_of_zero_le hok.1
                have hk : k < 65536 := by omega
                have hkl : k / 64 < long := by rw [HL.out]; exact lg_in hx hk
                have HNX := Lib.hid (ofTo_yes (long := long) hx hk)
                have HM := Lib.hid (may_yes k hk wr)
                obtain ⟨y, hy⟩ : ∃ y, (ofTo ns long j)[k / 64]? = some y := ⟨(ofTo ns long j)[k / 64]'(by rw [ofTo_length]; exact hkl), List.getElem?_eq_getElem _⟩
                have hcy : wr.cell? ⟨g, k / 64, none⟩ = some (wordV y) := by
                  rw [hrow.cellAt (k / 64) (by omega), words_get, hy]; rfl
                have hfy := hrow.frozenAt (k / 64)
                have hyl := ofTo_lt ns long j y (List.mem_of_getElem? hy)
                have HBT := Lib.hid (u64_or_nat y (2 ^ (k % 64)) hyl (pow_small _ (Nat.mod_lt _ (by omega))))
                have HSH := Lib.hid (shl_one (k % 64) (Nat.mod_lt _ (by omega)))
                have HY := Lib.hid hy
                have HROW := Lib.hid hrow
                have HB := Lib.hid hB
                clear hx hok hy hyl hrow hB
                go_wp2_with fail
                refine HM.out.mono ?_
                rintro e w2 ⟨rfl, rfl⟩
                go_wp2_with fail
                go_region
                all_goals go_wp2
                all_goals
                  go_roundw
                  case rel =>
                    rw [HSH.out, HBT.out]
                    obtain ⟨t1, t2⟩ := HROW.out.stored (k / 64) (wordV (y ||| 2 ^ (k % 64)))
                    have e : words (ofTo ns long (j + 1)) = (words (ofTo ns long j)).set (k / 64) (wordV (y ||| 2 ^ (k % 64))) := by
                      rw [HNX.out, words_set, List.getD_eq_getElem?_getD, HY.out]; rfl
                    exact ⟨j + 1, by omega, by go_num, by rw [e]; exact t1, (HB.out.setCell (HROW.out.lt g rfl).1 _).drew⟩
                  case measure => simp [intOf]; omega
              · have HNX := Lib.hid (ofTo_no (long := long) hx hok)
                have HM := Lib.hid (may_no x (by omega) wr)
                have HROW := Lib.hid hrow
                have HB := Lib.hid hB
                clear hx hok hrow hB
                go_wp2_with fail
                refine HM.out.mono ?_
                rintro e w2 ⟨rfl, rfl⟩
                go_wp2
                go_roundw
                case rel => exact ⟨j + 1, by omega, by go_num, by rw [HNX.out]; exact HROW.out, HB.out⟩
                case measure => simp [intOf]; omega
            · obtain rfl : n = j := by omega
              have hfin : Own wr S (.slice (some ⟨g, 0, none⟩) long long) (ofL ns) := by
                have e : ofL ns = ofTo ns long n := by unfold ofL; rw [← HL.out, HN.out]
                rw [e]
                refine ⟨by rw [ofTo_length]; exact hrow, fun z hz => ofTo_lt ns long n z hz, by rw [ofTo_length]; unfold maxLen; omega⟩
              have HF := Lib.hid hfin
              have HB := Lib.hid hB
              clear hfin hrow hB
              go_wp2
              go_ret
              exact ⟨_, rfl, HF.out, HB.out⟩

end Go.Proofs.YtfcdmkfbkkogbaaDoor.Bits
