/- A set with a number more, or less; what the law's own small call 'works' asks of the set of 1 and 64. -/
import Derived.Test.YtfcdmkfbkkogbaaDoorBitsI
namespace Go.Proofs.YtfcdmkfbkkogbaaDoor.Bits
open Go Go.RowKit

theorem Own.mono {w : World} {S S' : Nat} {v : Value} {l : List Nat} (h : Own w S v l) (hs : S' ≤ S) : Own w S' v l := by
  refine ⟨⟨h.1.1, h.1.2.imp_right ?_⟩, h.2⟩
  rintro ⟨g, cap, cur, a1, a2, a3⟩
  exact ⟨g, cap, cur, a1, Nat.le_trans hs a2, a3⟩

theorem one_ints (w : World) (n : Int) : Ints (w.alloc (.cells #[.int .i64 n] 3)) (.slice (some ⟨w.heap.size, 0, none⟩) 1 1) [n] := by
  refine ⟨.inr ⟨w.heap.size, 0, 1, rfl, by simp, fun i x h => ?_⟩, by simp⟩
  cases i with
  | zero => simp at h; subst h; simp
  | succ i => simp at h

theorem with_any {w : World} {vs : Value} {s : List Nat} (Hs : Words w vs s) (n : Int) :
    Calls Tryd.prog 48 #[vs, .int .i64 n] w fun e w' => ∃ v' l', e = .returned v' ∧ Own w' w.heap.size v' l' ∧ tl l' = l'.length ∧ (∀ i, wd l' i = wd s i ||| wd (ofL [n]) i) ∧ Below w.heap.size w w' := by
  have hB0 : Below w.heap.size w (w.alloc (.cells #[.int .i64 n] 3)) := (Below.refl _ _).alloc (Nat.le_refl _) _
  have HS := Lib.hid (Hs.stay hB0)
  have HO := Lib.hid (of_any (one_ints w n))
  have HB0 := Lib.hid hB0
  clear Hs hB0
  go_enter Tryd.func48, Tryd.ntmps48
  go_wp2_with fail
  refine HO.out.mono ?_
  rintro e w1 ⟨v1, rfl, hown, hB⟩
  have HT := Lib.hid (or_any (HS.out.stay hB) hown.words)
  have HB := Lib.hid hB
  clear hown hB
  go_wp2_with fail
  refine HT.out.mono ?_
  rintro e w2 ⟨v2, l2, rfl, hown, ht, hw, hB2⟩
  have HOWN := Lib.hid hown
  have HTT := Lib.hid ht
  have HW := Lib.hid hw
  have HB2 := Lib.hid hB2
  clear hown ht hw hB2
  go_wp2
  go_ret
  have h1 : w.heap.size ≤ (w.alloc (.cells #[.int .i64 n] 3)).heap.size := by simp
  have h2 : w.heap.size ≤ w1.heap.size := Nat.le_trans h1 HB.out.size
  exact ⟨_, l2, rfl, HOWN.out.mono h2, HTT.out, HW.out, (HB0.out.trans (HB.out.mono h1)).trans (HB2.out.mono h2)⟩

theorem without_any {w : World} {vs : Value} {s : List Nat} (Hs : Words w vs s) (n : Int) :
    Calls Tryd.prog 49 #[vs, .int .i64 n] w fun e w' => ∃ v' l', e = .returned v' ∧ Own w' w.heap.size v' l' ∧ tl l' = l'.length ∧ (∀ i, wd l' i = lessF (ofL [n]) i (wd s i)) ∧ Below w.heap.size w w' := by
  have hB0 : Below w.heap.size w (w.alloc (.cells #[.int .i64 n] 3)) := (Below.refl _ _).alloc (Nat.le_refl _) _
  have HS := Lib.hid (Hs.stay hB0)
  have HO := Lib.hid (of_any (one_ints w n))
  have HB0 := Lib.hid hB0
  clear Hs hB0
  go_enter Tryd.func49, Tryd.ntmps49
  go_wp2_with fail
  refine HO.out.mono ?_
  rintro e w1 ⟨v1, rfl, hown, hB⟩
  have HT := Lib.hid (less_any (HS.out.stay hB) hown.words)
  have HB := Lib.hid hB
  clear hown hB
  go_wp2_with fail
  refine HT.out.mono ?_
  rintro e w2 ⟨v2, l2, rfl, hown, ht, hw, hB2⟩
  have HOWN := Lib.hid hown
  have HTT := Lib.hid ht
  have HW := Lib.hid hw
  have HB2 := Lib.hid hB2
  clear hown ht hw hB2
  go_wp2
  go_ret
  have h1 : w.heap.size ≤ (w.alloc (.cells #[.int .i64 n] 3)).heap.size := by simp
  have h2 : w.heap.size ≤ w1.heap.size := Nat.le_trans h1 HB.out.size
  exact ⟨_, l2, rfl, HOWN.out.mono h2, HTT.out, HW.out, (HB0.out.trans (HB.out.mono h1)).trans (HB2.out.mono h2)⟩

theorem tz_one (w : World) (h : w.cell? ⟨2, 0, none⟩ = some (.int .u8 0)) : Calls Tryd.prog 68 #[.int .u64 1] w fun e w' => e = .returned (.int .i64 0) ∧ w = w' := by
  have e8 : bits BinOp.and IntKind.u64 1 (IntKind.u64.wrap (-1)) = 1 := by kernel_rfl
  have e9 : IntKind.u64.wrap 285870213051353865 = 285870213051353865 := by kernel_rfl
  go_enter Tryd.func68, Tryd.ntmps68
  go_wp2
  go_ret
  exact ⟨rfl, rfl⟩

theorem next_two {w : World} {v : Value} (H : Words w v [2, 1]) (h : w.cell? ⟨2, 0, none⟩ = some (.int .u8 0)) : Calls Tryd.prog 47 #[v, .int .i64 2] w fun e w' => e = .returned (.int .i64 64) ∧ w = w' := by
  obtain ⟨b, off, cap, rfl, hcap, hcm, hb, hc⟩ := H.at (by simp)
  have c0 : w.cell? ⟨b, off, none⟩ = some (wordV 2) := hc 0 2 rfl
  have c1 : w.cell? ⟨b, off + 1, none⟩ = some (wordV 1) := hc 1 1 rfl
  have HT := Lib.hid (tidyLong_any H)
  have e : tl [2, 1] = 2 := by decide
  rw [e] at HT
  have HZ := Lib.hid (tz_one w h)
  clear H hc e
  go_enter Tryd.func47, Tryd.ntmps47
  go_wp2_with fail
  refine HT.out.mono ?_
  rintro e w1 ⟨rfl, rfl⟩
  go_wp2_with fail
  go_loopg [6, 7] 2 (fun g x i wx => w = wx ∧ ((g = 2 ∧ x = .int .u64 0 ∧ i = .int .i64 0) ∨ (g = 1 ∧ x = .int .u64 1 ∧ i = .int .i64 1)))
  case atStart => exact ⟨rfl, .inl ⟨rfl, rfl, rfl⟩⟩
  case round =>
    obtain ⟨rfl, h2⟩ := hrel
    rcases h2 with ⟨rfl, rfl, rfl⟩ | ⟨rfl, rfl, rfl⟩
    · go_wp2
      go_roundg 1
      case measure => omega
      case rel => exact ⟨rfl, .inr ⟨rfl, rfl, rfl⟩⟩
    · go_wp2_with fail
      refine HZ.out.mono ?_
      rintro e w1 ⟨rfl, rfl⟩
      go_wp2
      go_ret
      exact ⟨rfl, rfl⟩

theorem has_one {w : World} {v : Value} (H : Words w v [2, 1]) : Calls Tryd.prog 44 #[v, .int .i64 1] w fun e w' => e = .returned (.bool true) ∧ w = w' := by
  obtain ⟨b, off, cap, rfl, hcap, hcm, hb, hc⟩ := H.at (by simp)
  have c0 : w.cell? ⟨b, off, none⟩ = some (wordV 2) := hc 0 2 rfl
  have HM := Lib.hid (may_yes 1 (by omega) w)
  clear H hc
  go_enter Tryd.func44, Tryd.ntmps44
  go_wp2_with fail
  refine HM.out.mono ?_
  rintro e w1 ⟨rfl, rfl⟩
  go_wp2
  go_ret
  exact ⟨rfl, rfl⟩

theorem has_two {w : World} {v : Value} (H : Words w v [2, 1]) : Calls Tryd.prog 44 #[v, .int .i64 2] w fun e w' => e = .returned (.bool false) ∧ w = w' := by
  obtain ⟨b, off, cap, rfl, hcap, hcm, hb, hc⟩ := H.at (by simp)
  have c0 : w.cell? ⟨b, off, none⟩ = some (wordV 2) := hc 0 2 rfl
  have HM := Lib.hid (may_yes 2 (by omega) w)
  clear H hc
  go_enter Tryd.func44, Tryd.ntmps44
  go_wp2_with fail
  refine HM.out.mono ?_
  rintro e w1 ⟨rfl, rfl⟩
  go_wp2
  go_ret
  exact ⟨rfl, rfl⟩

end Go.Proofs.YtfcdmkfbkkogbaaDoor.Bits
