/- The law CacheLatest where no text comes, or too many. -/
import Derived.Test.YtfcdmkfbkkogbabCacheM
namespace Go.Proofs.Ytfcdmkfbkkogbab.Cache
open Go Go.RowKit

theorem latest_long (room : Int) (a : Option Addr) (len cap : Nat) (h : 60 < len) (w : World) : Calls Try.prog 6 #[.int .i64 room, .slice a len cap] w fun e w' => e = .returned (.bool true) ∧ Below w.heap.size w w' := by
  go_enter Try.func6, Try.ntmps6
  go_wp2
  go_ret
  exact ⟨rfl, Below.refl _ _⟩

set_option maxRecDepth 100000 in
theorem latest_empty (room : Int) (a : Option Addr) (cap : Nat) (w : World) : Calls Try.prog 6 #[.int .i64 room, .slice a 0 cap] w fun e w' => e = .returned (.bool true) ∧ Below w.heap.size w w' := by
  obtain ⟨S, hS⟩ : ∃ S, S = w.heap.size := ⟨_, rfl⟩
  rw [← hS]
  have HS := Lib.hid hS
  clear hS
  go_enter Try.func6, Try.ntmps6
  go_wp2_with fail
  refine (new_any room _).mono ?_
  rintro e w1 ⟨c, m, r, rfl, hK, hB⟩
  rw [← HS.out] at hB
  have HK := Lib.hid hK
  have HB := Lib.hid hB
  clear hK hB
  go_wp2_with fail
  go_loopw [6] (fun i wx => i = .int .i64 0 ∧ w1 = wx) (fun _ _ => 0)
  case atStart => exact ⟨rfl, rfl⟩
  case round =>
    obtain ⟨rfl, rfl⟩ := hrel
    go_wp2_with fail
    go_loopw [7, 8] (fun v i wx => v = .slice none 0 0 ∧ i = .int .i64 (-1) ∧ w1 = wx) (fun _ _ _ => 0)
    case atStart => exact ⟨rfl, rfl, rfl⟩
    case round =>
      obtain ⟨rfl, rfl, rfl⟩ := hrel
      go_wp2_with fail
      refine (keys_any HK.out (by simp)).mono ?_
      rintro e w2 ⟨v2, rfl, hown, hB2⟩
      have hlen := fun ty w' => len_of (Like.owns (Like.refl _) (show w2.ownsRow 0 9 1 v2 0 [] from ⟨rfl, hown.2.imp_right fun ⟨g, cap, cur, a1, _, a3⟩ => ⟨g, cap, cur, a1, Nat.zero_le _, a3⟩⟩)) ty w'
      have HB2 := Lib.hid (HB.out.trans (hB2.mono (by have := HB.out.size; rw [← HS.out] at this; exact this)))
      clear hown hB2
      go_wp2_with fail
      go_loopw [12] (fun i wx => i = .int .i64 0 ∧ w2 = wx) (fun _ _ => 0)
      case atStart => exact ⟨rfl, rfl⟩
      case round =>
        obtain ⟨rfl, rfl⟩ := hrel
        go_wp2_with fail
        refine (works_any _).mono ?_
        rintro e w3 ⟨rfl, hB3⟩
        have HB3 := Lib.hid (HB2.out.trans (hB3.mono (by have := HB2.out.size; rw [← HS.out] at this; exact this)))
        clear hB3
        go_wp2
        go_ret
        exact ⟨rfl, HB3.out⟩

end Go.Proofs.Ytfcdmkfbkkogbab.Cache
