/- Contracts of the cache's small calls: an entry leaves the ring, an entry is put first. -/
import Derived.Test.YtfcdmkfbkkogbabRows
import Derived.WalkKit
import Derived.BigRegion
import Derived.WalkSpells
import Derived.Lib.Hide
import Derived.Maps.OwnOps
namespace Go.Proofs.Ytfcdmkfbkkogbab.Cache
open Go Go.RowKit

/-- The same memory, streams and tape. -/
def Like (w' w : World) : Prop := w'.heap = w.heap ∧ w'.os = w.os ∧ w'.tape = w.tape ∧ w'.output = w.output

abbrev ptr (b : Nat) : Value := .pointer (some ⟨b, 0, none⟩)

theorem leave (e p n : Nat) (x y : Value) (w : World) (h2 : w.cell? ⟨e, 2, none⟩ = some (ptr p)) (h3 : w.cell? ⟨e, 3, none⟩ = some (ptr n))
    (hp : w.cell? ⟨p, 3, none⟩ = some x) (fp : w.frozen? ⟨p, 3, none⟩ = false) (hn : w.cell? ⟨n, 2, none⟩ = some y) (fn : w.frozen? ⟨n, 2, none⟩ = false) :
    Calls Try.prog 47 #[ptr e] w fun r w' => r = .returned (.tuple #[]) ∧ Like w' ((w.setCell ⟨p, 3, none⟩ (ptr n)).setCell ⟨n, 2, none⟩ (ptr p)) := by
  go_enter Try.func47, Try.ntmps47
  go_region
  all_goals (go_end0; exact ⟨rfl, rfl, rfl, rfl, rfl⟩)


theorem first (c e r s : Nat) (x2 x3 y : Value) (w : World) (her : e ≠ r) (hes : e ≠ s) (hc : w.cell? ⟨c, 2, none⟩ = some (ptr r)) (hr : w.cell? ⟨r, 3, none⟩ = some (ptr s))
    (fr : w.frozen? ⟨r, 3, none⟩ = false) (h2 : w.cell? ⟨e, 2, none⟩ = some x2) (f2 : w.frozen? ⟨e, 2, none⟩ = false) (h3 : w.cell? ⟨e, 3, none⟩ = some x3) (f3 : w.frozen? ⟨e, 3, none⟩ = false)
    (hs : w.cell? ⟨s, 2, none⟩ = some y) (fs : w.frozen? ⟨s, 2, none⟩ = false) :
    Calls Try.prog 48 #[ptr c, ptr e] w fun k w' => k = .returned (.tuple #[]) ∧ Like w' ((((w.setCell ⟨e, 2, none⟩ (ptr r)).setCell ⟨e, 3, none⟩ (ptr s)).setCell ⟨r, 3, none⟩ (ptr e)).setCell ⟨s, 2, none⟩ (ptr e)) := by
  have her' : r ≠ e := fun h => her h.symm
  have hes' : s ≠ e := fun h => hes h.symm
  go_enter Try.func48, Try.ntmps48
  go_wp2
  go_region
  all_goals go_wp2
  all_goals go_region
  all_goals (go_end0; exact ⟨rfl, rfl, rfl, rfl, rfl⟩)

theorem plain_made (c m : Nat) (w : World) (hc : w.cell? ⟨c, 1, none⟩ = some (.map (some m))) :
    Calls Try.prog 46 #[ptr c] w fun k w' => k = .returned (.bool false) ∧ w = w' := by
  have hk := fun r => run_eql_map_nil (P := Try.prog) w 45 9 46 r Try.underlying45
  go_enter Try.func46, Try.ntmps46
  go_wp2
  go_ret
  exact ⟨rfl, rfl⟩

theorem plain_not (c : Nat) (w : World) (hc : w.cell? ⟨c, 1, none⟩ = some (.map none)) :
    Calls Try.prog 46 #[ptr c] w fun k w' => k = .returned (.bool true) ∧ w = w' := by
  have hk := fun r => run_eql_map_nil (P := Try.prog) w 45 9 46 r Try.underlying45
  go_enter Try.func46, Try.ntmps46
  go_wp2
  go_ret
  exact ⟨rfl, rfl⟩

theorem plain_nil (w : World) :
    Calls Try.prog 46 #[.pointer none] w fun k w' => k = .returned (.bool true) ∧ w = w' := by
  have hk := fun r => run_eql_map_nil (P := Try.prog) w 45 9 46 r Try.underlying45
  go_enter Try.func46, Try.ntmps46
  go_wp2
  go_ret
  exact ⟨rfl, rfl⟩

theorem cut_any (n : Int) (w : World) : Calls Try.prog 45 #[.int .i64 n] w fun k w' => k = .returned (.int .i64 (min (max n 0) 4096)) ∧ w = w' := by
  by_cases h0 : 0 ≤ n
  · by_cases h1 : n ≤ 4096
    · rw [show min (max n 0) 4096 = n from by omega]
      go_enter Try.func45, Try.ntmps45
      go_wp2
      all_goals (go_ret; exact ⟨rfl, rfl⟩)
    · rw [show min (max n 0) 4096 = 4096 from by omega]
      go_enter Try.func45, Try.ntmps45
      go_wp2
      all_goals (go_ret; exact ⟨rfl, rfl⟩)
  · rw [show min (max n 0) 4096 = 0 from by omega]
    go_enter Try.func45, Try.ntmps45
    go_wp2
    all_goals (go_ret; exact ⟨rfl, rfl⟩)

end Go.Proofs.Ytfcdmkfbkkogbab.Cache
