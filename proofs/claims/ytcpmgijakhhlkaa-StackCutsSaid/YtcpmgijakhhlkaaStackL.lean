/- Package stack: Clone; what the laws ask last. -/
import Derived.Test.YtcpmgijakhhlkaaStackK
namespace Go.Proofs.Ytcpmgijakhhlkaa.Stack
open Go Go.RowKit

theorem clone_all {w : World} {B p : Nat} {N : List Nd} (h : Stk w B p N (keys N)) (hg : Good N) : Calls Try.prog 17 #[ptr p] w fun e w' => ∃ c, e = .returned (ptr c) ∧ Stk w' w.heap.size c N (keys N) ∧ Below w.heap.size w w' := by
  have HL := Lib.hid (long_any h)
  have hpos : 0 < N.length := by obtain ⟨_, _, _, hc⟩ := h; exact hc.pos
  have hk := cut_any h hg (N.length : Int) N.length (by omega)
  rw [cutN_all hg.ups] at hk
  have HK := Lib.hid hk
  clear h hk
  go_enter Try.func17, Try.ntmps17
  go_wp2_with fail
  refine HL.out.mono ?_
  rintro e w' ⟨rfl, rfl⟩
  go_wp2_with fail
  refine HK.out.mono ?_
  rintro e w1 ⟨c, rfl, hS, hB⟩
  have HS := Lib.hid hS
  have HB := Lib.hid hB
  clear hS hB
  go_wp2
  go_ret
  exact ⟨c, rfl, HS.out, HB.out⟩
theorem clone_none {w : World} {v : Value} (h : Calls Try.prog 29 #[v] w fun e w' => e = .returned (.bool true) ∧ w = w') (hl : Calls Try.prog 10 #[v] w fun e w' => e = .returned (.int .i64 0) ∧ w = w') :
    Calls Try.prog 17 #[v] w fun e w' => e = .returned (.pointer none) ∧ w = w' := by
  have HP := Lib.hid h
  have HL := Lib.hid hl
  clear h hl
  have hc : Calls Try.prog 9 #[v, .int .i64 0] w fun e w' => e = .returned (.pointer none) ∧ w = w' := by
    go_enter Try.func9, Try.ntmps9
    go_wp2_with fail
    refine HP.out.mono ?_
    rintro e w' ⟨rfl, rfl⟩
    go_wp2
    go_ret
    exact ⟨rfl, rfl⟩
  have HC := Lib.hid hc
  clear hc
  go_enter Try.func17, Try.ntmps17
  go_wp2_with fail
  refine HL.out.mono ?_
  rintro e w' ⟨rfl, rfl⟩
  go_wp2_with fail
  refine HC.out.mono ?_
  rintro e w' ⟨rfl, rfl⟩
  go_wp2
  go_ret
  exact ⟨rfl, rfl⟩

abbrev N1 : List Nd := [⟨-1, 0, []⟩, ⟨5, 0, [0]⟩]
set_option maxRecDepth 100000 in
theorem works_any (w : World) : Calls Try.prog 16 #[] w fun e w' => e = .returned (.bool true) ∧ Below w.heap.size w w' := by
  go_enter Try.func16, Try.ntmps16
  go_wp2_with fail
  refine (new_any w).mono ?_
  rintro e w1 ⟨p, rfl, hS1, hB1⟩
  have HB1 := Lib.hid hB1
  have hput := put_new (up := 0) (r := 5) (a := 0) hS1 (by decide) (by decide) (by decide) (by decide) (by decide) (by decide) (by decide) rfl
  have HP1 := Lib.hid hput
  clear hS1 hB1 hput
  go_wp2_with fail
  refine HP1.out.mono ?_
  rintro e w2 ⟨t, x, hx, ht, rfl, hS2, hB2⟩
  obtain rfl : x = ⟨5, 0, []⟩ := by simpa [N0] using hx.symm
  obtain rfl : t = false := by
    cases t with
    | false => rfl
    | true => exact absurd ((ht (by decide)).1 rfl) (by simp)
  have hS2' : Stk w2 w.heap.size p N1 (keys N1) := hS2
  have hold := put_old (up := 0) (n := 1) (r := 5) (a := 0) hS2' (by decide) (by decide) (by decide) (by decide) (by decide) (by decide) rfl
  have HB2 := Lib.hid hB2
  have HP2 := Lib.hid hold
  clear hx ht hS2 hS2' hB2 hold
  go_wp2_with fail
  refine HP2.out.mono ?_
  rintro e w3 ⟨t, x, hx, ht, rfl, hS3, hB3⟩
  obtain rfl : x = ⟨5, 0, [0]⟩ := by simpa [N1] using hx.symm
  obtain rfl : t = true := (ht (by decide)).2 (by simp)
  have hS3' : Stk w3 w.heap.size p N1 (keys N1) := hS3
  have HL := Lib.hid (long_any hS3')
  have HK := Lib.hid (links_any hS3')
  have HR1 := Lib.hid (ret_any hS3' (n := 1) (x := ⟨5, 0, [0]⟩) rfl)
  have HR0 := Lib.hid (ret_any hS3' (n := 0) (x := ⟨-1, 0, []⟩) rfl)
  have HU := Lib.hid (ups_any hS3' (n := 1) (x := ⟨5, 0, [0]⟩) rfl)
  have HB3 := Lib.hid hB3
  clear hx ht hS3 hS3' hB3
  go_wp2_with fail
  refine HL.out.mono ?_
  rintro e w' ⟨rfl, rfl⟩
  go_wp2_with fail
  refine HK.out.mono ?_
  rintro e w' ⟨rfl, rfl⟩
  go_wp2_with fail
  refine HR1.out.mono ?_
  rintro e w' ⟨rfl, rfl⟩
  go_wp2_with fail
  refine HR0.out.mono ?_
  rintro e w' ⟨rfl, rfl⟩
  go_wp2_with fail
  refine HU.out.mono ?_
  rintro e w4 ⟨v, rfl, hv, hb4⟩
  obtain ⟨A, cap, rfl, _, _⟩ := ownsRow_form hv
  have HB4 := Lib.hid hb4
  clear hv hb4
  go_wp2
  go_ret
  have h1 := HB1.out
  exact ⟨rfl, ((h1.trans (HB2.out)).trans HB3.out).trans (HB4.out.mono (Nat.le_trans (Nat.le_trans h1.size HB2.out.size) HB3.out.size))⟩

end Go.Proofs.Ytcpmgijakhhlkaa.Stack
