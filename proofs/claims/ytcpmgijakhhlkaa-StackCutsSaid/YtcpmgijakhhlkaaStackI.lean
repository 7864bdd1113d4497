/- Package stack: a copy of a row of numbers; Ret, At, Ups, Find, walked. -/
import Derived.Test.YtcpmgijakhhlkaaStackH
import Derived.Lib.SliceRun
namespace Go.Proofs.Ytcpmgijakhhlkaa.Stack
open Go Go.RowKit

set_option maxHeartbeats 2000000 in
set_option maxRecDepth 100000 in
theorem clone_any {w : World} {B : Nat} {v : Value} {L : List Int} (h : IntRow w B v L) (hL : L.length ≤ 1000) : Calls Try.prog 33 #[v] w fun e w' => ∃ v', e = .returned v' ∧ IntRow w' w.heap.size v' L ∧ Below w.heap.size w w' := by
  have q22 : ∀ (w : World) (a : Option Addr) (n c n' c' : Nat), (binOp .eql 32 (.slice a n c) (.slice none n' c')).run Try.prog w = .ok (.bool a.isNone) w := fun w a n c n' c' => Lib.run_eql_slice_nil w _ _ a n c n' c' Try.underlying32
  obtain ⟨i0, hi, hz0, hz1, hz2⟩ := info_parts infoI
  have h' := h
  rcases h.2 with ⟨rfl, h0⟩ | ⟨g, cap, cur, rfl, h1, h3, h4, h5, h6, h7⟩
  · obtain rfl : L = [] := List.eq_nil_of_length_eq_zero h0
    clear h h'
    go_enter Try.func33, Try.ntmps33
    go_wp2
    go_ret
    exact ⟨_, rfl, ⟨rfl, .inl ⟨rfl, rfl⟩⟩, Below.refl _ _⟩
  · have gl : g < w.heap.size := (Array.getElem?_eq_some_iff.1 h3).1
    have hc : ∀ (j : Nat) (u : Value), (intC L)[j]? = some u → w.cell? ⟨g, j, none⟩ = some u := fun j u hj => by
      have := World.ownsRow.cells h' (g := g) rfl j u hj
      rwa [addr_add] at this
    have HC := Lib.hid hc
    have hll : (intC L).length = L.length * 1 := by simp [intC]
    have h1c : ∀ u ∈ intC L, u.oneCell' = true := by
      intro u hu
      unfold intC at hu
      obtain ⟨x, _, rfl⟩ := List.mem_map.1 hu
      rfl
    have H1 := Lib.hid h1c
    have HLL := Lib.hid hll
    clear h h' h1 h3 h6 h7 hc hll h1c
    go_enter Try.func33, Try.ntmps33
    go_wp2_with (at_builtin; refine wpList_append_own _ (by rfl) _ _ 32 (by rfl) w.heap.size 3 i0 (.int .i64 0) 1 8 Try.underlying32 hi hz0 hz1 hz2 rfl (by decide) _ _ _ (by rfl) (World.ownsRow_made w #[] 0 (Nat.le_refl _) (Nat.zero_le _) rfl) ⟨g, 0, none⟩ L.length cap (intC L) (by rfl) HLL.out ?qc2 H1.out (by unfold maxLen; omega) (by omega) (by simp) ?_)
    case qc2 =>
      intro j u hj
      rw [addr_add]
      exact Lib.cell?_alloc_some _ (HC.out j u hj)
    intro v' w1 hown hgrow hnil
    have HW := Lib.hid hown
    have HG := Lib.hid hgrow
    clear hown hgrow hnil
    go_wp2
    go_ret
    refine ⟨v', rfl, by simpa [IntRow] using HW.out, ?_⟩
    exact ((Below.refl _ w).alloc (Nat.le_refl _) _).grown HG.out (by simp) (by intro k hk; simp [Value.ownBlock] at hk; omega)

theorem ret_any {w : World} {B p : Nat} {N : List Nd} {K : List Ky} (h : Stk w B p N K) {n : Nat} {x : Nd} (hx : N[n]? = some x) : Calls Try.prog 12 #[ptr p, .int .i64 (n : Int)] w fun e w' => e = .returned (.int .i64 x.r) ∧ w = w' := by
  have hn : n < N.length := (List.getElem?_eq_some_iff.1 hx).1
  have HH := has_any h (n : Int)
  rw [decide_eq_true (by omega)] at HH
  have HH := Lib.hid HH
  obtain ⟨vn, mf, mm, hc⟩ := h
  obtain ⟨c0, _, _, _, _⟩ := hc.cells
  obtain ⟨g, cap, u, rfl, _, _, _, _, d0, d1, _, _, _⟩ := hc.nodes.get hx
  have g0 : (0 : Int) ≤ (n : Int) := by omega
  have g1 : (n : Int) < (N.length : Int) := by omega
  clear hc hx
  go_enter Try.func12, Try.ntmps12
  go_wp2_with fail
  refine HH.out.mono ?_
  rintro e w' ⟨rfl, rfl⟩
  go_wp2
  go_ret
  exact ⟨rfl, rfl⟩
theorem at_any {w : World} {B p : Nat} {N : List Nd} {K : List Ky} (h : Stk w B p N K) {n : Nat} {x : Nd} (hx : N[n]? = some x) : Calls Try.prog 13 #[ptr p, .int .i64 (n : Int)] w fun e w' => e = .returned (.int .i64 x.a) ∧ w = w' := by
  have hn : n < N.length := (List.getElem?_eq_some_iff.1 hx).1
  have HH := has_any h (n : Int)
  rw [decide_eq_true (by omega)] at HH
  have HH := Lib.hid HH
  obtain ⟨vn, mf, mm, hc⟩ := h
  obtain ⟨c0, _, _, _, _⟩ := hc.cells
  obtain ⟨g, cap, u, rfl, _, _, _, _, d0, d1, _, _, _⟩ := hc.nodes.get hx
  have g0 : (0 : Int) ≤ (n : Int) := by omega
  have g1 : (n : Int) < (N.length : Int) := by omega
  clear hc hx
  go_enter Try.func13, Try.ntmps13
  go_wp2_with fail
  refine HH.out.mono ?_
  rintro e w' ⟨rfl, rfl⟩
  go_wp2
  go_ret
  exact ⟨rfl, rfl⟩
theorem ups_any {w : World} {B p : Nat} {N : List Nd} {K : List Ky} (h : Stk w B p N K) {n : Nat} {x : Nd} (hx : N[n]? = some x) : Calls Try.prog 11 #[ptr p, .int .i64 (n : Int)] w fun e w' => ∃ v, e = .returned v ∧ IntRow w' w.heap.size v (upI x) ∧ Below w.heap.size w w' := by
  have hn : n < N.length := (List.getElem?_eq_some_iff.1 hx).1
  have HH := has_any h (n : Int)
  rw [decide_eq_true (by omega)] at HH
  have HH := Lib.hid HH
  obtain ⟨vn, mf, mm, hc⟩ := h
  obtain ⟨c0, _, _, _, _⟩ := hc.cells
  obtain ⟨g, cap, u, rfl, _, _, _, _, d0, d1, d2, hrow, _⟩ := hc.nodes.get hx
  have g0 : (0 : Int) ≤ (n : Int) := by omega
  have g1 : (n : Int) < (N.length : Int) := by omega
  have hxu : (upI x).length ≤ 1000 := by
    have := lk_mem (List.mem_of_getElem? hx)
    have := hc.lks
    simp [upI]
    omega
  obtain ⟨A, uc, rfl, _, _⟩ := ownsRow_form hrow
  have HK := Lib.hid (clone_any hrow hxu)
  clear hc hx hrow
  go_enter Try.func11, Try.ntmps11
  go_wp2_with fail
  refine HH.out.mono ?_
  rintro e w' ⟨rfl, rfl⟩
  go_wp2_with fail
  refine HK.out.mono ?_
  rintro e w' ⟨v, rfl, hv, hb⟩
  have HV := Lib.hid hv
  have HB := Lib.hid hb
  clear hv hb
  go_wp2
  go_ret
  exact ⟨_, rfl, HV.out, HB.out⟩
theorem find_any {w : World} {B p : Nat} {N : List Nd} {K : List Ky} (h : Stk w B p N K) {r a : Int} (hr : in64 r) (ha : in64 a) {i : Nat} (hi : idx K (r, a) = some i) : Calls Try.prog 14 #[ptr p, .int .i64 r, .int .i64 a] w fun e w' => e = .returned (.int .i64 (i : Int)) ∧ w = w' := by
  have HP := Lib.hid (plain_any h)
  obtain ⟨vn, mf, mm, hc⟩ := h
  obtain ⟨_, c1, _, _, _⟩ := hc.cells
  have hrun := hc.found.look hr ha
  rw [hi] at hrun
  simp only [Option.getD_some, Option.isSome_some] at hrun
  clear hc hi hr ha
  go_enter Try.func14, Try.ntmps14
  go_wp2_with fail
  refine HP.out.mono ?_
  rintro e w' ⟨rfl, rfl⟩
  go_wp2
  go_ret
  exact ⟨rfl, rfl⟩
/-- Of a stack that nobody made. -/
theorem ret_none {w : World} {v : Value} (h : Calls Try.prog 29 #[v] w fun e w' => e = .returned (.bool true) ∧ w = w') (k : Int) : Calls Try.prog 12 #[v, .int .i64 k] w fun e w' => e = .returned (.int .i64 (-1)) ∧ w = w' := by
  have HP := Lib.hid (has_not h k)
  clear h
  go_enter Try.func12, Try.ntmps12
  go_wp2_with fail
  refine HP.out.mono ?_
  rintro e w' ⟨rfl, rfl⟩
  go_wp2
  go_ret
  exact ⟨rfl, rfl⟩
theorem at_none {w : World} {v : Value} (h : Calls Try.prog 29 #[v] w fun e w' => e = .returned (.bool true) ∧ w = w') (k : Int) : Calls Try.prog 13 #[v, .int .i64 k] w fun e w' => e = .returned (.int .i64 (-1)) ∧ w = w' := by
  have HP := Lib.hid (has_not h k)
  clear h
  go_enter Try.func13, Try.ntmps13
  go_wp2_with fail
  refine HP.out.mono ?_
  rintro e w' ⟨rfl, rfl⟩
  go_wp2
  go_ret
  exact ⟨rfl, rfl⟩
theorem ups_none {w : World} {v : Value} (h : Calls Try.prog 29 #[v] w fun e w' => e = .returned (.bool true) ∧ w = w') (k : Int) : Calls Try.prog 11 #[v, .int .i64 k] w fun e w' => e = .returned (.slice none 0 0) ∧ w = w' := by
  have HP := Lib.hid (has_not h k)
  clear h
  go_enter Try.func11, Try.ntmps11
  go_wp2_with fail
  refine HP.out.mono ?_
  rintro e w' ⟨rfl, rfl⟩
  go_wp2
  go_ret
  exact ⟨rfl, rfl⟩
theorem find_none {w : World} {v : Value} (h : Calls Try.prog 29 #[v] w fun e w' => e = .returned (.bool true) ∧ w = w') (r a : Int) : Calls Try.prog 14 #[v, .int .i64 r, .int .i64 a] w fun e w' => e = .returned (.int .i64 (-1)) ∧ w = w' := by
  have HP := Lib.hid h
  clear h
  go_enter Try.func14, Try.ntmps14
  go_wp2_with fail
  refine HP.out.mono ?_
  rintro e w' ⟨rfl, rfl⟩
  go_wp2
  go_ret
  exact ⟨rfl, rfl⟩

end Go.Proofs.Ytcpmgijakhhlkaa.Stack
