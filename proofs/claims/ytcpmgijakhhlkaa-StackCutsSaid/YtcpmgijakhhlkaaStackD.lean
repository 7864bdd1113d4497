/- What is among some numbers (package slices), walked; what a node goes on to. -/
import Derived.Test.YtcpmgijakhhlkaaStackC
namespace Go.Proofs.Ytcpmgijakhhlkaa.Stack
open Go Go.RowKit

def IdxP (L : List Int) (x : Int) (w : World) (e : Ending) (w' : World) : Prop := ∃ r : Int, e = .returned (.int .i64 r) ∧ (0 ≤ r ↔ x ∈ L) ∧ w = w'

set_option maxRecDepth 100000 in
theorem index_any {w : World} {S : Nat} {v : Value} {L : List Int} (h : IntRow w S v L) (x : Int) (hL : 0 < L.length) (hL2 : L.length ≤ 1000) : Calls Try.prog 69 #[v, .int .i64 x] w fun e w' => IdxP L x w e w' := by
  obtain ⟨g, cap, rfl, hm, hg, hc⟩ := h.at hL
  have HC := Lib.hid hc
  clear h hc
  unfold maxLen at hm
  go_enter Try.func69, Try.ntmps69
  go_wp2
  go_loopw [8] (fun x8 wx => ∃ i : Nat, i ≤ L.length ∧ x8 = .int .i64 (i : Int) ∧ (∀ (j : Nat) (y : Int), j < i → L[j]? = some y → y ≠ x) ∧ w = wx) (fun x8 _ => L.length - (intOf x8).toNat)
  case atStart => exact ⟨0, Nat.zero_le _, rfl, fun j y h => by omega, rfl⟩
  case round =>
    obtain ⟨i, hi, rfl, hno, rfl⟩ := hrel
    have HN := Lib.hid hno
    clear hno
    by_cases hlt : i < L.length
    · have g1 : (i : Int) < (L.length : Int) := by omega
      have g2 : decide ((i : Int) < (L.length : Int)) = true := decide_eq_true g1
      have g3 : (0 : Int) ≤ (i : Int) := by omega
      obtain ⟨y, hy⟩ : ∃ y, L[i]? = some y := ⟨L[i], List.getElem?_eq_getElem hlt⟩
      have c0 := HC.out i y hy
      by_cases hxy : y = x
      · subst hxy
        have hmem : y ∈ L := List.mem_of_getElem? hy
        have HM := Lib.hid hmem
        clear hy hmem
        go_wp2
        go_ret
        exact ⟨(i : Int), rfl, ⟨fun _ => HM.out, fun _ => by omega⟩, rfl⟩
      · have e1 : (x == y) = false := by simpa using fun h : x = y => hxy h.symm
        have hn : ∀ (j : Nat) (z : Int), j < i + 1 → L[j]? = some z → z ≠ x := fun j z hj hz => by
          by_cases e : j = i
          · subst e
            rw [hy] at hz
            cases hz
            exact hxy
          · exact HN.out j z (by omega) hz
        have HN2 := Lib.hid hn
        clear hn hy hxy
        go_wp2
        go_roundw
        case rel => exact ⟨i + 1, by omega, by go_num, HN2.out, trivial⟩
        case measure => simp [intOf]; omega
    · have g1 : ¬ (i : Int) < (L.length : Int) := by omega
      have g2 : decide ((i : Int) < (L.length : Int)) = false := decide_eq_false g1
      have hnot : ¬ x ∈ L := fun hx => by
        obtain ⟨j, hj, e⟩ := List.getElem_of_mem hx
        exact HN.out j x (by omega) (by rw [← e]; exact List.getElem?_eq_getElem hj) rfl
      have HM := Lib.hid hnot
      clear hnot
      go_wp2
      go_ret
      exact ⟨-1, rfl, ⟨fun h => by omega, fun h => absurd h HM.out⟩, rfl⟩

theorem contains_some {w : World} {S : Nat} {v : Value} {L : List Int} (h : IntRow w S v L) (x : Int) (hL : 0 < L.length) (hL2 : L.length ≤ 1000) (t : Bool) (ht : t = true ↔ x ∈ L) : Calls Try.prog 52 #[v, .int .i64 x] w fun e w' => e = .returned (.bool t) ∧ w = w' := by
  have HI := Lib.hid (index_any h x hL hL2)
  have HT := Lib.hid ht
  clear h ht hL hL2
  go_enter Try.func52, Try.ntmps52
  go_wp2_with fail
  refine HI.out.mono ?_
  rintro e w' ⟨r, rfl, hr, rfl⟩
  have key : decide (0 ≤ r) = t := by
    by_cases h0 : 0 ≤ r
    · rw [decide_eq_true h0, HT.out.2 (hr.1 h0)]
    · rw [decide_eq_false h0]
      cases t with
      | false => rfl
      | true => exact absurd (hr.2 (HT.out.1 rfl)) h0
  clear hr HI HT
  go_wp2
  go_ret
  exact ⟨rfl, rfl⟩


theorem contains_none (A : Option Addr) (cap : Nat) (x : Int) (w : World) : Calls Try.prog 52 #[.slice A 0 cap, .int .i64 x] w fun e w' => e = .returned (.bool false) ∧ w = w' := by
  have hi : Calls Try.prog 69 #[.slice A 0 cap, .int .i64 x] w fun e w' => e = .returned (.int .i64 (-1)) ∧ w = w' := by
    go_enter Try.func69, Try.ntmps69
    go_wp2
    go_loopw [8] (fun x8 wx => x8 = .int .i64 0 ∧ w = wx) (fun _ _ => 0)
    case atStart => exact ⟨rfl, rfl⟩
    case round =>
      obtain ⟨rfl, rfl⟩ := hrel
      go_wp2
      go_ret
      exact ⟨rfl, rfl⟩
  have HI := Lib.hid hi
  clear hi
  go_enter Try.func52, Try.ntmps52
  go_wp2_with fail
  refine HI.out.mono ?_
  rintro e w' ⟨rfl, rfl⟩
  go_wp2
  go_ret
  exact ⟨rfl, rfl⟩
theorem contains_any {w : World} {S : Nat} {v : Value} {L : List Int} (h : IntRow w S v L) (x : Int) (hL2 : L.length ≤ 1000) (t : Bool) (ht : t = true ↔ x ∈ L) : Calls Try.prog 52 #[v, .int .i64 x] w fun e w' => e = .returned (.bool t) ∧ w = w' := by
  by_cases hL : 0 < L.length
  · exact contains_some h x hL hL2 t ht
  · obtain rfl : L = [] := List.eq_nil_of_length_eq_zero (by omega)
    obtain ⟨A, cap, rfl, _, _⟩ := ownsRow_form h
    obtain rfl : t = false := by
      cases t with
      | false => rfl
      | true => exact absurd (ht.1 rfl) (by simp)
    exact contains_none A cap x w

theorem linked_any {w : World} {B p : Nat} {N : List Nd} {K : List Ky} (h : Stk w B p N K) {n : Nat} {x : Nd} (hx : N[n]? = some x) {up : Int} (hu : in64 up) :
    Calls Try.prog 31 #[ptr p, .int .i64 (n : Int), .int .i64 up] w fun e w' => ∃ t : Bool, e = .returned (.bool t) ∧ (x.u.length ≤ 8 → (t = true ↔ up ∈ upI x)) ∧ w = w' := by
  obtain ⟨vn, mf, mm, hc⟩ := h
  obtain ⟨c0, _, c2, _, _⟩ := hc.cells
  obtain ⟨g, cap, u, rfl, _, _, _, _, _, _, d2, hrow, _⟩ := hc.nodes.get hx
  obtain ⟨A, uc, rfl, _, _⟩ := ownsRow_form hrow
  have hn : n < N.length := (List.getElem?_eq_some_iff.1 hx).1
  have hlen := hc.len
  have g0 : (0 : Int) ≤ (n : Int) := by omega
  have g1 : (n : Int) < (N.length : Int) := by omega
  have hul : (upI x).length = x.u.length := by simp [upI]
  rw [hul] at d2
  have hxu : x.u.length ≤ 99 := Nat.le_trans (lk_mem (List.mem_of_getElem? hx)) hc.lks
  by_cases h8 : x.u.length ≤ 8
  · have g2 : decide ((x.u.length : Int) ≤ 8) = true := decide_eq_true (by omega)
    have HI := Lib.hid (contains_any hrow up (by omega) (decide (up ∈ upI x)) (by simp))
    rw [hul] at HI
    clear hc hrow hx
    go_enter Try.func31, Try.ntmps31
    go_wp2_with fail
    refine HI.out.mono ?_
    rintro e w' ⟨rfl, rfl⟩
    go_wp2
    go_ret
    exact ⟨_, rfl, fun _ => by simp, rfl⟩
  · have g2 : decide ((x.u.length : Int) ≤ 8) = false := decide_eq_false (by omega)
    obtain ⟨c, hrun⟩ := hc.many.look (r := (n : Int)) (a := up) (by constructor <;> omega) hu
    clear hc hrow hx
    go_enter Try.func31, Try.ntmps31
    go_wp2
    go_ret
    exact ⟨_, rfl, fun h => absurd h h8, rfl⟩

end Go.Proofs.Ytcpmgijakhhlkaa.Stack
