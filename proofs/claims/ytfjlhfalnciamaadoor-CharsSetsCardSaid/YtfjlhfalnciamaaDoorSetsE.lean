/- The numbers at which something may change (ref.Edges; law CharsSets), walked. -/
import Derived.Test.YtfjlhfalnciamaaDoorSetsD
namespace Go.Proofs.YtfjlhfalnciamaaDoor.Chars
open Go Go.RowKit Go.Proofs.Chars

/-- A list that rises, with one number more, if it is one of a set. -/
def withM (l : List Int) (n : Int) : List Int := if n ≤ 1114111 then withE l n else l
theorem withE_len : ∀ (l : List Int) (n : Int), l.length ≤ (withE l n).length ∧ (withE l n).length ≤ l.length + 1
  | [], n => by simp [withE]
  | x :: l, n => by
    have := withE_len l n
    rw [withE]
    split
    · simp; omega
    · split <;> simp
theorem withM_len (l : List Int) (n : Int) : l.length ≤ (withM l n).length ∧ (withM l n).length ≤ l.length + 1 := by
  unfold withM
  split
  · exact withE_len l n
  · exact ⟨Nat.le_refl _, Nat.le_succ _⟩
def edgeStep (l : List Int) (x : Rg) : List Int := if x.2 < 1114111 then withM (withM l (max x.1 0)) (max (x.2 + 1) 0) else withM l (max x.1 0)
def edgesE (L : List Rg) : List Int := L.foldl edgeStep [0]
theorem edgeStep_len (l : List Int) (x : Rg) : l.length ≤ (edgeStep l x).length ∧ (edgeStep l x).length ≤ l.length + 2 := by
  have h1 := withM_len l (max x.1 0)
  have h2 := withM_len (withM l (max x.1 0)) (max (x.2 + 1) 0)
  unfold edgeStep
  split <;> omega
theorem edges_len : ∀ (L : List Rg) (l : List Int), l.length ≤ (L.foldl edgeStep l).length ∧ (L.foldl edgeStep l).length ≤ l.length + 2 * L.length
  | [], l => by simp
  | x :: L, l => by
    have h1 := edgeStep_len l x
    have h2 := edges_len L (edgeStep l x)
    simp only [List.foldl_cons, List.length_cons]
    omega
theorem edgesE_len (L : List Rg) : 1 ≤ (edgesE L).length ∧ (edgesE L).length ≤ 1 + 2 * L.length := edges_len L [0]

set_option maxRecDepth 100000 in
theorem withM_any {w : World} {S : Nat} {v : Value} {E : List Int} {n : Int} (h : NRow w S v E) (hS : S ≤ w.heap.size) (hE : 0 < E.length) (hE2 : E.length ≤ 1000) (hn : 0 ≤ n) :
    Calls Tryd.prog 41 #[v, .int .i64 n] w fun e w' => ∃ v', e = .returned v' ∧ NRow w' S v' (withM E n) ∧ Below w.heap.size w w' := by
  by_cases hn2 : n ≤ 1114111
  · unfold withM
    rw [if_pos hn2]
    exact with_any h hS hE hE2 hn hn2
  · unfold withM
    rw [if_neg hn2]
    obtain ⟨PA, cap, rfl⟩ := h.form
    have HR := Lib.hid h
    clear h
    have s1 : decide (n < 0) = false := decide_eq_false (by omega)
    have s2 : decide (1114111 < n) = true := decide_eq_true (by omega)
    go_enter Tryd.func41, Tryd.ntmps41
    go_wp2_with fail
    go_ret
    exact ⟨_, rfl, HR.out, Below.refl _ _⟩

set_option maxHeartbeats 4000000 in
set_option maxRecDepth 100000 in
theorem refEdges_any {w : World} {S1 : Nat} {v : Value} {L : List Rg} (h : ERow w S1 v L) (hL : L.length ≤ 400) (hin : ∀ x ∈ L, in32 x) :
    Calls Tryd.prog 13 #[v] w fun e w' => ∃ v', e = .returned v' ∧ NRow w' w.heap.size v' (edgesE L) ∧ Below w.heap.size w w' := by
  obtain ⟨S, hS⟩ : ∃ S, S = w.heap.size := ⟨_, rfl⟩
  have HS := Lib.hid hS
  have hsz : S ≤ w.heap.size := by omega
  obtain ⟨PA, cap, rfl⟩ := h.form
  have HE := Lib.hid h
  have HIN := Lib.hid hin
  rw [← hS]
  clear h hin hS
  go_enter Tryd.func13, Tryd.ntmps13
  go_wp2_with fail
  go_loopw [3, 4] (fun x3 x4 wx => ∃ i : Nat, i ≤ L.length ∧ x4 = .int .i64 (i : Int) ∧ NRow wx S x3 (edgesE (L.take i)) ∧ Below S w wx) (fun _ x4 _ => L.length - (intOf x4).toNat)
  case atStart =>
    refine ⟨0, by omega, rfl, ?_, (Below.refl _ _).alloc hsz _⟩
    exact ⟨rfl, .inr ⟨w.heap.size, 1, #[.int .i64 0], rfl, hsz, heap_alloc_new _ _, Nat.le_refl _, by simp [maxLen], rfl, rfl⟩⟩
  case round =>
    obtain ⟨i, hil, rfl, hrow, hB⟩ := hrel
    have hszr : S ≤ wr.heap.size := Nat.le_trans hsz hB.size
    by_cases hlt : i < L.length
    · have p1 : decide ((i : Int) < (L.length : Int)) = true := decide_eq_true (by omega)
      have p1' : decide (i < L.length) = true := decide_eq_true hlt
      have p2 : (0 : Int) ≤ (i : Int) := by omega
      have p3 : (i : Int) < (L.length : Int) := by omega
      obtain ⟨g, cp, e9, _, k3, gc⟩ := HE.out.at (by omega)
      cases e9
      obtain ⟨x, hx⟩ : ∃ x, L[i]? = some x := ⟨L[i], List.getElem?_eq_getElem hlt⟩
      obtain ⟨hx1, hx2⟩ := HIN.out x (List.mem_of_getElem? hx)
      have HC := Lib.hid (gc i x hx)
      have c0 := (hB.cell (p := ⟨g, i * 2, none⟩) (by rw [HS.out]; exact k3)).trans HC.out.1
      have HK := Lib.hid k3
      have HB := Lib.hid hB
      obtain ⟨M, hM⟩ : ∃ M, edgesE (L.take i) = M := ⟨_, rfl⟩
      have hl1 := edgesE_len (L.take i)
      have hl2 : (L.take i).length ≤ 400 := by simp; omega
      have HN := Lib.hid (show edgesE (L.take (i + 1)) = edgeStep M x by
        rw [← hM, List.take_add_one, hx]
        simp [edgesE])
      rw [hM] at hrow hl1
      have hlw := withM_len M (max x.1 0)
      have HROW := Lib.hid hrow
      have HW1 := Lib.hid (withM_any (n := max x.1 0) hrow hszr (by omega) (by omega) (by omega))
      clear hrow hB gc hx hM k3
      go_wp2_with fail
      refine HW1.out.mono ?_
      rintro e w1 ⟨v1, rfl, hr1, hb1⟩
      have HB1 := Lib.hid (HB.out.trans (hb1.mono hszr))
      have hs1 : S ≤ w1.heap.size := Nat.le_trans hszr hb1.size
      have c1 := (HB1.out.cell (p := ⟨g, i * 2 + 1, none⟩) (by rw [HS.out]; exact HK.out)).trans HC.out.2
      have wx : IntKind.i64.wrap (x.2 + 1) = x.2 + 1 := IntWalk.i64_in _ (by omega)
      have HR1 := Lib.hid hr1
      by_cases h2 : x.2 < 1114111
      · have q2 : decide (x.2 < 1114111) = true := decide_eq_true h2
        have HN2 : Hid (edgesE (L.take (i + 1)) = withM (withM M (max x.1 0)) (max (x.2 + 1) 0)) := Lib.hid (by rw [HN.out]; unfold edgeStep; rw [if_pos h2])
        have HW2 := Lib.hid (withM_any (n := max (x.2 + 1) 0) hr1 hs1 (by omega) (by omega) (by omega))
        clear hr1 hb1 h2
        go_wp2_with fail
        refine HW2.out.mono ?_
        rintro e w2 ⟨v2, rfl, hr2, hb2⟩
        have HB2 := Lib.hid (HB1.out.trans (hb2.mono hs1))
        have HR2 := Lib.hid hr2
        clear hr2 hb2
        go_wp2_with fail
        go_roundw
        case rel => exact ⟨i + 1, by omega, by go_num, by rw [HN2.out]; exact HR2.out, HB2.out⟩
        case measure => simp [intOf]; omega
      · have q2 : decide (x.2 < 1114111) = false := decide_eq_false h2
        have HN2 : Hid (edgesE (L.take (i + 1)) = withM M (max x.1 0)) := Lib.hid (by rw [HN.out]; unfold edgeStep; rw [if_neg h2])
        clear hr1 hb1 h2
        go_wp2_with fail
        go_roundw
        case rel => exact ⟨i + 1, by omega, by go_num, by rw [HN2.out]; exact HR1.out, HB1.out⟩
        case measure => simp [intOf]; omega
    · have p1 : decide ((i : Int) < (L.length : Int)) = false := decide_eq_false (by omega)
      have p1' : decide (i < L.length) = false := decide_eq_false hlt
      rw [List.take_of_length_le (by omega)] at hrow
      have HR := Lib.hid hrow
      have HB := Lib.hid hB
      clear hrow hB
      go_wp2_with fail
      go_ret
      exact ⟨_, rfl, HR.out, HB.out⟩

end Go.Proofs.YtfjlhfalnciamaaDoor.Chars
