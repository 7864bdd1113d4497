/- The document's ranges in memory (law CharsSets): rows of them; Own, Has, walked. -/
import Derived.Test.YtfjlhfalnciamaaDoorPartsC
namespace Go.Proofs.YtfjlhfalnciamaaDoor.Chars
open Go Go.RowKit Go.Proofs.Chars

def ecells (L : List Rg) : List Value := L.flatMap fun x => [.int .i64 x.1, .int .i64 x.2]
theorem ecells_len (L : List Rg) : (ecells L).length = L.length * 2 := by
  induction L with
  | nil => rfl
  | cons x r ih => simp only [ecells, List.flatMap_cons, List.length_append] at ih ⊢; rw [ih]; simp; omega
theorem ecells_append (L M : List Rg) : ecells (L ++ M) = ecells L ++ ecells M := by simp [ecells]
theorem ecells_get {L : List Rg} {i : Nat} {x : Rg} (h : L[i]? = some x) : (ecells L)[i * 2]? = some (.int .i64 x.1) ∧ (ecells L)[i * 2 + 1]? = some (.int .i64 x.2) := by
  induction L generalizing i with
  | nil => cases h
  | cons y r ih =>
    cases i with
    | zero => simp at h; subst h; simp [ecells]
    | succ i =>
      simp at h
      have := ih h
      simp only [ecells, List.flatMap_cons] at this ⊢
      rw [show (i + 1) * 2 = i * 2 + 2 by omega, show i * 2 + 2 + 1 = i * 2 + 1 + 2 by omega]
      rw [List.getElem?_append_right (by simp), List.getElem?_append_right (by simp)]
      simpa using this
/-- A row of the document's ranges. -/
def ERow (w : World) (S : Nat) (v : Value) (L : List Rg) : Prop := w.ownsRow S 80 2 v L.length (ecells L)
theorem ERow.stay {w w' : World} {S : Nat} {v : Value} {L : List Rg} (h : ERow w S v L) (hb : RowKit.Below w.heap.size w w') : ERow w' S v L := own_agree h fun k hk => hb.block k (own_block h hk).2.1
theorem ERow.form {w : World} {S : Nat} {v : Value} {L : List Rg} (h : ERow w S v L) : ∃ A cap, v = .slice A L.length cap := by
  rcases h.2 with ⟨rfl, h0⟩ | ⟨g, cap, cur, rfl, _⟩
  · exact ⟨none, 0, by rw [h0]⟩
  · exact ⟨_, cap, rfl⟩
theorem ERow.at {w : World} {S : Nat} {v : Value} {L : List Rg} (h : ERow w S v L) (hn : 0 < L.length) : ∃ g cap, v = .slice (some ⟨g, 0, none⟩) L.length cap ∧ L.length ≤ maxLen ∧ g < w.heap.size ∧ ∀ (i : Nat) (x : Rg), L[i]? = some x → w.cell? ⟨g, i * 2, none⟩ = some (.int .i64 x.1) ∧ w.cell? ⟨g, i * 2 + 1, none⟩ = some (.int .i64 x.2) := by
  have h' := h
  rcases h.2 with ⟨_, h0⟩ | ⟨g, cap, cur, hv, h1, h3, h4, h5, h6, h7⟩
  · omega
  · refine ⟨g, cap, hv, Nat.le_trans h4 h5, (Array.getElem?_eq_some_iff.1 h3).1, fun i x hx => ?_⟩
    have hc := World.ownsRow.cells h' (g := g) (by rw [hv]; rfl)
    have h2 := ecells_get hx
    have e1 := hc _ _ h2.1
    have e2 := hc _ _ h2.2
    rw [addr_add] at e1 e2
    exact ⟨e1, e2⟩
theorem infoE : (Tryd.prog.info? 80).map (fun i => (i.zero, i.size, i.bytes)) = some (some (.agg #[.int .i64 0, .int .i64 0]), 2, 16) := by kernel_rfl

set_option maxHeartbeats 4000000 in
set_option maxRecDepth 100000 in
theorem own_any {w : World} {va : Value} {L : List Rg} (H : Rgs w va L) (hL : L.length ≤ 1000) :
    Calls Tryd.prog 12 #[va] w fun e w' => ∃ v, e = .returned v ∧ ERow w' w.heap.size v L ∧ Below w.heap.size w w' := by
  obtain ⟨i0, hi, hz0, hz1, hz2⟩ := info_parts infoE
  obtain ⟨S, hS⟩ : ∃ S, S = w.heap.size := ⟨_, rfl⟩
  have HS := Lib.hid hS
  have hsz : S ≤ w.heap.size := by omega
  obtain ⟨hin, A, cap, rfl, hc1, hc2, hc3⟩ := H
  have HIN := Lib.hid hin
  have HC := Lib.hid hc3
  clear hS hin hc3
  go_enter Tryd.func12, Tryd.ntmps12
  go_wp2_with fail
  go_loopw [3, 4] (fun x3 x4 wx => ∃ i : Nat, i ≤ L.length ∧ x4 = .int .i64 (i : Int) ∧ ERow wx S x3 (L.take i) ∧ Below S w wx) (fun _ x4 _ => L.length - (intOf x4).toNat)
  case atStart => exact ⟨0, by omega, rfl, ⟨rfl, .inl ⟨rfl, rfl⟩⟩, Below.refl _ _⟩
  case round =>
    obtain ⟨i, hil, rfl, hrow, hB⟩ := hrel
    have hszr : S ≤ wr.heap.size := Nat.le_trans hsz hB.size
    by_cases hlt : i < L.length
    · have p1 : decide ((i : Int) < (L.length : Int)) = true := decide_eq_true (by omega)
      have p1' : decide (i < L.length) = true := decide_eq_true hlt
      have p2 : (0 : Int) ≤ (i : Int) := by omega
      have p3 : (i : Int) < (L.length : Int) := by omega
      obtain ⟨b, off, rfl, bl, hc⟩ := HC.out (by omega)
      obtain ⟨x, hx⟩ : ∃ x, L[i]? = some x := ⟨L[i], List.getElem?_eq_getElem hlt⟩
      obtain ⟨hx1, hx2⟩ := HIN.out x (List.mem_of_getElem? hx)
      have hbS : b < S := by rw [HS.out]; exact bl
      have c0 := (hB.cell (p := ⟨b, off + i * 2, none⟩) hbS).trans (hc i x hx).1
      have c1 := (hB.cell (p := ⟨b, off + i * 2 + 1, none⟩) hbS).trans (hc i x hx).2
      have w1 : IntKind.i64.wrap x.1 = x.1 := IntWalk.i64_in _ (by omega)
      have w2 : IntKind.i64.wrap x.2 = x.2 := IntWalk.i64_in _ (by omega)
      have HN := Lib.hid (show L.take (i + 1) = L.take i ++ [x] by rw [List.take_add_one, hx]; rfl)
      obtain ⟨M, hM⟩ : ∃ M, L.take i = M := ⟨_, rfl⟩
      have hMl : M.length ≤ 1000 := by rw [← hM, List.length_take]; omega
      rw [hM] at hrow HN
      obtain ⟨A3, cp3, rfl⟩ := hrow.form
      have HROW := Lib.hid (show wr.ownsRow S 80 2 (.slice A3 M.length cp3) M.length (ecells M) from hrow)
      have HB := Lib.hid hB
      clear hrow hB hc hx hM hx1 hx2
      go_wp2_with fail
      go_region_law (first
        | (refine step_append_lies _ (by rfl) _ _ _ (by rfl) S 80 i0 _ 2 16 Tryd.underlying24 hi hz0 hz1 hz2 rfl (by decide) (.slice A3 M.length cp3) M.length (ecells M) (by rfl) (show World.ownsRow _ S 80 2 (.slice A3 M.length cp3) M.length (ecells M) from (HROW.out.alloc _)) ⟨wr.heap.size, 0, none⟩ 1 1 [.int .i64 x.1, .int .i64 x.2] (by rfl) (by rfl) (World.news_of_block (heap_alloc_new _ _)) (by simp [Value.oneCell']) (by omega) (by unfold maxLen; omega) (by omega) (by simp; omega) (wr.heap.size + 1) (by simp) ?_; intro gg c5 w5 hown5 hgrow hat hlt5))
      all_goals
        have hbd : Below wr.heap.size wr (wr.alloc (.cells #[.int .i64 x.1, .int .i64 x.2] 80)).drew := ((RowKit.Below.refl _ _).alloc (Nat.le_refl _) _).drew
        have HB5 := Lib.hid ((HB.out.trans (hbd.mono hszr)).grown hgrow (by simp; omega) (fun q hq => (own_block HROW.out hq).1))
        have HW5 := Lib.hid hown5
        clear hown5 hgrow hat hlt5 hbd
        go_wp2_with fail
        go_roundw
        case rel =>
          refine ⟨i + 1, by omega, by go_num, ?_, HB5.out⟩
          rw [HN.out]
          unfold ERow
          rw [ecells_append, List.length_append]
          exact HW5.out
        case measure => simp [intOf]; omega
    · have p1 : decide ((i : Int) < (L.length : Int)) = false := decide_eq_false (by omega)
      have p1' : decide (i < L.length) = false := decide_eq_false hlt
      rw [List.take_of_length_le (by omega)] at hrow
      have HROW := Lib.hid hrow
      have HB := Lib.hid hB
      clear hrow hB
      go_wp2_with fail
      go_ret
      have := HS.out
      subst this
      exact ⟨_, rfl, HROW.out, HB.out⟩

set_option maxRecDepth 100000 in
theorem refHas_any {w : World} {S : Nat} {v : Value} {L : List Rg} (h : ERow w S v L) (hL : L.length ≤ 2000) (r : Int) (t : Bool) (ht : t = true ↔ memU L r) :
    Calls Tryd.prog 14 #[v, .int .i64 r] w fun e w' => e = .returned (.bool t) ∧ w = w' := by
  obtain ⟨A, cap, rfl⟩ := h.form
  have HE := Lib.hid h
  have HT := Lib.hid ht
  clear h ht
  go_enter Tryd.func14, Tryd.ntmps14
  go_wp2_with fail
  go_loopw [5] (fun x5 wx => ∃ i : Nat, i ≤ L.length ∧ x5 = .int .i64 (i : Int) ∧ (∀ (j : Nat) (y : Rg), j < i → L[j]? = some y → ¬ (0 ≤ r ∧ r ≤ most ∧ y.1 ≤ r ∧ r ≤ y.2)) ∧ w = wx) (fun x5 _ => L.length - (intOf x5).toNat)
  case atStart => exact ⟨0, by omega, rfl, fun j y h => by omega, rfl⟩
  case round =>
    obtain ⟨i, hil, rfl, hno, rfl⟩ := hrel
    have HN := Lib.hid hno
    clear hno
    by_cases hlt : i < L.length
    · have p1 : decide ((i : Int) < (L.length : Int)) = true := decide_eq_true (by omega)
      have p1' : decide (i < L.length) = true := decide_eq_true hlt
      have p2 : (0 : Int) ≤ (i : Int) := by omega
      have p3 : (i : Int) < (L.length : Int) := by omega
      obtain ⟨g, cp, e9, _, _, gc⟩ := HE.out.at (by omega)
      cases e9
      obtain ⟨x, hx⟩ : ∃ x, L[i]? = some x := ⟨L[i], List.getElem?_eq_getElem hlt⟩
      obtain ⟨c0, c1⟩ := gc i x hx
      have hnext : ¬ (0 ≤ r ∧ r ≤ most ∧ x.1 ≤ r ∧ r ≤ x.2) → ∀ (j : Nat) (y : Rg), j < i + 1 → L[j]? = some y → ¬ (0 ≤ r ∧ r ≤ most ∧ y.1 ≤ r ∧ r ≤ y.2) := fun hx2 j y hj hy => by
        by_cases e : j = i
        · subst e
          rw [hx] at hy
          cases hy
          exact hx2
        · exact HN.out j y (by omega) hy
      have HNX := Lib.hid hnext
      have HX := Lib.hid hx
      clear gc hnext hx
      by_cases h1 : 0 ≤ r
      · have s1 : decide (0 ≤ r) = true := decide_eq_true h1
        by_cases h2 : r ≤ 1114111
        · have s2 : decide (r ≤ 1114111) = true := decide_eq_true h2
          by_cases h3 : x.1 ≤ r
          · have s3 : decide (x.1 ≤ r) = true := decide_eq_true h3
            by_cases h4 : r ≤ x.2
            · have s4 : decide (r ≤ x.2) = true := decide_eq_true h4
              obtain rfl : t = true := HT.out.2 ⟨h1, h2, x, List.mem_of_getElem? HX.out, h3, h4⟩
              go_wp2_with fail
              go_ret
              exact ⟨rfl, rfl⟩
            · have s4 : decide (r ≤ x.2) = false := decide_eq_false h4
              go_wp2_with fail
              go_roundw
              case rel => exact ⟨i + 1, by omega, by go_num, HNX.out (fun h => h4 h.2.2.2), by trivial⟩
              case measure => simp [intOf]; omega
          · have s3 : decide (x.1 ≤ r) = false := decide_eq_false h3
            go_wp2_with fail
            go_roundw
            case rel => exact ⟨i + 1, by omega, by go_num, HNX.out (fun h => h3 h.2.2.1), by trivial⟩
            case measure => simp [intOf]; omega
        · have s2 : decide (r ≤ 1114111) = false := decide_eq_false h2
          go_wp2_with fail
          go_roundw
          case rel => exact ⟨i + 1, by omega, by go_num, HNX.out (fun h => h2 h.2.1), by trivial⟩
          case measure => simp [intOf]; omega
      · have s1 : decide (0 ≤ r) = false := decide_eq_false h1
        go_wp2_with fail
        go_roundw
        case rel => exact ⟨i + 1, by omega, by go_num, HNX.out (fun h => h1 h.1), by trivial⟩
        case measure => simp [intOf]; omega
    · have p1 : decide ((i : Int) < (L.length : Int)) = false := decide_eq_false (by omega)
      have p1' : decide (i < L.length) = false := decide_eq_false hlt
      obtain rfl : t = false := by
        cases t with
        | false => rfl
        | true =>
          obtain ⟨h1, h2, x, hx, h3⟩ := HT.out.1 rfl
          obtain ⟨j, hj⟩ := List.mem_iff_getElem?.1 hx
          have := (List.getElem?_eq_some_iff.1 hj).1
          exact absurd ⟨h1, h2, h3⟩ (HN.out j x (by omega) hj)
      go_wp2_with fail
      go_ret
      exact ⟨rfl, rfl⟩

end Go.Proofs.YtfjlhfalnciamaaDoor.Chars
