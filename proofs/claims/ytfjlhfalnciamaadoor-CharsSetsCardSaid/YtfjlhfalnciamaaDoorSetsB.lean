/- Are ranges those of the document? (alike; law CharsSets), walked. -/
import Derived.Test.YtfjlhfalnciamaaDoorSetsA
import Derived.Test.YtfjlhfalnciamaaDoorCharsL
namespace Go.Proofs.YtfjlhfalnciamaaDoor.Chars
open Go Go.RowKit Go.Proofs.Chars

set_option maxHeartbeats 4000000 in
set_option maxRecDepth 100000 in
theorem alike_any {w : World} {S : Nat} {va vb : Value} {A B : List Rg} (Ha : Rgs w va A) (Hb : ERow w S vb B) (hAl : A.length ≤ 10000) (hBl : B.length ≤ 10000) :
    Calls Tryd.prog 16 #[va, vb] w fun e w' => e = .returned (.bool (eqB A B)) ∧ Below w.heap.size w w' := by
  obtain ⟨hin, PA, capA, rfl, hc1, hc2, hc3⟩ := Ha
  obtain ⟨PB, capB, rfl⟩ := Hb.form
  have HIN := Lib.hid hin
  have HC := Lib.hid hc3
  have HB := Lib.hid Hb
  clear Hb hin hc3
  by_cases hlen : A.length = B.length
  · have hd : ((A.length : Int) != (B.length : Int)) = false := by simp [hlen]
    have HLEN := Lib.hid hlen
    clear hlen
    go_enter Tryd.func16, Tryd.ntmps16
    go_wp2_with fail
    go_loopw [5] (fun i wx => ∃ k : Nat, k ≤ A.length ∧ i = .int .i64 (k : Int) ∧ A.take k = B.take k ∧ Below w.heap.size w wx) (fun i _ => A.length - (intOf i).toNat)
    case atStart => exact ⟨0, Nat.zero_le _, rfl, by simp, Below.refl _ _⟩
    case round =>
      obtain ⟨k, hk, rfl, ht, hB⟩ := hrel
      have HT := Lib.hid ht
      have HBE := Lib.hid hB
      by_cases hlt : k < A.length
      · have hltb : k < B.length := by have := HLEN.out; omega
        have p1 : decide ((k : Int) < (A.length : Int)) = true := decide_eq_true (by omega)
        have p1' : decide (k < A.length) = true := decide_eq_true hlt
        have p2 : (0 : Int) ≤ (k : Int) := by omega
        have p3 : (k : Int) < (A.length : Int) := by omega
        have p4 : (k : Int) < (B.length : Int) := by omega
        obtain ⟨b, off, rfl, h13, hcell⟩ := HC.out (by omega)
        obtain ⟨g, cp, e9, h22, h23, hcell'⟩ := HB.out.at (by omega)
        cases e9
        obtain ⟨x, hx⟩ : ∃ x, A[k]? = some x := ⟨A[k], List.getElem?_eq_getElem hlt⟩
        obtain ⟨y, hy⟩ : ∃ y, B[k]? = some y := ⟨B[k], List.getElem?_eq_getElem hltb⟩
        obtain ⟨hx1, hx2⟩ := HIN.out x (List.mem_of_getElem? hx)
        have e0 := (hB.cell (p := ⟨b, off + k * 2, none⟩) h13).trans (hcell k x hx).1
        have e1 := (hB.cell (p := ⟨b, off + k * 2 + 1, none⟩) h13).trans (hcell k x hx).2
        have e2 := (hB.cell (p := ⟨g, k * 2, none⟩) h23).trans (hcell' k y hy).1
        have e3 := (hB.cell (p := ⟨g, k * 2 + 1, none⟩) h23).trans (hcell' k y hy).2
        have w1 : IntKind.i64.wrap x.1 = x.1 := IntWalk.i64_in _ (by omega)
        have w2 : IntKind.i64.wrap x.2 = x.2 := IntWalk.i64_in _ (by omega)
        have HXY : Hid (A[k] = x ∧ B[k] = y) := Lib.hid ⟨(List.getElem?_eq_some_iff.1 hx).2, (List.getElem?_eq_some_iff.1 hy).2⟩
        have HF : Hid (¬ x = y → eqB A B = false) := Lib.hid fun hxy => by
          unfold eqB
          apply decide_eq_false
          rintro rfl
          exact hxy (HXY.out.1.symm.trans HXY.out.2)
        have HB2 := Lib.hid (fun n => below_drewN HBE.out n)
        clear hx hy hcell hcell' ht hB hx1 hx2
        by_cases h1 : x.1 = y.1
        · have s1 : (x.1 != y.1) = false := by simp [h1]
          by_cases h2 : x.2 = y.2
          · have s2 : (x.2 != y.2) = false := by simp [h2]
            have HT2 : Hid (A.take (k + 1) = B.take (k + 1)) := by
              rw [List.take_succ_eq_append_getElem hlt, List.take_succ_eq_append_getElem hltb, HT.out, HXY.out.1, HXY.out.2, show x = y from Prod.ext h1 h2]
              exact Lib.hid rfl
            clear h1 h2 HXY HF
            go_wp2_with fail
            go_quiet (fail)
            go_wp2
            go_roundw
            case rel => exact ⟨k + 1, by omega, by go_num, HT2.out, HB2.out _⟩
            case measure => simp [intOf]; omega
          · have s2 : (x.2 != y.2) = true := by simp [h2]
            have HF2 := Lib.hid (HF.out fun e => h2 (by rw [e]))
            clear h1 h2 HXY HF
            go_wp2_with fail
            go_quiet (fail)
            go_wp2
            go_ret
            exact ⟨by rw [HF2.out]; rfl, HB2.out _⟩
        · have s1 : (x.1 != y.1) = true := by simp [h1]
          have HF2 := Lib.hid (HF.out fun e => h1 (by rw [e]))
          clear h1 HXY HF
          go_wp2_with fail
          go_quiet (fail)
          go_wp2
          go_ret
          exact ⟨by rw [HF2.out]; rfl, HB2.out _⟩
      · have hfin : eqB A B = true := by
          unfold eqB
          apply decide_eq_true
          have h1 := HT.out
          rw [List.take_of_length_le (by omega), List.take_of_length_le (by have := HLEN.out; omega)] at h1
          exact h1
        have HF := Lib.hid hfin
        obtain rfl : k = A.length := by omega
        clear hfin ht hB
        go_wp2
        go_ret
        exact ⟨by rw [HF.out]; rfl, HBE.out⟩
  · have hd : ((A.length : Int) != (B.length : Int)) = true := by simp; omega
    have hfin : eqB A B = false := by
      unfold eqB
      exact decide_eq_false fun h => hlen (by rw [h])
    rw [hfin]
    clear hfin hlen
    go_enter Tryd.func16, Tryd.ntmps16
    go_wp2_with fail
    go_ret
    exact ⟨rfl, Below.refl _ _⟩

end Go.Proofs.YtfjlhfalnciamaaDoor.Chars
