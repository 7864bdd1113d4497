/- Are sets alike (Same), how many numbers (Count, Empty), is a number in a set (Has), all numbers (All), walked. -/
import Derived.Test.YtfjlhfalnciamaaDoorCharsK
import Derived.Laws.StructEq
namespace Go.Proofs.YtfjlhfalnciamaaDoor.Chars
open Go Go.RowKit Go.Proofs.Chars

def eqB (A B : List Rg) : Bool := decide (A = B)
def rgV (x : Rg) : Value := .agg #[.int .i32 x.1, .int .i32 x.2]
theorem run_neq_rg (x y : Rg) (w : World) : (binOp .neq 44 (.agg #[.int .i32 x.1, .int .i32 x.2]) (.agg #[.int .i32 y.1, .int .i32 y.2])).run Tryd.prog w = .ok (.bool (!(x.1 == y.1 && x.2 == y.2))) w := by
  have u3 := Tryd.underlying21
  have a3 := Tryd.isAgg21
  have z3 := Tryd.sizeOf21
  have hS : Tryd.prog.underlying 44 = some (.struct (Tryd.prog.fieldsOf 44)) := by kernel_rfl
  have hp : Tryd.prog.stoodInHeld 44 = false := by kernel_rfl
  rw [run_neq_struct, show (10000 : Nat) = 9999 + 1 from rfl, run_equalIn_agg w 9999 44 _ _ hS hp]
  simp only [Program.fieldsOf, Tryd.underlying44]
  go_simp
  by_cases h1 : x.fst = y.fst <;> by_cases h2 : x.snd = y.snd <;> simp [h1, h2]
theorem guard44 : Tryd.prog.eqGuardType Tryd.prog.depth 44 = false := by kernel_rfl
theorem Rgs.at {w : World} {v : Value} {L : List Rg} (h : Rgs w v L) (hn : 0 < L.length) : ∃ b off cap, v = .slice (some ⟨b, off, none⟩) L.length cap ∧ L.length ≤ cap ∧ cap ≤ maxLen ∧ b < w.heap.size ∧ ∀ i x, L[i]? = some x → w.cell? ⟨b, off + i * 2, none⟩ = some (.int .i32 x.1) ∧ w.cell? ⟨b, off + i * 2 + 1, none⟩ = some (.int .i32 x.2) := by
  obtain ⟨_, A, cap, rfl, h1, h2, h3⟩ := h
  obtain ⟨b, off, rfl, hb, hc⟩ := h3 hn
  exact ⟨b, off, cap, rfl, h1, h2, hb, hc⟩

set_option maxRecDepth 100000 in
theorem equal_any {w : World} {va vb : Value} {A B : List Rg} (Ha : Rgs w va A) (Hb : Rgs w vb B) (hAl : A.length ≤ 100000) :
    Calls Tryd.prog 46 #[va, vb] w fun e w' => e = .returned (.bool (eqB A B)) ∧ Below w.heap.size w w' := by
  have hla := fun W => Ha.len 3 W
  have hlb := fun W => Hb.len 3 W
  have hla1 := hla w
  have hlb1 := hlb w
  have HLA := Lib.hid hla
  have HA := Lib.hid Ha
  have HB := Lib.hid Hb
  have hg := guard44
  clear Ha Hb hla hlb
  by_cases hlen : A.length = B.length
  · have hd : ((A.length : Int) != (B.length : Int)) = false := by simp [hlen]
    have HLEN := Lib.hid hlen
    clear hlen
    go_enter Tryd.func46, Tryd.ntmps46
    go_wp2_with fail
    go_loopw [5, 13] (fun x i wx => ∃ k : Nat, k ≤ A.length ∧ i = .int .i64 (k : Int) ∧ A.take k = B.take k ∧ Below w.heap.size w wx) (fun _ i _ => A.length - (intOf i).toNat)
    case atStart => exact ⟨0, Nat.zero_le _, rfl, by simp, Below.refl _ _⟩
    case round =>
      obtain ⟨k, hk, rfl, ht, hB⟩ := hrel
      have HT := Lib.hid ht
      have HBE := Lib.hid hB
      have hla1 := HLA.out wr
      by_cases hlt : k < A.length
      · have hltb : k < B.length := by have := HLEN.out; omega
        obtain ⟨b, off, cap, rfl, h11, h12, h13, hcell⟩ := (HA.out.stay hB).at (by omega)
        obtain ⟨b', off', cap', rfl, h21, h22, h23, hcell'⟩ := (HB.out.stay hB).at (by omega)
        obtain ⟨x, hx⟩ : ∃ x, A[k]? = some x := ⟨A[k], List.getElem?_eq_getElem hlt⟩
        obtain ⟨y, hy⟩ : ∃ y, B[k]? = some y := ⟨B[k], List.getElem?_eq_getElem hltb⟩
        obtain ⟨e0, e1⟩ := hcell k x hx
        obtain ⟨e2, e3⟩ := hcell' k y hy
        have hne := fun W => run_neq_rg x y W
        have HXY : Hid (A[k] = x ∧ B[k] = y) := Lib.hid ⟨(List.getElem?_eq_some_iff.1 hx).2, (List.getElem?_eq_some_iff.1 hy).2⟩
        clear hx hy hcell hcell' ht hB
        by_cases hxy : x = y
        · have hb2 : (x.1 == y.1 && x.2 == y.2) = true := by subst hxy; simp
          rw [hb2] at hne
          have HT2 : Hid (A.take (k + 1) = B.take (k + 1)) := by
            rw [List.take_succ_eq_append_getElem hlt, List.take_succ_eq_append_getElem hltb, HT.out, HXY.out.1, HXY.out.2, hxy]
            exact Lib.hid rfl
          have HB2 := Lib.hid (fun n => below_drewN HBE.out n)
          clear hb2 hxy
          go_wp2_with fail
          go_quiet (fail)
          go_wp2
          go_roundw
          case rel => exact ⟨k + 1, by omega, by go_num, HT2.out, HB2.out _⟩
          case measure => simp [intOf]; omega
        · have hb2 : (x.1 == y.1 && x.2 == y.2) = false := by
            apply Bool.eq_false_iff.2
            intro h
            simp at h
            exact hxy (Prod.ext h.1 h.2)
          rw [hb2] at hne
          have hfin : eqB A B = false := by
            unfold eqB
            apply decide_eq_false
            rintro rfl
            exact hxy (HXY.out.1.symm.trans HXY.out.2)
          have HF := Lib.hid hfin
          have HB2 := Lib.hid (fun n => below_drewN HBE.out n)
          clear hb2 hxy hfin
          go_wp2_with fail
          go_quiet (fail)
          go_wp2
          go_ret
          exact ⟨by rw [HF.out]; rfl, HB2.out _⟩
      · have hfin : eqB A B = true := by
          unfold eqB
          apply decide_eq_true
          have h1 := HT.out
          rw [List.take_of_length_le (by omega), List.take_of_length_le (by have := HLEN.out; omega)] at h1
          exact h1
        have HF := Lib.hid hfin
        obtain rfl : k = A.length := by omega
        clear hfin ht hB
        go_wp2
        go_ret
        exact ⟨by rw [HF.out]; rfl, HBE.out⟩
  · have hd : ((A.length : Int) != (B.length : Int)) = true := by simp; omega
    have hfin : eqB A B = false := by
      unfold eqB
      exact decide_eq_false fun h => hlen (by rw [h])
    rw [hfin]
    clear hfin hlen
    go_enter Tryd.func46, Tryd.ntmps46
    go_wp2_with fail
    go_ret
    exact ⟨rfl, Below.refl _ _⟩

/-- Have two sets the same numbers? -/
def SameSet (L M : List Rg) : Prop := ∀ r, memU L r ↔ memU M r
set_option maxRecDepth 100000 in
theorem same_any {w : World} {va vb : Value} {L M : List Rg} (Ha : Rgs w va L) (Hb : Rgs w vb M) (hL : L.length ≤ 50000) (hM : M.length ≤ 50000) (t : Bool) (ht : t = true ↔ SameSet L M) :
    Calls Tryd.prog 25 #[va, vb] w fun e w' => e = .returned (.bool t) ∧ Below w.heap.size w w' := by
  have HO := Lib.hid (of_any Ha (by omega))
  have HHB := Lib.hid Hb
  have HT := Lib.hid ht
  clear Ha Hb ht
  go_enter Tryd.func25, Tryd.ntmps25
  go_wp2_with fail
  refine HO.out.mono ?_
  rintro e w1 ⟨v1, A, rfl, hra, hofa, hola, hb1⟩
  have HO2 := Lib.hid (of_any (HHB.out.stay hb1) (by omega))
  have HRA := Lib.hid hra
  have HOA := Lib.hid hofa
  have HB1 := Lib.hid hb1
  clear hra hofa hb1 HO
  go_wp2_with fail
  refine HO2.out.mono ?_
  rintro e w2 ⟨v2, B, rfl, hrb, hofb, holb, hb2⟩
  have HB2 : Hid (Below w.heap.size w w2) := HB1.out.trans (hb2.mono HB1.out.size)
  have HE := Lib.hid (equal_any ((HRA.out.stay hb2).rgs (canon_in32 HOA.out.1 (Int.le_refl _))) (hrb.rgs (canon_in32 hofb.1 (Int.le_refl _))) (by omega))
  have heq : eqB A B = t := by
    have h1 := HOA.out.same hofb
    unfold eqB
    cases t with
    | true => exact decide_eq_true (h1.2 (HT.out.1 rfl))
    | false => exact decide_eq_false fun h => by have := HT.out.2 (h1.1 h); cases this
  rw [heq] at HE
  have hsz := HB2.out.size
  clear hrb hofb hb2 HO2 heq HT
  go_wp2_with fail
  refine HE.out.mono ?_
  rintro e w3 ⟨rfl, hb3⟩
  have HB3 : Hid (Below w.heap.size w w3) := HB2.out.trans (hb3.mono hsz)
  clear hb3 HE
  go_wp2
  go_ret
  exact ⟨rfl, HB3.out⟩

theorem countC_bound : ∀ (L : List Rg) (b : Int), Canon b L → 0 ≤ b → 0 ≤ countC L ∧ countC L + b ≤ most + 1 ∨ L = [] 
  | [], _, _, _ => .inr rfl
  | x :: l, b, hc, hb => .inl (by
    have h1 := hc.1
    have h2 := hc.2.1
    have h3 := hc.2.2.1
    rw [countC]
    rcases countC_bound l (x.2 + 2) hc.2.2.2 (by omega) with ⟨h4, h5⟩ | rfl
    · exact ⟨by omega, by omega⟩
    · simp only [countC]; exact ⟨by omega, by omega⟩)
theorem countC_in {L : List Rg} (hc : Canon 0 L) : 0 ≤ countC L ∧ countC L ≤ 1114112 := by
  rcases countC_bound L 0 hc (Int.le_refl _) with ⟨h1, h2⟩ | rfl
  · unfold most at h2; exact ⟨h1, by omega⟩
  · simp [countC]
theorem countC_app (L M : List Rg) : countC (L ++ M) = countC L + countC M := by
  induction L with
  | nil => simp [countC]
  | cons x l ih => rw [List.cons_append, countC, countC, ih]; omega
theorem countC_take_le : ∀ {L : List Rg} (k : Nat), (∀ x ∈ L, x.1 ≤ x.2) → 0 ≤ countC (L.take k) ∧ countC (L.take k) ≤ countC L
  | L, k, h => by
    have nn : ∀ M : List Rg, (∀ x ∈ M, x.1 ≤ x.2) → 0 ≤ countC M := fun M => by
      induction M with
      | nil => intro _; simp [countC]
      | cons x l ih => intro h; have h1 := h x List.mem_cons_self; have := ih fun y hy => h y (List.mem_cons_of_mem _ hy); rw [countC]; omega
    have e : countC L = countC (L.take k) + countC (L.drop k) := by rw [← countC_app, List.take_append_drop]
    have h1 := nn (L.take k) fun x hx => h x (List.mem_of_mem_take hx)
    have h2 := nn (L.drop k) fun x hx => h x (List.mem_of_mem_drop hx)
    omega

set_option maxRecDepth 100000 in
theorem count_any {w : World} {va : Value} {L : List Rg} (H : Rgs w va L) (hL : L.length ≤ 50000) :
    Calls Tryd.prog 23 #[va] w fun e w' => ∃ O, e = .returned (.int .i64 (countC O)) ∧ IsOf L O ∧ Below w.heap.size w w' := by
  have HO := Lib.hid (of_any H (by omega))
  clear H
  go_enter Tryd.func23, Tryd.ntmps23
  go_wp2_with fail
  refine HO.out.mono ?_
  rintro e w1 ⟨vo, O, rfl, hro, hof, hol, hb1⟩
  have hsz := hb1.size
  have hlen1 := (hro.rgs (canon_in32 hof.1 (Int.le_refl _))).len 3 w1
  have HRO := Lib.hid hro
  have HOF := Lib.hid hof
  have HB1 := Lib.hid hb1
  clear hro hof hb1 HO
  go_wp2_with fail
  go_loopw [3, 5, 9] (fun n x i wx => ∃ k : Nat, k ≤ O.length ∧ i = .int .i64 (k : Int) ∧ n = .int .i64 (countC (O.take k)) ∧ Below w1.heap.size w1 wx) (fun _ _ i _ => O.length - (intOf i).toNat)
  case atStart => exact ⟨0, Nat.zero_le _, rfl, rfl, Below.refl _ _⟩
  case round =>
    obtain ⟨k, hk, rfl, rfl, hB⟩ := hrel
    have HB := Lib.hid hB
    have hall := canon_all HOF.out.1 (Int.le_refl _)
    have hcin := countC_in HOF.out.1
    have hct := countC_take_le k fun x hx => (hall x hx).2.1
    by_cases hlt : k < O.length
    · obtain ⟨g, cap, rfl, h31, h32, h33, h34, h35, hcell⟩ := HRO.out.at (by omega)
      obtain ⟨x, hx⟩ : ∃ x, O[k]? = some x := ⟨O[k], List.getElem?_eq_getElem hlt⟩
      obtain ⟨c0, c1⟩ := hcell k x hx
      have e0 := (hB.cell (p := ⟨g, k * 2, none⟩) h33).trans c0
      have e1 := (hB.cell (p := ⟨g, k * 2 + 1, none⟩) h33).trans c1
      have hxv := hall x (List.mem_of_getElem? hx)
      have hx1 := hxv.1
      have hx2 := hxv.2.1
      have hx3 := hxv.2.2
      unfold most at hx3
      have hct2 := countC_take_le (k + 1) fun x hx => (hall x hx).2.1
      have hst : countC (O.take (k + 1)) = countC (O.take k) + (x.2 - x.1 + 1) := by
        rw [List.take_succ_eq_append_getElem hlt, countC_app, (List.getElem?_eq_some_iff.1 hx).2]; simp [countC]
      have HST := Lib.hid hst
      obtain ⟨c, hc⟩ : ∃ c, countC (O.take k) = c := ⟨_, rfl⟩
      rw [hc] at hct HST ⊢
      have ws1 : IntKind.i32.wrap (x.2 - x.1) = x.2 - x.1 := IntWalk.i32_in _ (by omega)
      have hB' := HB.out.size
      clear hx hcell c0 c1 hB h35 hxv hst hc hall hct2
      go_wp2
      go_roundw
      case rel => exact ⟨k + 1, by omega, by go_num, by rw [HST.out], HB.out.alloc hB' _⟩
      case measure => simp [intOf]; omega
    · obtain rfl : k = O.length := by omega
      rw [List.take_length] at hct ⊢
      have HB2 : Hid (Below w.heap.size w wr) := HB1.out.trans (HB.out.mono hsz)
      clear hB hall
      go_wp2
      go_ret
      exact ⟨_, rfl, HOF.out, HB2.out⟩

set_option maxRecDepth 100000 in
theorem empty_any {w : World} {va : Value} {L : List Rg} (H : Rgs w va L) (hL : L.length ≤ 50000) (t : Bool) (ht : t = true ↔ ∀ r, ¬ memU L r) :
    Calls Tryd.prog 24 #[va] w fun e w' => e = .returned (.bool t) ∧ Below w.heap.size w w' := by
  have HO := Lib.hid (of_any H (by omega))
  have HT := Lib.hid ht
  clear H ht
  go_enter Tryd.func24, Tryd.ntmps24
  go_wp2_with fail
  refine HO.out.mono ?_
  rintro e w1 ⟨vo, O, rfl, hro, hof, hol, hb1⟩
  have hlen1 := (hro.rgs (canon_in32 hof.1 (Int.le_refl _))).len 3 w1
  have hz : ((O.length : Int) == 0) = t := by
    have h1 := empty_is hof
    cases t with
    | true => rw [h1.2 (HT.out.1 rfl)]; rfl
    | false =>
      apply Bool.eq_false_iff.2
      intro h
      have : O = [] := by simpa using h
      have := HT.out.2 (h1.1 this)
      cases this
  have HB1 := Lib.hid hb1
  clear hro hof hb1 HO HT
  go_wp2_with fail
  go_ret
  exact ⟨rfl, HB1.out⟩

set_option maxRecDepth 100000 in
theorem has_any {w : World} {va : Value} {L : List Rg} (H : Rgs w va L) (hL : L.length ≤ 100000) (r : Int) (t : Bool) (ht : t = true ↔ memU L r) :
    Calls Tryd.prog 22 #[va, .int .i32 r] w fun e w' => e = .returned (.bool t) ∧ Below w.heap.size w w' := by
  by_cases hr : r < 0 ∨ 1114111 < r
  · have hf : t = false := Bool.eq_false_iff.2 fun h => by
      have := ht.1 h
      have h1 := this.1
      have h2 := this.2.1
      unfold most at h2
      omega
    subst hf
    clear ht H
    by_cases h0 : r < 0
    · have h0' : decide (r < 0) = true := decide_eq_true h0
      go_enter Tryd.func22, Tryd.ntmps22
      go_wp2
      go_ret
      exact ⟨rfl, Below.refl _ _⟩
    · have h0' : decide (r < 0) = false := decide_eq_false h0
      have h1 : 1114111 < r := by omega
      have h1' : decide (1114111 < r) = true := decide_eq_true h1
      go_enter Tryd.func22, Tryd.ntmps22
      go_wp2
      go_ret
      exact ⟨rfl, Below.refl _ _⟩
  · have h0 : 0 ≤ r := by omega
    have h1 : r ≤ 1114111 := by omega
    have h0' : decide (r < 0) = false := decide_eq_false (by omega)
    have h1' : decide (1114111 < r) = false := decide_eq_false (by omega)
    have hlen1 := H.len 3 w
    have HT : Hid (t = true ↔ ∃ x ∈ L, x.1 ≤ r ∧ r ≤ x.2) := by
      rw [ht]
      unfold memU most
      exact Lib.hid ⟨fun h => h.2.2, fun h => ⟨h0, h1, h⟩⟩
    have HH := Lib.hid H
    clear H ht hr
    go_enter Tryd.func22, Tryd.ntmps22
    go_wp2_with fail
    go_loopw [6, 15] (fun x i wx => ∃ k : Nat, k ≤ L.length ∧ i = .int .i64 (k : Int) ∧ (∀ y ∈ L.take k, ¬ (y.1 ≤ r ∧ r ≤ y.2)) ∧ Below w.heap.size w wx) (fun _ i _ => L.length - (intOf i).toNat)
    case atStart => exact ⟨0, Nat.zero_le _, rfl, by simp, Below.refl _ _⟩
    case round =>
      obtain ⟨k, hk, rfl, hno, hB⟩ := hrel
      have HN := Lib.hid hno
      have HB := Lib.hid hB
      have hsz := hB.size
      by_cases hlt : k < L.length
      · obtain ⟨b, off, cap, rfl, h31, h32, h33, hcell⟩ := (HH.out.stay hB).at (by omega)
        obtain ⟨x, hx⟩ : ∃ x, L[k]? = some x := ⟨L[k], List.getElem?_eq_getElem hlt⟩
        obtain ⟨e0, e1⟩ := hcell k x hx
        have HX := Lib.hid hx
        have HTK : Hid (L.take (k + 1) = L.take k ++ [x]) := by
          rw [List.take_succ_eq_append_getElem hlt, (List.getElem?_eq_some_iff.1 hx).2]; exact Lib.hid rfl
        clear hx hcell hno hB
        by_cases ha : x.1 ≤ r
        · have ha' : decide (x.1 ≤ r) = true := decide_eq_true ha
          by_cases hb : r ≤ x.2
          · have hb' : decide (r ≤ x.2) = true := decide_eq_true hb
            have HF : Hid (t = true) := HT.out.2 ⟨x, List.mem_of_getElem? HX.out, ha, hb⟩
            go_wp2
            go_ret
            exact ⟨by rw [HF.out]; rfl, HB.out.alloc hsz _⟩
          · have hb' : decide (r ≤ x.2) = false := decide_eq_false hb
            have HN2 : Hid (∀ y ∈ L.take (k + 1), ¬ (y.1 ≤ r ∧ r ≤ y.2)) := by
              rw [HTK.out]
              refine Lib.hid fun y hy => ?_
              rcases List.mem_append.1 hy with h | h
              · exact HN.out y h
              · simp at h; subst h; omega
            go_wp2
            go_roundw
            case rel => exact ⟨k + 1, by omega, by go_num, HN2.out, HB.out.alloc hsz _⟩
            case measure => simp [intOf]; omega
        · have ha' : decide (x.1 ≤ r) = false := decide_eq_false ha
          have HN2 : Hid (∀ y ∈ L.take (k + 1), ¬ (y.1 ≤ r ∧ r ≤ y.2)) := by
            rw [HTK.out]
            refine Lib.hid fun y hy => ?_
            rcases List.mem_append.1 hy with h | h
            · exact HN.out y h
            · simp at h; subst h; omega
          go_wp2
          go_roundw
          case rel => exact ⟨k + 1, by omega, by go_num, HN2.out, HB.out.alloc hsz _⟩
          case measure => simp [intOf]; omega
      · have HF : Hid (t = false) := Bool.eq_false_iff.2 fun h => by
          obtain ⟨x, hx, h2⟩ := HT.out.1 h
          exact HN.out x (by rw [List.take_of_length_le (by omega)]; exact hx) h2
        obtain rfl : k = L.length := by omega
        clear hno hB
        go_wp2
        go_ret
        exact ⟨by rw [HF.out]; rfl, HB.out⟩

end Go.Proofs.YtfjlhfalnciamaaDoor.Chars
