/- The law CharsSets, walked. -/
import Derived.Test.YtfjlhfalnciamaaDoorSetsT
namespace Go.Proofs.YtfjlhfalnciamaaDoor.Chars
open Go Go.RowKit Go.Proofs.Chars

theorem infoE2 : (Tryd.prog.info? 80).map (fun i => (i.zero, i.size, i.bytes)) = some (some (.agg #[.int .i64 0, .int .i64 0]), 2, 16) := by kernel_rfl

theorem ecells_one (L : List Rg) : ∀ u ∈ ecells L, u.oneCell' = true := fun u hu => by
  unfold ecells at hu
  obtain ⟨x, _, h⟩ := List.mem_flatMap.1 hu
  simp at h
  rcases h with rfl | rfl <;> rfl
set_option maxRecDepth 100000 in
theorem run_appE {w : World} {B S ty : Nat} {v u : Value} {L M : List Rg} (Hv : ERow w B v L) (Hu : ERow w S u M) (hB : B ≤ w.heap.size) (hl : L.length + M.length ≤ 1000) :
    ∃ v' w', (Builtin.append_ #[24, 24] ty #[v, u]).run Tryd.prog w = .ok v' w' ∧ ERow w' B v' (L ++ M) ∧ w.grownBy w' v.ownBlock ∧ (v'.ownBlock = v.ownBlock ∨ v'.ownBlock = some w.heap.size) := by
  obtain ⟨i0, hi, hz0, hz1, hz2⟩ := info_parts infoE2
  rcases Hu.2 with ⟨rfl, h0⟩ | ⟨g, cap, cur, rfl, h1, h2, h3, h4, h5, h6⟩
  · obtain rfl : M = [] := List.eq_nil_of_length_eq_zero h0
    refine ⟨v, w, ?_, by simpa using Hv, World.grownBy.refl _ _, .inl rfl⟩
    rcases Hv.2 with ⟨rfl, hn⟩ | ⟨g, cap, cur, rfl, k1, k2, k3, k4, k5, k6⟩
    · simp [Builtin.append_, Builtin.lenOf, Builtin.firstCells]
    · simp [Builtin.append_, Builtin.lenOf, Builtin.firstCells, storeCells, k3]
  · obtain ⟨v', w', hr, r2, r3, _, r5⟩ := run_append_own_at (P := Tryd.prog) w B 24 ty 80 i0 _ 2 16 (by rfl) hi hz0 hz1 hz2 rfl (by decide) v L.length (ecells L) Hv ⟨g, 0, none⟩ M.length cap (ecells M) (ecells_len M)
      (World.ownsRow.cells Hu rfl) (ecells_one M) (by unfold maxLen; omega) (by omega) hB
    refine ⟨v', w', hr, ?_, r3, r5⟩
    unfold ERow
    rw [ecells_append, List.length_append]
    exact r2
theorem wpList_appE {ops : Array Oper} {rest : List Oper} {o : Oper} {a : Act} {w : World} {Q : Exit → Act → World → Prop} (hgd : o.guard = none) {s x : Operand} (ho : o.op = .call { callee := .builtin .append, args := #[s, x], argTypes := #[24, 24] })
    {B S : Nat} {v u : Value} {L M : List Rg} (hs : a.eval s = v) (hx : a.eval x = u) (Hv : ERow w B v L) (Hu : ERow w S u M) (hB : B ≤ w.heap.size) (hl : L.length + M.length ≤ 1000)
    (h : ∀ v' w', ERow w' B v' (L ++ M) → w.grownBy w' v.ownBlock → (v'.ownBlock = v.ownBlock ∨ v'.ownBlock = some w.heap.size) → wpList Tryd.prog ops Q rest (a.put o.dst v') w') : wpList Tryd.prog ops Q (o :: rest) a w := by
  refine wpList_plain hgd fun K hK => ?_
  obtain ⟨v', w', hr, h2, h3, h5⟩ := run_appE (ty := o.type) Hv Hu hB hl
  unfold Oper.wp execOp
  simp only [ho, resolve, invoke, builtin, Sem.run_bind, Sem.run_pure, Result.andThen_ok, List.map_toArray, List.map_cons, List.map_nil, hs, hx, hr]
  exact hK _ _ (h v' w' h2 h3 h5)
theorem own_emptyE {w : World} {B G : Nat} (h : w.heap[G]? = some (.cells #[] 80)) (hB : B ≤ G) : ERow w B (.slice (some ⟨G, 0, none⟩) 0 0) [] :=
  ⟨rfl, .inr ⟨G, 0, #[], rfl, hB, h, Nat.le_refl _, by simp [maxLen], rfl, rfl⟩⟩

theorem Rows5.drew {n : Nat} {w : World} {pl : Nat} {v : Nat → Value} {xs : Nat → List Bool} (h : Rows5 n w pl v xs) : Rows5 n w.drew pl v xs := ⟨h.lt, h.row, h.apart, h.cell⟩

theorem lit_any {a0 a9 : Act} (h0 : a0.tmps.size = 208) (h1 : a9.tmps.size = 208) (h2 : a9.defers = a0.defers) (h3 : ∀ t, t < 54 ∨ 94 < t → a9.tmps[t]? = a0.tmps[t]?) :
    ∃ xs : Nat → Value, a9 = ⟨⟨a0.tmps.toList.take 54 ++ ([xs 0, xs 1, xs 2, xs 3, xs 4, xs 5, xs 6, xs 7, xs 8, xs 9, xs 10, xs 11, xs 12, xs 13, xs 14, xs 15, xs 16, xs 17, xs 18, xs 19, xs 20, xs 21, xs 22, xs 23, xs 24, xs 25, xs 26, xs 27, xs 28, xs 29, xs 30, xs 31, xs 32, xs 33, xs 34, xs 35, xs 36, xs 37, xs 38, xs 39, xs 40] ++ a0.tmps.toList.drop 95)⟩, a0.defers⟩ := by
  refine ⟨fun j => a9.tmps[54 + j]?.getD undef, ?_⟩
  obtain ⟨⟨l⟩, d⟩ := a9
  obtain ⟨⟨l0⟩, d0⟩ := a0
  simp only [List.size_toArray, List.getElem?_toArray] at h0 h1 h2 h3 ⊢
  subst h2
  refine congrArg (fun x => Act.mk (Array.mk x) d) ?_
  have hm : ∀ f : Nat → Value, [f 0, f 1, f 2, f 3, f 4, f 5, f 6, f 7, f 8, f 9, f 10, f 11, f 12, f 13, f 14, f 15, f 16, f 17, f 18, f 19, f 20, f 21, f 22, f 23, f 24, f 25, f 26, f 27, f 28, f 29, f 30, f 31, f 32, f 33, f 34, f 35, f 36, f 37, f 38, f 39, f 40] = (List.range 41).map f := fun f => rfl
  rw [hm fun j => l[54 + j]?.getD undef]
  refine List.ext_getElem? fun t => ?_
  by_cases c1 : t < 54
  · rw [List.getElem?_append_left (by simp; omega), List.getElem?_take_of_lt c1]
    exact h3 t (.inl c1)
  · rw [List.getElem?_append_right (by simp; omega)]
    have e1 : (l0.take 54).length = 54 := by simp; omega
    rw [e1]
    by_cases c2 : t < 95
    · rw [List.getElem?_append_left (by simp; omega)]
      rw [List.getElem?_map, List.getElem?_range (by omega)]
      simp only [Option.map_some]
      rw [show 54 + (t - 54) = t by omega, List.getElem?_eq_getElem (by omega)]
      rfl
    · rw [List.getElem?_append_right (by simp; omega)]
      simp only [List.length_map, List.length_range, List.getElem?_drop]
      rw [show 95 + (t - 54 - 41) = t by omega]
      exact h3 t (.inr (by omega))

theorem count_low : ∀ {O : List Rg} {b : Int}, Canon b O → 0 ≤ countC O ∧ (countC O = 0 → O = [])
  | [], _, _ => ⟨Int.le_refl _, fun _ => rfl⟩
  | x :: l, b, h => by
    have := (count_low h.2.2.2).1
    have h2 := h.2.1
    simp only [countC]
    exact ⟨by omega, fun e => by omega⟩
theorem empty_iff {A O : List Rg} (h : IsOf A O) : (countC O == 0) = true ↔ ∀ r, ¬ memU A r := by
  rw [beq_iff_eq]
  constructor
  · intro e r hr
    rw [(count_low h.1).2 e] at h
    have := (h.2 r).2 hr
    simp [memC] at this
  · intro hn
    cases O with
    | nil => rfl
    | cons x l =>
      exact absurd ((h.2 x.1).1 ⟨x, List.mem_cons_self, Int.le_refl _, h.1.2.1⟩) (hn _)
theorem all_rgs (w : World) : Rgs (w.alloc (.cells #[.int .i32 0, .int .i32 1114111] 44)) (.slice (some ⟨w.heap.size, 0, none⟩) 1 1) [(0, most)] := by
  refine ⟨fun x hx => by simp at hx; subst hx; exact ⟨⟨by omega, by omega⟩, by unfold most; omega, by unfold most; omega⟩, _, 1, rfl, Nat.le_refl _, by simp [maxLen], fun _ => ⟨_, 0, rfl, by simp, fun i x hx => ?_⟩⟩
  match i, hx with
  | 0, hx =>
    simp at hx
    subst hx
    constructor
    · simp only [World.cell?, heap_alloc_new]; rfl
    · simp only [World.cell?, heap_alloc_new]; rfl
theorem alls_any (w : World) : Calls Tryd.prog 26 #[] w fun e w' => ∃ v, e = .returned v ∧ Rgs w' v [(0, most)] ∧ Below w.heap.size w w' := by
  go_enter Tryd.func26, Tryd.ntmps26
  go_wp2
  go_ret
  exact ⟨_, rfl, all_rgs w, (Below.refl _ _).alloc (Nat.le_refl _) _⟩
theorem all_count {O : List Rg} (h : IsOf [(0, most)] O) : countC O = 1114112 := by
  have hc : Canon 0 [(0, most)] := by simp [Canon, most]
  rw [h.uniq hc.isOf (fun r => Iff.rfl)]
  simp [countC, most]
theorem NRow.stay {w w' : World} {S : Nat} {v : Value} {L : List Int} (h : NRow w S v L) (hb : RowKit.Below w.heap.size w w') : NRow w' S v L := own_agree h fun k hk => hb.block k (own_block h hk).2.1
theorem TRow.stay {w w' : World} {S : Nat} {v : Value} {L : List Bool} (h : TRow w S v L) (hb : RowKit.Below w.heap.size w w') : TRow w' S v L := own_agree h fun k hk => hb.block k (own_block h hk).2.1
theorem alike_true {w : World} {S : Nat} {va vb : Value} {A B : List Rg} (Ha : Rgs w va A) (Hb : ERow w S vb B) (hl : A.length ≤ 10000) (he : A = B) :
    Calls Tryd.prog 16 #[va, vb] w fun e w' => e = .returned (.bool true) ∧ Below w.heap.size w w' := by
  have := alike_any Ha Hb hl (by rw [← he]; exact hl)
  rwa [show eqB A B = true by simp [eqB, he]] at this

set_option maxHeartbeats 8000000 in
set_option maxRecDepth 100000 in
theorem csets_walk {W : World} {va vb : Value} {a b : List Rg} {r : Int} (Ha : Rgs W va a) (Hb : Rgs W vb b) (hla : ¬ 20 < a.length) (hlb : ¬ 20 < b.length) (hr0 : -2147483648 ≤ r) (hr1 : r ≤ 2147483647) (T : ∀ w, Below W.heap.size W w → Calls Tryd.prog 27 #[] w fun e w' => e = .returned (.bool true) ∧ Below w.heap.size w w') :
    Calls Tryd.prog 3 #[va, vb, .int .i32 r] W fun e w' => e = .returned (.bool true) ∧ Below W.heap.size W w' := by
  obtain ⟨i0, hi, hz0, hz1, hz2⟩ := info_parts infoE2
  have hina := Ha.1
  have hinb := Hb.1
  obtain ⟨A1, cp1, rfl⟩ : ∃ A cp, va = .slice A a.length cp := by obtain ⟨_, A, cp, e, _⟩ := Ha; exact ⟨A, cp, e⟩
  obtain ⟨A2, cp2, rfl⟩ : ∃ A cp, vb = .slice A b.length cp := by obtain ⟨_, A, cp, e, _⟩ := Hb; exact ⟨A, cp, e⟩
  have HLA := Ha.len 3 W
  have HLB := Hb.len 3 W
  have d1 : ¬ (20 : Int) < a.length := by omega
  have d2 : decide ((20 : Int) < a.length) = false := decide_eq_false d1
  have d3 : ¬ (20 : Int) < b.length := by omega
  have d4 : decide ((20 : Int) < b.length) = false := decide_eq_false d3
  have HINA := Lib.hid hina
  have HINB := Lib.hid hinb
  have HOA := Lib.hid (own_any Ha (by omega))
  have HA := Lib.hid Ha
  have HB := Lib.hid Hb
  have HT := Lib.hid T
  clear Ha Hb T hina hinb
  go_enter Tryd.func3, Tryd.ntmps3
  go_wp2_with fail
  refine HOA.out.mono ?_
  rintro e w1 ⟨vx, rfl, hx, hb1⟩
  have HX := Lib.hid hx
  have HB1 := Lib.hid hb1
  have HOB := Lib.hid (own_any (HB.out.stay hb1) (by omega))
  clear hx hb1 HOA
  go_wp2_with fail
  refine HOB.out.mono ?_
  rintro e w2 ⟨vy, rfl, hy, hb2⟩
  have HX := Lib.hid (HX.out.stay hb2)
  have HY := Lib.hid hy
  have HB2 := Lib.hid (HB1.out.trans (hb2.mono HB1.out.size))
  clear hy hb2 HOB HB1
  obtain ⟨X, cx, rfl⟩ := HX.out.form
  obtain ⟨Y, cy, rfl⟩ := HY.out.form
  go_upto_region 4 with fail
  have hba : Below w2.heap.size w2 (w2.alloc (.cells #[] 80)) := (RowKit.Below.refl _ _).alloc (Nat.le_refl _) _
  have HBA := Lib.hid hba
  have HE := Lib.hid (own_emptyE (B := w2.heap.size) (heap_alloc_new w2 (.cells #[] 80)) (Nat.le_refl _))
  clear hba
  go_wp2_with (at_builtin; first
    | (refine wpList_appE (v := .slice (some ⟨w2.heap.size, 0, none⟩) 0 0) (u := .slice X a.length cx) rfl rfl rfl rfl HE.out (HX.out.stay HBA.out) (by simp) (by simp; omega) ?_; intro v3 w3 hv3 hg3 ho3; have HV3 := Lib.hid hv3; have HB3 := Lib.hid (Below.grown HBA.out hg3 (by simp) (fun k hk => by simp [Value.ownBlock] at hk; omega)); clear hv3 hg3 ho3)
    | (refine wpList_appE (v := v3) (u := .slice Y b.length cy) rfl rfl rfl rfl HV3.out (HY.out.stay HB3.out) HB3.out.size (by simp; omega) ?_; intro v4 w4 hv4 hg4 ho4; have HV4 := Lib.hid hv4; have HB4 := Lib.hid (Below.grown HB3.out hg4 HB3.out.size (fun k hk => (HV3.out.lt k hk).1)); clear hv4 hg4 ho4))
  have hE4 : ∀ x ∈ a ++ b, in32 x := fun x hx => (List.mem_append.1 (by simpa using hx)).elim (HINA.out x) (HINB.out x)
  have HED := Lib.hid (refEdges_any HV4.out (by simp; omega) (by simpa using hE4))
  clear hE4
  refine HED.out.mono ?_
  rintro e w5 ⟨ve, rfl, he5, hb5⟩
  have HV5 : Hid (ERow w4 w2.heap.size v4 (a ++ b)) := Lib.hid HV4.out
  have hb25 : Below w2.heap.size w2 w5 := HB4.out.trans (hb5.mono HB4.out.size)
  have HX5 := Lib.hid (HX.out.stay hb25)
  have HY5 := Lib.hid (HY.out.stay hb25)
  have HB5 := Lib.hid (HB2.out.trans (hb25.mono HB2.out.size))
  have hElen := edgesE_len (a ++ b)
  obtain ⟨E, hE⟩ : ∃ E, edgesE (a ++ b) = E := ⟨_, rfl⟩
  have he5' : NRow w5 w4.heap.size ve (edgesE (a ++ b)) := he5
  rw [hE] at hElen he5'
  rw [List.length_append] at hElen
  have HE5 := Lib.hid he5'
  have HEQ := Lib.hid hE
  have hrise : Rise 0 E := by
    obtain ⟨l, h1, h2, _⟩ := edgesE_ok (a ++ b)
    rw [← hE, h1]; exact h2
  have HRISE := Lib.hid hrise
  clear hE he5 he5' hb5 hb25 HED HV4 HV3 HB3 HB4 HX HY HBA HE hrise HV5 HB2
  obtain ⟨EA, ce, rfl⟩ := HE5.out.form
  obtain ⟨hE1, hE2⟩ := hElen
  have hE3 : E.length ≤ 81 := by omega
  go_wp2_with fail
  go_loopw [11, 12, 13] (fun x11 x12 x13 wr => ∃ (i : Nat) (m : Int) (sm : Bool) (v : Nat → Value), i ≤ E.length ∧ x13 = .int .i64 (i : Int) ∧ x11 = .int .i64 m ∧ x12 = .bool sm ∧ 0 ≤ m ∧ m ≤ (i : Int) * 1114112 ∧ m + sumE (hasU a) (E.drop i) = sumE (hasU a) E ∧ sm = (E.take i).all (fun e => hasU a e == hasU b e) ∧ Rows5 5 wr w5.heap.size v (fun k => (E.take i).map fun e => q5 (hasU a e) (hasU b e) k) ∧ Below w5.heap.size w5 wr) (fun _ _ x13 _ => E.length - (intOf x13).toNat)
  case atStart =>
    refine ⟨0, 0, true, fun _ => .slice none 0 0, by omega, rfl, rfl, rfl, by omega, by omega, by simp, rfl, ?_, (RowKit.Below.refl _ _).alloc (Nat.le_refl _) _⟩
    refine ⟨by simp, fun k hk => World.ownsRow_nil _ _ _ _, fun j k _ _ _ b hb => by simp [Value.ownBlock] at hb, fun k hk => ?_⟩
    have hn := heap_alloc_new w5 (.cells #[.slice none 0 0, .slice none 0 0, .slice none 0 0, .slice none 0 0, .slice none 0 0] 29)
    match k, hk with
    | 0, _ => exact ⟨by simp only [World.cell?, hn]; rfl, by simp only [World.frozen?, hn]; rfl⟩
    | 1, _ => exact ⟨by simp only [World.cell?, hn]; rfl, by simp only [World.frozen?, hn]; rfl⟩
    | 2, _ => exact ⟨by simp only [World.cell?, hn]; rfl, by simp only [World.frozen?, hn]; rfl⟩
    | 3, _ => exact ⟨by simp only [World.cell?, hn]; rfl, by simp only [World.frozen?, hn]; rfl⟩
    | 4, _ => exact ⟨by simp only [World.cell?, hn]; rfl, by simp only [World.frozen?, hn]; rfl⟩
  case round =>
    obtain ⟨i, m, sm, v, hi9, rfl, rfl, rfl, hm0, hm1, hsum, hsm, hrows, hBr⟩ := hrel
    by_cases hil : i < E.length
    · have p1 : decide ((i : Int) < (E.length : Int)) = true := decide_eq_true (by omega)
      have p1' : decide (i < E.length) = true := decide_eq_true hil
      have p2 : (0 : Int) ≤ (i : Int) := by omega
      have p3 : (i : Int) < (E.length : Int) := by omega
      obtain ⟨e, he⟩ : ∃ e, E[i]? = some e := ⟨E[i], List.getElem?_eq_getElem hil⟩
      obtain ⟨gE, cE, e9, _, _, gl, gc⟩ := HE5.out.at (by omega)
      cases e9
      have HCE : Hid (∀ w', Below w5.heap.size w5 w' → ∀ (j : Nat) (x : Int), E[j]? = some x → w'.cell? ⟨gE, j, none⟩ = some (.int .i64 x)) := Lib.hid fun w' hb j x hx => (hb.cell (p := ⟨gE, j, none⟩) gl).trans (gc j x hx)
      have HEI := Lib.hid he
      have HROWS := Lib.hid hrows
      have HBR := Lib.hid hBr
      have HSUM := Lib.hid hsum
      have HSM := Lib.hid hsm
      have c0 := HCE.out wr hBr i e he
      have HH1 : Hid (∀ w', Below wr.heap.size wr w' → Calls Tryd.prog 14 #[.slice X a.length cx, .int .i64 e] w' fun e' w'' => e' = .returned (.bool (hasU a e)) ∧ w' = w'') := Lib.hid fun w' hb => refHas_any ((HX5.out.stay hBr).stay hb) (by omega) e (hasU a e) (hasU_iff a e)
      have HH2 : Hid (∀ w', Below wr.heap.size wr w' → Calls Tryd.prog 14 #[.slice Y b.length cy, .int .i64 e] w' fun e' w'' => e' = .returned (.bool (hasU b e)) ∧ w' = w'') := Lib.hid fun w' hb => refHas_any ((HY5.out.stay hBr).stay hb) (by omega) e (hasU b e) (hasU_iff b e)
      have HTK : Hid (E.take (i + 1) = E.take i ++ [e]) := Lib.hid (by rw [List.take_add_one, he]; rfl)
      clear gc he hrows hBr hsum hsm
      go_upto_region 10 with fail
      go_cut [14, 15] (fun x14 x15 wx => x14 = .bool (hasU a e) ∧ x15 = .bool (hasU b e) ∧ Rows5 5 wx w5.heap.size v (fun k => (E.take i).map fun e => q5 (hasU a e) (hasU b e) k) ∧ Below w5.heap.size w5 wx)
      case first =>
        have hbk : Below wr.heap.size wr wr.drew := (RowKit.Below.refl _ _).drew
        go_region_held3 (fun w' => w'.cell? ⟨gE, i, none⟩ = some (.int .i64 e))
          (first | go_keep | exact c0)
          (first
            | (go_at_call 14; refine (HH1.out _ hbk).mono ?_; rintro e' w9 ⟨rfl, rfl⟩; clear HH1)
            | (go_at_call 14; refine (HH2.out _ hbk).mono ?_; rintro e' w9 ⟨rfl, rfl⟩))
        go_wp2_with fail
        go_meet
        exact ⟨rfl, rfl, HROWS.out.drew, HBR.out.drew⟩
      case rest =>
        obtain ⟨rfl, rfl, hrows, hbr⟩ := hcut
        have HROWS := Lib.hid hrows
        have HBR := Lib.hid hbr
        clear hrows hbr HH1 HH2 c0
        obtain ⟨w7, hw7⟩ : ∃ w7, w7 = wc := ⟨_, rfl⟩
        subst hw7
        go_upto_region 11 with fail
        go_cut [6] (fun x6 wx => x6 = .bool false ∧ ∃ v', Rows5 5 wx w5.heap.size v' (fun k => (E.take (i + 1)).map fun e => q5 (hasU a e) (hasU b e) k) ∧ Below w5.heap.size w5 wx)
        case first =>
          refine region5_any (pl := w5.heap.size) (V := V5 (hasU a e) (hasU b e)) (q := q5 (hasU a e) (hasU b e)) (v := v) (xs := fun k => (E.take i).map fun e => q5 (hasU a e) (hasU b e) k) ?chk (by kernel_rfl) (by rfl) ?slots HROWS.out.drew ?len ?post
          case chk =>
            generalize hasU a e = p
            generalize hasU b e = q
            cases p <;> cases q <;> kernel_rfl
          case slots =>
            rintro t (rfl | rfl | rfl) <;> rfl
          case len =>
            intro k hk
            simp
            omega
          case post =>
            intro a9 w9 cur h1 h2 h3 h4 h5
            obtain ⟨xs, rfl⟩ := lit_any rfl h1 h2 h3
            have HB9 := Lib.hid (HBR.out.trans h4)
            have H5 := Lib.hid h5
            clear h1 h2 h3 h4 h5
            simp only [List.take_succ_cons, List.take_zero, List.drop_succ_cons, List.drop_zero, List.cons_append, List.nil_append]
            go_wp2_with fail
            go_meet
            refine ⟨rfl, cur, ?_, HB9.out⟩
            simp only [HTK.out, List.map_append, List.map_cons, List.map_nil]
            exact H5.out
        case rest =>
          obtain ⟨rfl, v', hrows, hbr⟩ := hcut
          have HROWS := Lib.hid hrows
          have HBR := Lib.hid hbr
          clear hrows hbr
          obtain ⟨k, hk⟩ : ∃ k, i + 1 = k := ⟨_, rfl⟩
          obtain ⟨z, hz⟩ : ∃ z, endE (E.drop (i + 1)) + 1 = z := ⟨_, rfl⟩
          have hdrop : E.drop i = e :: E.drop (i + 1) := by
            obtain ⟨hh, e2⟩ := List.getElem?_eq_some_iff.1 HEI.out
            rw [← e2]
            exact List.drop_eq_getElem_cons hh
          obtain ⟨b', hb0, hrd⟩ := rise_drop i HRISE.out
          rw [hdrop] at hrd
          obtain ⟨r1, r2, r3⟩ := endE_in hrd
          have r4 : 0 ≤ e := by have := hrd.1; omega
          have r5 : z ≤ 1114112 := by unfold most at r2; omega
          have r6 : e ≤ z := by omega
          have hsumE : ∀ P : Int → Bool, sumE P (E.drop i) = (if P e then z - e else 0) + sumE P (E.drop k) := fun P => by
            rw [hdrop, ← hk, ← hz]; rfl
          have HSUM2 : Hid (m + ((if hasU a e then z - e else 0) + sumE (hasU a) (E.drop k)) = sumE (hasU a) E) := Lib.hid (by rw [← hsumE]; exact HSUM.out)
          have HSM2 : Hid ((E.take k).all (fun e => hasU a e == hasU b e) = (sm && (hasU a e == hasU b e))) := Lib.hid (by rw [← hk, HTK.out, List.all_append, ← HSM.out]; simp)
          have t2 : IntKind.i64.wrap ((i : Int) + 1) = (k : Int) := by rw [IntWalk.i64_in _ (by omega)]; omega
          have hm2 : (m : Int) ≤ 200000000 := by omega
          obtain ⟨m1, hm1'⟩ : ∃ m1, m + z = m1 := ⟨_, rfl⟩
          obtain ⟨m2, hm2'⟩ : ∃ m2, m1 - e = m2 := ⟨_, rfl⟩
          have t6 : IntKind.i64.wrap (m + z) = m1 := by rw [IntWalk.i64_in _ (by omega)]; omega
          have t7 : IntKind.i64.wrap (m1 - e) = m2 := by rw [IntWalk.i64_in _ (by omega)]; omega
          have HNX : Hid (∀ f, E[k]? = some f → f = z) := Lib.hid fun f hf => by
            have : E.drop (i + 1) = f :: E.drop (i + 2) := by
              rw [hk]
              obtain ⟨hh, e2⟩ := List.getElem?_eq_some_iff.1 hf
              rw [← e2, show i + 2 = k + 1 by omega]
              exact List.drop_eq_getElem_cons hh
            have := r3 _ _ this
            omega
          have HND : Hid (E.length ≤ k → z = 1114112) := Lib.hid fun h => by
            have : E.drop (i + 1) = [] := List.drop_eq_nil_of_le (by omega)
            rw [this] at hz
            rw [← hz]
            rfl
          have HM : Hid (m1 = m + z ∧ m2 = m1 - e) := Lib.hid ⟨hm1'.symm, hm2'.symm⟩
          have c0 := HCE.out wc HBR.out i e HEI.out
          have HK := Lib.hid hk
          clear hdrop hrd hb0 r1 r2 r3 hsumE hz hm1' hm2' HSUM HSM HTK
          obtain ⟨p, hp⟩ : ∃ p, hasU a e = p := ⟨_, rfl⟩
          obtain ⟨q, hq⟩ : ∃ q, hasU b e = q := ⟨_, rfl⟩
          rw [hp, hq]
          have HP := Lib.hid hp
          have HQ := Lib.hid hq
          clear hp hq
          obtain ⟨dn, hdn⟩ : ∃ dn, decide ((k : Int) < (E.length : Int)) = dn := ⟨_, rfl⟩
          have HDN : Hid (dn = true ↔ k < E.length) := Lib.hid (by rw [← hdn, decide_eq_true_iff]; omega)
          have hdn' : decide (k < E.length) = dn := by
            rw [← hdn]
            exact decide_eq_decide.2 (by omega)
          go_upto_if 99 with fail
          go_cut [16] (fun x16 wx => x16 = .int .i64 z ∧ wx = wc)
          case first =>
            cases dn with
            | true =>
              have hn := HDN.out.1 rfl
              have t3 : (0 : Int) ≤ (k : Int) := by omega
              have t4 : (k : Int) < (E.length : Int) := by omega
              obtain ⟨f, hf⟩ : ∃ f, E[k]? = some f := ⟨E[k], List.getElem?_eq_getElem hn⟩
              have c1 := HCE.out wc HBR.out k f hf
              have hfz := HNX.out f hf
              have t5 : decide ((k : Int) < (E.length : Int)) = true := decide_eq_true t4
              have t5' : decide (k < E.length) = true := decide_eq_true hn
              clear hk hf hdn hdn'
              subst hfz
              go_wp2_with fail
              go_meet
              exact ⟨rfl, rfl⟩
            | false =>
              have hz := HND.out (by
                rcases Nat.lt_or_ge k E.length with h | h
                · have := HDN.out.2 h; cases this
                · exact h)
              have t5 : decide ((k : Int) < (E.length : Int)) = false := hdn
              have t5' : decide (k < E.length) = false := decide_eq_false (fun h => by have := HDN.out.2 h; cases this)
              clear hk hdn hdn'
              subst hz
              go_wp2_with fail
              go_meet
              exact ⟨rfl, rfl⟩
          case rest =>
            obtain ⟨rfl, hw8⟩ := hcut
            subst hw8
            clear hk hdn hdn'
            cases p with
            | true =>
              cases sm with
              | true =>
                go_wp2_with fail
                go_roundw
                case rel =>
                  obtain ⟨hm1', hm2'⟩ := HM.out
                  have hk := HK.out
                  have hs := HSUM2.out
                  rw [HP.out] at hs
                  simp only [if_true] at hs
                  exact ⟨k, m2, _, v', by omega, rfl, rfl, rfl, by omega, by omega, by omega, by rw [HSM2.out, HP.out, HQ.out]; simp, by rw [← hk]; exact HROWS.out, HBR.out⟩
                case measure => have hk := HK.out; simp [intOf]; omega
              | false =>
                go_wp2_with fail
                go_roundw
                case rel =>
                  obtain ⟨hm1', hm2'⟩ := HM.out
                  have hk := HK.out
                  have hs := HSUM2.out
                  rw [HP.out] at hs
                  simp only [if_true] at hs
                  exact ⟨k, m2, _, v', by omega, rfl, rfl, rfl, by omega, by omega, by omega, by rw [HSM2.out, HP.out, HQ.out]; simp, by rw [← hk]; exact HROWS.out, HBR.out⟩
                case measure => have hk := HK.out; simp [intOf]; omega
            | false =>
              cases sm with
              | true =>
                go_wp2_with fail
                go_roundw
                case rel =>
                  obtain ⟨hm1', hm2'⟩ := HM.out
                  have hk := HK.out
                  have hs := HSUM2.out
                  rw [HP.out] at hs
                  simp only [Bool.false_eq_true, if_false] at hs
                  exact ⟨k, m, _, v', by omega, rfl, rfl, rfl, by omega, by omega, by omega, by rw [HSM2.out, HP.out, HQ.out]; simp, by rw [← hk]; exact HROWS.out, HBR.out⟩
                case measure => have hk := HK.out; simp [intOf]; omega
              | false =>
                go_wp2_with fail
                go_roundw
                case rel =>
                  obtain ⟨hm1', hm2'⟩ := HM.out
                  have hk := HK.out
                  have hs := HSUM2.out
                  rw [HP.out] at hs
                  simp only [Bool.false_eq_true, if_false] at hs
                  exact ⟨k, m, _, v', by omega, rfl, rfl, rfl, by omega, by omega, by omega, by rw [HSM2.out, HP.out, HQ.out]; simp, by rw [← hk]; exact HROWS.out, HBR.out⟩
                case measure => have hk := HK.out; simp [intOf]; omega
    · have p1 : decide ((i : Int) < (E.length : Int)) = false := decide_eq_false (by omega)
      have p1' : decide (i < E.length) = false := decide_eq_false hil
      obtain rfl : i = E.length := by omega
      rw [List.drop_eq_nil_of_le (Nat.le_refl _)] at hsum
      simp only [List.take_length] at hsm hrows
      obtain ⟨gE, cE, e9, _, _, gl, gc⟩ := HE5.out.at (by omega)
      cases e9
      obtain ⟨w8, hw8⟩ : ∃ w8, w8 = wr := ⟨_, rfl⟩
      subst hw8
      have HE8 := Lib.hid (HE5.out.stay hBr)
      have HX8 := Lib.hid (HX5.out.stay hBr)
      have HB8 := Lib.hid (HB5.out.trans (hBr.mono HB5.out.size))
      have HA8 := Lib.hid (HA.out.stay HB8.out)
      have HBb8 := Lib.hid (HB.out.stay HB8.out)
      have hsum0 : m = sumE (hasU a) E := by simpa [sumE] using hsum
      have HSUM := Lib.hid hsum0
      have HSM := Lib.hid hsm
      have HC0 : Hid (∀ w', Below w8.heap.size w8 w' → Calls Tryd.prog 17 #[.slice (some ⟨gE, 0, none⟩) E.length ce, v 0] w' fun e' w'' => ∃ vc, e' = .returned vc ∧ ERow w'' w'.heap.size vc ((pieces (hasU a) E).foldl ofStep []) ∧ Below w'.heap.size w' w'') := Lib.hid fun w' hb => by
        refine (refClean_any (hasU a) (HE8.out.stay hb) ((show TRow w8 (w5.heap.size + 1) (v 0) (E.map (hasU a)) from hrows.row 0 (by omega)).stay hb) HRISE.out (by omega)).mono ?_
        rintro e' w'' ⟨vc, h1, h2, _, h3⟩
        exact ⟨vc, h1, h2, h3⟩
      have HC1 : Hid (∀ w', Below w8.heap.size w8 w' → Calls Tryd.prog 17 #[.slice (some ⟨gE, 0, none⟩) E.length ce, v 1] w' fun e' w'' => ∃ vc, e' = .returned vc ∧ ERow w'' w'.heap.size vc ((pieces (fun r => hasU a r || hasU b r) E).foldl ofStep []) ∧ Below w'.heap.size w' w'') := Lib.hid fun w' hb => by
        refine (refClean_any (fun r => hasU a r || hasU b r) (HE8.out.stay hb) ((show TRow w8 (w5.heap.size + 1) (v 1) (E.map (fun r => hasU a r || hasU b r)) from hrows.row 1 (by omega)).stay hb) HRISE.out (by omega)).mono ?_
        rintro e' w'' ⟨vc, h1, h2, _, h3⟩
        exact ⟨vc, h1, h2, h3⟩
      have HC2 : Hid (∀ w', Below w8.heap.size w8 w' → Calls Tryd.prog 17 #[.slice (some ⟨gE, 0, none⟩) E.length ce, v 2] w' fun e' w'' => ∃ vc, e' = .returned vc ∧ ERow w'' w'.heap.size vc ((pieces (fun r => hasU a r && hasU b r) E).foldl ofStep []) ∧ Below w'.heap.size w' w'') := Lib.hid fun w' hb => by
        refine (refClean_any (fun r => hasU a r && hasU b r) (HE8.out.stay hb) ((show TRow w8 (w5.heap.size + 1) (v 2) (E.map (fun r => hasU a r && hasU b r)) from hrows.row 2 (by omega)).stay hb) HRISE.out (by omega)).mono ?_
        rintro e' w'' ⟨vc, h1, h2, _, h3⟩
        exact ⟨vc, h1, h2, h3⟩
      have HC3 : Hid (∀ w', Below w8.heap.size w8 w' → Calls Tryd.prog 17 #[.slice (some ⟨gE, 0, none⟩) E.length ce, v 3] w' fun e' w'' => ∃ vc, e' = .returned vc ∧ ERow w'' w'.heap.size vc ((pieces (fun r => hasU a r && !hasU b r) E).foldl ofStep []) ∧ Below w'.heap.size w' w'') := Lib.hid fun w' hb => by
        refine (refClean_any (fun r => hasU a r && !hasU b r) (HE8.out.stay hb) ((show TRow w8 (w5.heap.size + 1) (v 3) (E.map (fun r => hasU a r && !hasU b r)) from hrows.row 3 (by omega)).stay hb) HRISE.out (by omega)).mono ?_
        rintro e' w'' ⟨vc, h1, h2, _, h3⟩
        exact ⟨vc, h1, h2, h3⟩
      have HC4 : Hid (∀ w', Below w8.heap.size w8 w' → Calls Tryd.prog 17 #[.slice (some ⟨gE, 0, none⟩) E.length ce, v 4] w' fun e' w'' => ∃ vc, e' = .returned vc ∧ ERow w'' w'.heap.size vc ((pieces (fun r => !hasU a r) E).foldl ofStep []) ∧ Below w'.heap.size w' w'') := Lib.hid fun w' hb => by
        refine (refClean_any (fun r => !hasU a r) (HE8.out.stay hb) ((show TRow w8 (w5.heap.size + 1) (v 4) (E.map (fun r => !hasU a r)) from hrows.row 4 (by omega)).stay hb) HRISE.out (by omega)).mono ?_
        rintro e' w'' ⟨vc, h1, h2, _, h3⟩
        exact ⟨vc, h1, h2, h3⟩
      have HKEEP0 : Hid (∀ w', Below w8.heap.size w8 w' → w'.cell? ⟨w5.heap.size, 0, none⟩ = some (v 0) ∧ w'.cell? ⟨w5.heap.size, 1, none⟩ = some (v 1) ∧ w'.cell? ⟨w5.heap.size, 2, none⟩ = some (v 2) ∧ w'.cell? ⟨w5.heap.size, 3, none⟩ = some (v 3) ∧ w'.cell? ⟨w5.heap.size, 4, none⟩ = some (v 4)) := Lib.hid fun w' hb => by
        have key : ∀ k, k < 5 → w'.cell? ⟨w5.heap.size, k, none⟩ = some (v k) := fun k hk => (hb.cell (p := ⟨w5.heap.size, k, none⟩) hrows.lt).trans (hrows.cell k hk).1
        exact ⟨key 0 (by omega), key 1 (by omega), key 2 (by omega), key 3 (by omega), key 4 (by omega)⟩
      have HOF := Lib.hid (of_any HA8.out (by omega))
      clear gc hrows hBr hsum hsm hsum0
      go_upto_region 18 with fail
      go_wp2_with fail
      refine HOF.out.mono ?_
      rintro e9 w10 ⟨vo, O, rfl, hro, hio, hlo, hb10⟩
      have HRG := Lib.hid (hro.rgs (canon_in32 hio.1 (Int.le_refl _)))
      have HRL := Lib.hid (show O.length ≤ 10000 by omega)
      have HSA : Hid (∀ x ∈ a, x ∈ a ++ b) := Lib.hid fun x hx => List.mem_append_left _ hx
      have HSB : Hid (∀ x ∈ b, x ∈ a ++ b) := Lib.hid fun x hx => List.mem_append_right _ hx
      have HEQL := Lib.hid (show O = _ from (clean_of HSA.out hio).trans (by rw [HEQ.out]))
      have HB10 := Lib.hid hb10
      have HKEEP : Hid (∀ w', Below w8.heap.size w8 w' → w'.cell? ⟨w5.heap.size, 0, none⟩ = some (v 0) ∧ w'.cell? ⟨w5.heap.size, 1, none⟩ = some (v 1) ∧ w'.cell? ⟨w5.heap.size, 2, none⟩ = some (v 2) ∧ w'.cell? ⟨w5.heap.size, 3, none⟩ = some (v 3) ∧ w'.cell? ⟨w5.heap.size, 4, none⟩ = some (v 4)) := HKEEP0
      clear hro hio hlo hb10 HOF HKEEP0
      obtain ⟨O0, ocp, rfl⟩ : ∃ A cp, vo = .slice A O.length cp := by obtain ⟨_, A, cp, e, _⟩ := HRG.out; exact ⟨A, cp, e⟩
      have hbk : Below w8.heap.size w8 w10.drew := HB10.out.drew
      obtain ⟨g0, g1, g2, g3, g4⟩ := HKEEP.out _ hbk
      have HRG : Hid (Rgs w10.drew (.slice O0 O.length ocp) O) := Lib.hid HRG.out
      go_upto_region 19 with fail
      go_cut [171] (fun x wx => x = .bool false ∧ Below w8.heap.size w8 wx)
      case first =>
        go_region_held3 (fun w' => w'.cell? ⟨w5.heap.size, 0, none⟩ = some (v 0) ∧ w'.cell? ⟨w5.heap.size, 1, none⟩ = some (v 1) ∧ w'.cell? ⟨w5.heap.size, 2, none⟩ = some (v 2) ∧ w'.cell? ⟨w5.heap.size, 3, none⟩ = some (v 3) ∧ w'.cell? ⟨w5.heap.size, 4, none⟩ = some (v 4))
          (first | go_keep | exact ⟨g0, g1, g2, g3, g4⟩)
          (first
            | (go_at_call 17; refine (HC0.out _ hbk).mono ?_; rintro e' w9 ⟨vc, rfl, hcl, hb9⟩; have HCL := Lib.hid hcl; have HRG := Lib.hid (HRG.out.stay hb9); have hbk := hbk.trans (hb9.mono hbk.size); obtain ⟨g0, g1, g2, g3, g4⟩ := HKEEP.out w9 hbk; clear HC0)
            | (go_at_call 17; refine (HC1.out _ hbk).mono ?_; rintro e' w9 ⟨vc, rfl, hcl, hb9⟩; have HCL := Lib.hid hcl; have HRG := Lib.hid (HRG.out.stay hb9); have hbk := hbk.trans (hb9.mono hbk.size); obtain ⟨g0, g1, g2, g3, g4⟩ := HKEEP.out w9 hbk; clear HC1)
            | (go_at_call 17; refine (HC2.out _ hbk).mono ?_; rintro e' w9 ⟨vc, rfl, hcl, hb9⟩; have HCL := Lib.hid hcl; have HRG := Lib.hid (HRG.out.stay hb9); have hbk := hbk.trans (hb9.mono hbk.size); obtain ⟨g0, g1, g2, g3, g4⟩ := HKEEP.out w9 hbk; clear HC2)
            | (go_at_call 17; refine (HC3.out _ hbk).mono ?_; rintro e' w9 ⟨vc, rfl, hcl, hb9⟩; have HCL := Lib.hid hcl; have HRG := Lib.hid (HRG.out.stay hb9); have hbk := hbk.trans (hb9.mono hbk.size); obtain ⟨g0, g1, g2, g3, g4⟩ := HKEEP.out w9 hbk; clear HC3)
            | (go_at_call 17; refine (HC4.out _ hbk).mono ?_; rintro e' w9 ⟨vc, rfl, hcl, hb9⟩; have HCL := Lib.hid hcl; have HRG := Lib.hid (HRG.out.stay hb9); have hbk := hbk.trans (hb9.mono hbk.size); obtain ⟨g0, g1, g2, g3, g4⟩ := HKEEP.out w9 hbk; clear HC4)
            | (go_at_call 16; refine (alike_true HRG.out HCL.out HRL.out HEQL.out).mono ?_; rintro e' w9 ⟨rfl, hb9⟩; have hbk := hbk.trans (hb9.mono hbk.size); obtain ⟨g0, g1, g2, g3, g4⟩ := HKEEP.out w9 hbk; clear HRG HCL HEQL HRL)
            | (go_at_call 18; refine (or_any (HA8.out.stay hbk) (HBb8.out.stay hbk) (by omega) (by omega)).mono ?_; rintro e' w9 ⟨vo9, O9, rfl, hr9, hc9, hm9, hl9, hb9⟩; have HRG := Lib.hid (hr9.rgs (canon_in32 hc9 (Int.le_refl _))); have HRL := Lib.hid (show O9.length ≤ 10000 by omega); have HEQL := Lib.hid (show O9 = _ from (clean_or HSA.out HSB.out hc9 hm9).trans (by rw [HEQ.out])); have hbk := hbk.trans (hb9.mono hbk.size); obtain ⟨g0, g1, g2, g3, g4⟩ := HKEEP.out w9 hbk)
            | (go_at_call 19; refine (and_any (HA8.out.stay hbk) (HBb8.out.stay hbk) (by omega) (by omega)).mono ?_; rintro e' w9 ⟨vo9, O9, rfl, hr9, hc9, hm9, hl9, hb9⟩; have HRG := Lib.hid (hr9.rgs (canon_in32 hc9 (Int.le_refl _))); have HRL := Lib.hid (show O9.length ≤ 10000 by omega); have HEQL := Lib.hid (show O9 = _ from (clean_and HSA.out HSB.out hc9 hm9).trans (by rw [HEQ.out])); have hbk := hbk.trans (hb9.mono hbk.size); obtain ⟨g0, g1, g2, g3, g4⟩ := HKEEP.out w9 hbk)
            | (go_at_call 20; refine (less_any (HA8.out.stay hbk) (HBb8.out.stay hbk) (by omega) (by omega)).mono ?_; rintro e' w9 ⟨vo9, O9, rfl, hr9, hc9, hm9, hl9, hb9⟩; have HRG := Lib.hid (hr9.rgs (canon_in32 hc9 (Int.le_refl _))); have HRL := Lib.hid (show O9.length ≤ 10000 by omega); have HEQL := Lib.hid (show O9 = _ from (clean_less HSA.out HSB.out hc9 hm9).trans (by rw [HEQ.out])); have hbk := hbk.trans (hb9.mono hbk.size); obtain ⟨g0, g1, g2, g3, g4⟩ := HKEEP.out w9 hbk)
            | (go_at_call 21; refine (not_any (HA8.out.stay hbk) (by omega)).mono ?_; rintro e' w9 ⟨vo9, O9, rfl, hr9, hc9, hm9, hl9, hb9⟩; have HRG := Lib.hid (hr9.rgs (canon_in32 hc9 (Int.le_refl _))); have HRL := Lib.hid (show O9.length ≤ 10000 by omega); have HEQL := Lib.hid (show O9 = _ from (clean_not HSA.out hc9 hm9).trans (by rw [HEQ.out])); have hbk := hbk.trans (hb9.mono hbk.size); obtain ⟨g0, g1, g2, g3, g4⟩ := HKEEP.out w9 hbk))
        go_wp2_with fail
        go_meet
        exact ⟨rfl, hbk⟩
      case rest =>
        obtain ⟨rfl, hbr⟩ := hcut
        obtain ⟨w11, hw11⟩ : ∃ w11, w11 = wc := ⟨_, rfl⟩
        subst hw11
        have HAz := Lib.hid (HA8.out.stay hbr)
        have HBz := Lib.hid (HBb8.out.stay hbr)
        have HXz := Lib.hid (HX8.out.stay hbr)
        have HBW := Lib.hid (HB8.out.trans (hbr.mono HB8.out.size))
        clear hbr
        have t1 : IntKind.i64.wrap r = r := IntWalk.i64_in _ (by omega)
        obtain ⟨ha, hha⟩ : ∃ t, hasU a r = t := ⟨_, rfl⟩
        have HHA := Lib.hid hha
        have HHS := Lib.hid (has_any HAz.out (by omega) r ha (by rw [← hha]; exact hasU_iff a r))
        clear hha
        go_wp2_with fail
        refine HHS.out.mono ?_
        rintro e1 w12 ⟨rfl, hb12⟩
        have HRH := Lib.hid (refHas_any (HXz.out.stay hb12) (by omega) r ha (by rw [← HHA.out]; exact hasU_iff a r))
        have HB12 := Lib.hid hb12
        clear hb12 HHS
        go_wp2_with fail
        refine HRH.out.mono ?_
        rintro e2 w13 ⟨rfl, hw13⟩
        subst hw13
        have t2 : (ha == ha) = true := by simp
        have HCN := Lib.hid (count_any (HAz.out.stay HB12.out) (by omega))
        clear HRH
        go_wp2_with fail
        refine HCN.out.mono ?_
        rintro e3 w14 ⟨Oc, rfl, hoc, hb14⟩
        have hcm : countC Oc = m := by
          have e0 := clean_of HSA.out hoc
          rw [HSUM.out, ← HEQ.out, e0]
          exact sum_edges (hasU a) (a ++ b)
        have HEM : Hid ((m == 0) = true ↔ ∀ r, ¬ memU a r) := Lib.hid (by rw [← hcm]; exact empty_iff hoc)
        have HB14 := Lib.hid (HB12.out.trans (hb14.mono HB12.out.size))
        have HMT := Lib.hid (empty_any (HAz.out.stay HB14.out) (by omega) (m == 0) HEM.out)
        rw [hcm]
        clear hoc hb14 hcm HCN
        have t3 : (m == m) = true := by simp
        go_wp2_with fail
        refine HMT.out.mono ?_
        rintro e4 w15 ⟨rfl, hb15⟩
        have HB15 := Lib.hid (HB14.out.trans (hb15.mono HB14.out.size))
        have t4 : ((m == 0) == (m == 0)) = true := by simp
        have HSS : Hid (sm = true ↔ SameSet a b) := Lib.hid (by
          rw [HSM.out, ← HEQ.out, same_edges (fun r h0 h1 hn => hasU_change HSA.out h0 h1 hn) (fun r h0 h1 hn => hasU_change HSB.out h0 h1 hn)]
          constructor
          · intro h r
            rw [memU_hasU a, memU_hasU b]
            constructor
            · rintro ⟨h0, h1, h2⟩; exact ⟨h0, h1, by rw [← h r h0 h1]; exact h2⟩
            · rintro ⟨h0, h1, h2⟩; exact ⟨h0, h1, by rw [h r h0 h1]; exact h2⟩
          · intro h r _ _
            have := h r
            rw [← hasU_iff, ← hasU_iff] at this
            exact Bool.eq_iff_iff.2 this)
        have HSAM := Lib.hid (same_any (HAz.out.stay HB15.out) (HBz.out.stay HB15.out) (by omega) (by omega) sm HSS.out)
        clear hb15 HMT
        go_wp2_with fail
        refine HSAM.out.mono ?_
        rintro e5 w16 ⟨rfl, hb16⟩
        have HB16 := Lib.hid (HB15.out.trans (hb16.mono HB15.out.size))
        have t5 : (sm == sm) = true := by simp
        clear hb16 HSAM
        go_wp2_with fail
        refine (alls_any w16).mono ?_
        rintro e6 w17 ⟨vA, rfl, hra, hb17⟩
        have HB17 := Lib.hid (HB16.out.trans (hb17.mono HB16.out.size))
        have HCA := Lib.hid (count_any hra (by simp))
        clear hra hb17
        go_wp2_with fail
        refine HCA.out.mono ?_
        rintro e7 w18 ⟨Oa, rfl, hoa, hb18⟩
        have HB18 := Lib.hid (HB17.out.trans (hb18.mono HB17.out.size))
        rw [all_count hoa]
        have HBE := Lib.hid (HBW.out.trans (HB18.out.mono HBW.out.size))
        clear hoa hb18 HCA
        go_wp2_with fail
        refine (HT.out _ HBE.out).mono ?_
        rintro e8 w19 ⟨rfl, hb19⟩
        have HEND := Lib.hid (HBE.out.trans (hb19.mono HBE.out.size))
        clear hb19
        go_wp2_with fail
        go_ret
        exact ⟨rfl, HEND.out⟩

end Go.Proofs.YtfjlhfalnciamaaDoor.Chars
