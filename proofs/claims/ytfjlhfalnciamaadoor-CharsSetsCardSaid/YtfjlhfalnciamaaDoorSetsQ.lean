/- Rows that grow by one each, in a region that draws its order (law CharsSets): the steps. -/
import Derived.Test.YtfjlhfalnciamaaDoorSetsP
import Derived.Orders
import Derived.OneCell
import Derived.Great.BuildSlice
namespace Go.Proofs.YtfjlhfalnciamaaDoor.Chars
open Go Go.RowKit Go.Proofs.Chars

namespace Ex
def with' (D : Nat → Bool) (i : Nat) : Nat → Bool := fun k => D k || k == i
theorem with_self {D : Nat → Bool} {i : Nat} : with' D i i = true := by simp [with']
theorem blt_lt {a b : Nat} (h : Nat.blt a b = true) : a < b := by simpa [Nat.blt_eq] using h
def Dof (listed : Array Bool) : Nat → Bool := fun i => listed.getD i false
def cnt (D : Nat → Bool) : Nat → Nat
  | 0 => 0
  | k + 1 => cnt D k + if D k = true then 0 else 1
theorem cnt_with {D : Nat → Bool} {i : Nat} (hi : D i = false) : ∀ k, cnt D k = cnt (with' D i) k + if i < k then 1 else 0
  | 0 => rfl
  | k + 1 => by
    rw [cnt, cnt, cnt_with hi k]
    by_cases e : i = k
    · subst e
      rw [if_neg (Nat.lt_irrefl i), if_pos (Nat.lt_succ_self i), with_self, hi]
      simp
    · have : with' D i k = D k := by
        have : (k == i) = false := by simpa using fun h => e h.symm
        simp [with', this]
      rw [this]
      by_cases h : i < k
      · rw [if_pos h, if_pos (show i < k + 1 by omega)]; omega
      · rw [if_neg h, if_neg (show ¬ i < k + 1 by omega)]; omega
theorem cnt_all {D : Nat → Bool} : ∀ k, cnt D k = 0 → ∀ i, i < k → D i = true
  | 0, _, i, h => absurd h (Nat.not_lt_zero _)
  | k + 1, h, i, hi => by
    rw [cnt] at h
    by_cases e : i = k
    · subst e
      cases hD : D i with
      | true => rfl
      | false => rw [hD] at h; simp at h
    · exact cnt_all k (by omega) i (by omega)
theorem Dof_set {listed : Array Bool} {i : Nat} (h : i < listed.size) : Dof (listed.setIfInBounds i true) = with' (Dof listed) i := by
  funext k
  unfold Dof with'
  by_cases e : k = i
  · subst e
    simp [h]
  · have : (k == i) = false := by simpa using e
    rw [this]
    simp only [Array.getD_eq_getD_getElem?, Bool.or_false]
    rw [Array.getElem?_setIfInBounds_ne (fun h => e h.symm)]
end Ex

/-- By an invariant: every step of a region that draws keeps it. -/
theorem wpAny_inv {P : Program} {ops : Array Oper} {Q : Exit → Act → World → Prop} (I : (Nat → Bool) → Act → World → Prop)
    (hback : ∀ i o, ops[i]? = some o → ∀ e ∈ o.after.toList, Region.binds .any e = true → e.on < i)
    (hs : ∀ (D : Nat → Bool) (i : Nat) (o : Oper) a w, ops[i]? = some o → D i = false → (∀ e ∈ o.after.toList, Region.binds .any e = true → D e.on = true) → I D a w → wpOp P ops Q i (I (Ex.with' D i)) a w)
    (he : ∀ D a w, I D a w → (∀ i, i < ops.size → D i = true) → Q .normal a w) :
    ∀ (fuel : Nat) (listed : Array Bool) (a : Act) (w : World), listed.size = ops.size → I (Ex.Dof listed) a w → Ex.cnt (Ex.Dof listed) ops.size ≤ fuel → wpAny P .any ops Q fuel listed a w := by
  have full : ∀ (listed : Array Bool), listed.size = ops.size → Region.ready .any ops listed = [] → ∀ i, i < ops.size → Ex.Dof listed i = true := by
    intro listed hsz hrd i
    induction i using Nat.strongRecOn with
    | _ i ih =>
      intro hi
      cases hD : Ex.Dof listed i with
      | true => rfl
      | false =>
        exfalso
        have hoa : ops[i]? = some ops[i] := Array.getElem?_eq_getElem hi
        have hmem : i ∈ Region.ready .any ops listed := by
          refine mem_ready.2 ⟨?_, _, hoa, fun e he hb => ?_⟩
          · unfold Ex.Dof at hD
            simp only [Array.getD_eq_getD_getElem?] at hD ⊢
            rw [Array.getElem?_eq_getElem (by omega)] at hD ⊢
            simpa using hD
          · have hlt := hback i _ hoa e (by simpa using he) hb
            exact ih e.on hlt (by omega)
        rw [hrd] at hmem
        cases hmem
  intro fuel
  induction fuel with
  | zero =>
    intro listed a w hsz hinv hcnt
    have hall := Ex.cnt_all _ (Nat.le_zero.1 hcnt)
    refine ⟨?_, he _ a w hinv hall⟩
    cases hrd : Region.ready .any ops listed with
    | nil => rfl
    | cons i l =>
      exfalso
      have hmem : i ∈ Region.ready .any ops listed := by rw [hrd]; exact List.mem_cons_self
      obtain ⟨h1, o, h2, _⟩ := mem_ready.1 hmem
      have hi : i < ops.size := (Array.getElem?_eq_some_iff.1 h2).1
      have h3 := hall i hi
      unfold Ex.Dof at h3
      simp only [Array.getD_eq_getD_getElem?] at h1 h3
      rw [Array.getElem?_eq_getElem (by omega)] at h1 h3
      simp at h1 h3
      rw [h1] at h3
      cases h3
  | succ fuel ih =>
    intro listed a w hsz hinv hcnt
    refine ⟨fun hrd => he _ a w hinv (full listed hsz hrd), fun i hi => ?_⟩
    obtain ⟨h1, o, h2, h3⟩ := mem_ready.1 hi
    have hil : i < ops.size := (Array.getElem?_eq_some_iff.1 h2).1
    have hni : Ex.Dof listed i = false := by
      unfold Ex.Dof
      simp only [Array.getD_eq_getD_getElem?] at h1 ⊢
      rw [Array.getElem?_eq_getElem (by omega)] at h1 ⊢
      simpa using h1
    have hset := Ex.Dof_set (listed := listed) (i := i) (by omega)
    refine wpOp_mono (fun a' w' hinv' => ?_) (hs _ i o a w h2 hni (fun e he hb => h3 e (by simpa using he) hb) hinv)
    refine ih _ a' w' (by simpa using hsz) (by rw [hset]; exact hinv') ?_
    rw [hset]
    have := Ex.cnt_with hni ops.size
    rw [if_pos hil] at this
    omega

section
variable {ops : Array Oper} {o : Oper} {a : Act} {w : World} {K : Act → World → Prop} {Q : Exit → Act → World → Prop} {i : Nat}
theorem wpOp_of (hi : ops[i]? = some o) (hg : o.guard = none) (h : o.wp Tryd.prog a w K Q) : wpOp Tryd.prog ops Q i K a w := by
  unfold wpOp
  rw [hi]
  simp only []
  rw [if_pos (by simp [Region.wanted, hg])]
  exact .inl h
theorem eval_tmp {t : Nat} {v : Value} (h : a.tmps[t]? = some v) : a.eval (.tmp t) = v := by simp [Act.eval, h]
theorem sizeI : (Tryd.prog.info? 28).map (fun i => i.size) = some 1 := by kernel_rfl
theorem infoBo : (Tryd.prog.info? 4).map (fun i => (i.zero, i.size, i.bytes)) = some (some (.bool false), 1, 1) := by kernel_rfl
theorem under28 : Tryd.prog.underlying 28 = some (.slice 4) := by kernel_rfl
theorem size_run (w : World) : (sizeOf 28).run Tryd.prog w = .ok 1 w := by
  have h := sizeI
  cases hi : Tryd.prog.info? 28 with
  | none => rw [hi] at h; cases h
  | some i => rw [hi] at h; simp at h; simp [sizeOf, typeInfo, hi, h]
theorem agg_run (w : World) : (isAgg 28).run Tryd.prog w = .ok false w := by
  simp [isAgg, underlying, under28]
theorem step_load (hi : ops[i]? = some o) (hg : o.guard = none) {t : Nat} {A : Addr} {v : Value} (ho : o.op = .load 28 (.tmp t)) (ht : a.tmps[t]? = some (.pointer (some A))) (hs : A.spot = none) (hc : w.cell? A = some v)
    (h : K (a.put o.dst v) w) : wpOp Tryd.prog ops Q i K a w := by
  refine wpOp_of hi hg ?_
  have hr : (execOp a.eval o).run Tryd.prog w = .ok (.value v) w := by
    simp [execOp, ho, Instr.loadAt, eval_tmp ht, Instr.sureAddr, loadVar, agg_run, run_load, hc]
  unfold Oper.wp
  rw [hr]
  exact h
theorem step_build (hi : ops[i]? = some o) (hg : o.guard = none) {t : Nat} {q : Bool} (ho : o.op = .buildSlice 28 1 #[(0, .tmp t)]) (ht : a.tmps[t]? = some (.bool q))
    (h : K (a.put o.dst (.slice (some ⟨w.heap.size, 0, none⟩) 1 1)) (w.alloc (.cells #[.bool q] 4))) : wpOp Tryd.prog ops Q i K a w := by
  refine wpOp_of hi hg ?_
  obtain ⟨i0, hi0, hz0, hz1, hz2⟩ := info_parts infoBo
  refine wp_buildSlice 28 4 1 _ ho #[.bool q] i0 _ under28 hi0 hz0 (by rw [hz1]; simp) (by rw [hz1]; simp) ?_ h
  rw [hz1]
  simp [eval_tmp ht, Instr.fill]
  refine ⟨⟨rfl, Nat.le_refl _⟩, ?_⟩
  have e1 : ∀ b : Bool, (Value.bool b).cells = #[.bool b] := fun _ => rfl
  have e2 : Array.range 1 = #[0] := by decide
  rw [e1, e1, e2]
  simp [Array.zipIdx]
set_option maxRecDepth 100000 in
theorem step_app (hi : ops[i]? = some o) (hg : o.guard = none) {t u base n : Nat} {v : Value} {xs : List Value} {A : Addr} {b : Bool} (ho : o.op = .call { callee := .builtin .append, args := #[.tmp t, .tmp u], argTypes := #[28, 28] }) (ht : a.tmps[t]? = some v) (hu : a.tmps[u]? = some (.slice (some A) 1 1))
    (hown : w.ownsRow base 4 1 v n xs) (hc : w.cell? (A.add 0) = some (.bool b)) (hn : n ≤ 100000) (hb : base ≤ w.heap.size)
    (h : ∀ v' w', w'.ownsRow base 4 1 v' (n + 1) (xs ++ [.bool b]) → w.grownBy w' v.ownBlock → (v'.ownBlock = v.ownBlock ∨ v'.ownBlock = some w.heap.size) → K (a.put o.dst v') w') : wpOp Tryd.prog ops Q i K a w := by
  refine wpOp_of hi hg ?_
  obtain ⟨i0, hi0, hz0, hz1, hz2⟩ := info_parts infoBo
  obtain ⟨v', w', hr, h2, h3, _, h5⟩ := run_append_own_at (P := Tryd.prog) w base 28 o.type 4 i0 _ 1 1 under28 hi0 hz0 hz1 hz2 rfl (by decide) v n xs hown A 1 1 [.bool b] rfl
    (fun j u hu => by match j, hu with | 0, hu => simp at hu; subst hu; exact hc) (fun u hu => by simp at hu; subst hu; rfl) (by unfold maxLen; omega) (by omega) hb
  unfold Oper.wp execOp
  simp only [ho, resolve, invoke, builtin, Sem.run_bind, Sem.run_pure, Result.andThen_ok, List.map_toArray, List.map_cons, List.map_nil, eval_tmp ht, eval_tmp hu, hr]
  exact h v' w' h2 h3 h5
theorem step_store (hi : ops[i]? = some o) (hg : o.guard = none) {t u : Nat} {A : Addr} {v x : Value} (ho : o.op = .store 28 (.tmp t) (.tmp u)) (ht : a.tmps[t]? = some (.pointer (some A))) (hs : A.spot = none) (hu : a.tmps[u]? = some v) (hv : ∃ B n c, v = .slice B n c)
    (hc : w.cell? A = some x) (hf : w.frozen? A = false) (hd : o.dst = none) (h : K a (w.setCell A v)) : wpOp Tryd.prog ops Q i K a w := by
  refine wpOp_of hi hg ?_
  obtain ⟨B, n, c, rfl⟩ := hv
  have hA : (⟨A.block, A.off, none⟩ : Addr) = A := by obtain ⟨b, o', s⟩ := A; simp at hs; subst hs; rfl
  have hst := run_store Tryd.prog w A (.slice B n c) .plain rfl
  rw [hc, hf] at hst
  have hr : (execOp a.eval o).run Tryd.prog w = .ok .skip (w.setCell A (.slice B n c)) := by
    simp [execOp, ho, Instr.storeAt, eval_tmp ht, eval_tmp hu, Instr.sureAddr, storeVar, storeCells, hA, Addr.add, size_run, Value.cells, hst]
  unfold Oper.wp
  rw [hr]
  simp only [Oper.upon, hd]
  exact h
end

end Go.Proofs.YtfjlhfalnciamaaDoor.Chars
