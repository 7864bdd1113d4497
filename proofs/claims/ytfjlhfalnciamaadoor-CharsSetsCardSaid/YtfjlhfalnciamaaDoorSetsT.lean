/- Rows that grow by one each, in a region that draws its order (law CharsSets): the region of the law. -/
import Derived.Test.YtfjlhfalnciamaaDoorSetsS
namespace Go.Proofs.YtfjlhfalnciamaaDoor.Chars
open Go Go.RowKit Go.Proofs.Chars

def edgeB (o : Oper) (i : Nat) : Bool := o.after.toList.any fun e => Region.binds .any e && Nat.beq e.on i
theorem edgeB_ok {o : Oper} {i : Nat} (h : edgeB o i = true) : hasEdge o i := by
  obtain ⟨e, he, h2⟩ := List.any_eq_true.1 h
  simp only [Bool.and_eq_true] at h2
  exact ⟨e, he, h2.1, Nat.eq_of_beq_eq_true h2.2⟩
def loadB (o : Oper) (x : Thr) : Bool := match o.op, o.dst, o.guard with
  | .load t (.tmp a), some d, none => Nat.beq t 28 && Nat.beq a x.tL && Nat.beq d x.tR
  | _, _, _ => false
def laidB (o : Oper) (x : Thr) : Bool := match o.op, o.dst, o.guard with
  | .buildSlice t 1 ⟨[(0, .tmp a)]⟩, some d, none => Nat.beq t 28 && Nat.beq a x.tQ && Nat.beq d x.tB
  | _, _, _ => false
def appB (o : Oper) (x : Thr) : Bool := match o.op, o.dst, o.guard with
  | .call ⟨.builtin .append, ⟨[.tmp a, .tmp b]⟩, ⟨[t, u]⟩⟩, some d, none => Nat.beq t 28 && Nat.beq u 28 && Nat.beq a x.tR && Nat.beq b x.tB && Nat.beq d x.tA && edgeB o x.L && edgeB o x.B
  | _, _, _ => false
def storeB (o : Oper) (x : Thr) : Bool := match o.op, o.dst, o.guard with
  | .store t (.tmp a) (.tmp b), none, none => Nat.beq t 28 && Nat.beq a x.tP && Nat.beq b x.tA && edgeB o x.A
  | _, _, _ => false
theorem loadB_ok {o : Oper} {x : Thr} (h : loadB o x = true) : o.op = .load 28 (.tmp x.tL) ∧ o.dst = some x.tR ∧ o.guard = none := by
  unfold loadB at h
  split at h
  · rename_i t a d e1 e2 e3
    simp only [Bool.and_eq_true] at h
    rw [e1, e2, e3, Nat.eq_of_beq_eq_true h.1.1, Nat.eq_of_beq_eq_true h.1.2, Nat.eq_of_beq_eq_true h.2]
    exact ⟨rfl, rfl, rfl⟩
  · cases h
theorem laidB_ok {o : Oper} {x : Thr} (h : laidB o x = true) : o.op = .buildSlice 28 1 #[(0, .tmp x.tQ)] ∧ o.dst = some x.tB ∧ o.guard = none := by
  unfold laidB at h
  split at h
  · rename_i t a d e1 e2 e3
    simp only [Bool.and_eq_true] at h
    rw [e1, e2, e3, Nat.eq_of_beq_eq_true h.1.1, Nat.eq_of_beq_eq_true h.1.2, Nat.eq_of_beq_eq_true h.2]
    exact ⟨rfl, rfl, rfl⟩
  · cases h
theorem appB_ok {o : Oper} {x : Thr} (h : appB o x = true) : o.op = .call { callee := .builtin .append, args := #[.tmp x.tR, .tmp x.tB], argTypes := #[28, 28] } ∧ o.dst = some x.tA ∧ o.guard = none ∧ hasEdge o x.L ∧ hasEdge o x.B := by
  unfold appB at h
  split at h
  · rename_i a b t u d e1 e2 e3
    simp only [Bool.and_eq_true] at h
    obtain ⟨⟨⟨⟨⟨⟨h1, h2⟩, h3⟩, h4⟩, h5⟩, h6⟩, h7⟩ := h
    rw [e1, e2, e3, Nat.eq_of_beq_eq_true h1, Nat.eq_of_beq_eq_true h2, Nat.eq_of_beq_eq_true h3, Nat.eq_of_beq_eq_true h4, Nat.eq_of_beq_eq_true h5]
    exact ⟨rfl, rfl, rfl, edgeB_ok h6, edgeB_ok h7⟩
  · cases h
theorem storeB_ok {o : Oper} {x : Thr} (h : storeB o x = true) : o.op = .store 28 (.tmp x.tP) (.tmp x.tA) ∧ o.dst = none ∧ o.guard = none ∧ hasEdge o x.A := by
  unfold storeB at h
  split at h
  · rename_i t a b e1 e2 e3
    simp only [Bool.and_eq_true] at h
    obtain ⟨⟨⟨h1, h2⟩, h3⟩, h4⟩ := h
    rw [e1, e2, e3, Nat.eq_of_beq_eq_true h1, Nat.eq_of_beq_eq_true h2, Nat.eq_of_beq_eq_true h3]
    exact ⟨rfl, rfl, rfl, edgeB_ok h4⟩
  · cases h
def backB : List Oper → Nat → Bool
  | [], _ => true
  | o :: l, i => (o.after.toList.all fun e => !Region.binds .any e || Nat.blt e.on i) && backB l (i + 1)
theorem backB_ok : ∀ {l : List Oper} {i : Nat}, backB l i = true → ∀ j o, l[j]? = some o → ∀ e ∈ o.after.toList, Region.binds .any e = true → e.on < i + j
  | [], i, _, j, o, h => by simp at h
  | x :: l, i, hb, j, o, h => by
    rw [backB, Bool.and_eq_true] at hb
    cases j with
    | zero =>
      simp at h
      subst h
      intro e he hbd
      have := List.all_eq_true.1 hb.1 e he
      rw [hbd] at this
      simp only [Bool.not_true, Bool.false_or] at this
      exact Ex.blt_lt this
    | succ j =>
      intro e he hbd
      have := backB_ok hb.2 j o (by simpa using h) e he hbd
      omega
def prL (x y : Thr) : List (Nat × Nat) := [(x.L, y.B), (x.L, y.A), (x.L, y.S), (x.B, y.A), (x.B, y.S), (x.A, y.S), (x.tR, y.tB), (x.tR, y.tA), (x.tB, y.tA), (x.tP, y.tR), (x.tP, y.tB), (x.tP, y.tA), (x.tQ, y.tR), (x.tQ, y.tB), (x.tQ, y.tA), (x.tL, y.tR), (x.tL, y.tB), (x.tL, y.tA)]
def unL (x y : Thr) : List (Nat × Nat) := [(x.L, y.L), (x.B, y.B), (x.A, y.A), (x.S, y.S), (x.tR, y.tR), (x.tB, y.tB), (x.tA, y.tA)]
def unlike (l : List (Nat × Nat)) : Bool := l.all fun p => !Nat.beq p.1 p.2
theorem unlike_ok {l : List (Nat × Nat)} (h : unlike l = true) : ∀ a b, (a, b) ∈ l → a ≠ b := fun a b hab e => by
  have := List.all_eq_true.1 h _ hab
  subst e
  simp at this
theorem prL_ok {x y : Thr} (h : unlike (prL x y) = true) : Pr x y := by
  have k := unlike_ok h
  constructor <;> exact k _ _ (by simp [prL])
theorem unL_ok {x y : Thr} (h : unlike (unL x y) = true) : Un x y := by
  have k := unlike_ok h
  constructor <;> exact k _ _ (by simp [unL])
def atB (ops : Array Oper) (i : Nat) (p : Oper → Bool) : Bool := match ops.toList[i]? with
  | some o => p o
  | none => false
theorem atB_ok {ops : Array Oper} {i : Nat} {p : Oper → Bool} (h : atB ops i p = true) : ∃ o, ops[i]? = some o ∧ p o = true := by
  unfold atB at h
  split at h
  · rename_i o ho; exact ⟨o, by simpa using ho, h⟩
  · cases h
def opsB (ops : Array Oper) (n : Nat) (T : Nat → Thr) : Bool :=
  (List.range n).all (fun k => atB ops (T k).L (fun o => loadB o (T k)) && atB ops (T k).B (fun o => laidB o (T k)) && atB ops (T k).A (fun o => appB o (T k)) && atB ops (T k).S (fun o => storeB o (T k)) &&
    (List.range n).all fun j => unlike (prL (T k) (T j)) && (Nat.beq k j || unlike (unL (T k) (T j)))) && backB ops.toList 0
theorem opsB_ok {ops : Array Oper} {n : Nat} {T : Nat → Thr} (h : opsB ops n T = true) : Ops ops n T := by
  unfold opsB at h
  rw [Bool.and_eq_true] at h
  obtain ⟨h1, h2⟩ := h
  have hk : ∀ k, k < n → _ := fun k hk => List.all_eq_true.1 h1 k (by simpa using hk)
  simp only [Bool.and_eq_true] at hk
  refine ⟨fun k h => ?_, fun k h => ?_, fun k h => ?_, fun k h => ?_, fun j k hj h => ?_, fun j k hj h hne => ?_, fun i hi => ?_, fun i o ho => ?_⟩
  · obtain ⟨o, ho, hp⟩ := atB_ok (hk k h).1.1.1.1
    exact ⟨o, ho, loadB_ok hp⟩
  · obtain ⟨o, ho, hp⟩ := atB_ok (hk k h).1.1.1.2
    exact ⟨o, ho, laidB_ok hp⟩
  · obtain ⟨o, ho, hp⟩ := atB_ok (hk k h).1.1.2
    exact ⟨o, ho, appB_ok hp⟩
  · obtain ⟨o, ho, hp⟩ := atB_ok (hk k h).1.2
    exact ⟨o, ho, storeB_ok hp⟩
  · have := List.all_eq_true.1 (hk j hj).2 k (by simpa using h)
    simp only [Bool.and_eq_true] at this
    exact prL_ok this.1
  · have := List.all_eq_true.1 (hk j hj).2 k (by simpa using h)
    simp only [Bool.and_eq_true, Bool.or_eq_true] at this
    rcases this.2 with e | e
    · exact absurd (Nat.eq_of_beq_eq_true e) hne
    · exact unL_ok e
  · by_cases e : ∃ k, k < n ∧ (i = (T k).L ∨ i = (T k).B ∨ i = (T k).A ∨ i = (T k).S)
    · exact .inl e
    · right
      intro k hk
      refine ⟨fun h => e ⟨k, hk, .inl h⟩, fun h => e ⟨k, hk, .inr (.inl h)⟩, fun h => e ⟨k, hk, .inr (.inr (.inl h))⟩, fun h => e ⟨k, hk, .inr (.inr (.inr h))⟩⟩
  · have := backB_ok h2 i o (by simpa using ho)
    simpa using this

/-- What stands in a slot: a Bool, nothing, the place of a row. -/
inductive VV where
  | b (x : Bool)
  | u
  | a (k : Nat)
def VV.val (pl : Nat) : VV → Value
  | .b x => .bool x
  | .u => undef
  | .a k => .pointer (some ⟨pl, k, none⟩)
def VV.eqB : VV → VV → Bool
  | .b x, .b y => x == y
  | .u, .u => true
  | .a k, .a m => Nat.beq k m
  | _, _ => false
theorem VV.eq_ok {x y : VV} (h : x.eqB y = true) : x = y := by
  cases x <;> cases y <;> simp [VV.eqB] at h <;> first | rfl | rw [h]
/-- The operations that touch no memory. -/
inductive Fm where
  | mv (t : Nat)
  | idx (k : Nat)
  | nt (t : Nat)
  | por (c t : Nat)
  | pand (c t : Nat)
structure PF where
  i : Nat
  d : Nat
  f : Fm
  g : Option (Nat × Nat × Bool)
def Fm.reads : Fm → List Nat
  | .mv t => [t]
  | .idx _ => [10]
  | .nt t => [t]
  | .por c t => [c, t]
  | .pand c t => [c, t]
def isForm : Op → Fm → Bool
  | .move (.tmp t), .mv u => Nat.beq t u
  | .indexAddr ty (.tmp t) (.const (.int .i64 (.ofNat k))), .idx m => Nat.beq ty 29 && Nat.beq t 10 && Nat.beq k m && Nat.blt m 5
  | .unOp .not ty (.tmp t), .nt u => Nat.beq ty 4 && Nat.beq t u
  | .pick (.tmp c) (.const (.bool true)) (.tmp t), .por c' t' => Nat.beq c c' && Nat.beq t t'
  | .pick (.tmp c) (.tmp t) (.const (.bool false)), .pand c' t' => Nat.beq c c' && Nat.beq t t'
  | _, _ => false
def opOf : Fm → Op
  | .mv t => .move (.tmp t)
  | .idx k => .indexAddr 29 (.tmp 10) (.const (.int .i64 (.ofNat k)))
  | .nt t => .unOp .not 4 (.tmp t)
  | .por c t => .pick (.tmp c) (.const (.bool true)) (.tmp t)
  | .pand c t => .pick (.tmp c) (.tmp t) (.const (.bool false))
theorem isForm_ok {o : Op} {f : Fm} (h : isForm o f = true) : o = opOf f ∧ ∀ k, f = .idx k → k < 5 := by
  unfold isForm at h
  split at h <;> (try simp only [Bool.and_eq_true, Bool.false_eq_true] at h)
  · rw [Nat.eq_of_beq_eq_true h]; exact ⟨rfl, fun k e => by cases e⟩
  · obtain ⟨⟨⟨h1, h2⟩, h3⟩, h4⟩ := h
    rw [Nat.eq_of_beq_eq_true h1, Nat.eq_of_beq_eq_true h2, Nat.eq_of_beq_eq_true h3]; exact ⟨rfl, fun k e => by cases e; exact Ex.blt_lt h4⟩
  · rw [Nat.eq_of_beq_eq_true h.1, Nat.eq_of_beq_eq_true h.2]; exact ⟨rfl, fun k e => by cases e⟩
  · rw [Nat.eq_of_beq_eq_true h.1, Nat.eq_of_beq_eq_true h.2]; exact ⟨rfl, fun k e => by cases e⟩
  · rw [Nat.eq_of_beq_eq_true h.1, Nat.eq_of_beq_eq_true h.2]; exact ⟨rfl, fun k e => by cases e⟩
def Fm.res (V : Nat → VV) : Fm → Option VV
  | .mv t => some (V t)
  | .idx k => some (.a k)
  | .nt t => match V t with
    | .b x => some (.b (!x))
    | _ => none
  | .por c t => match V c with
    | .b true => some (.b true)
    | .b false => some (V t)
    | _ => none
  | .pand c t => match V c with
    | .b true => some (V t)
    | .b false => some (.b false)
    | _ => none
theorem underA : Tryd.prog.underlying 29 = some (.array 5 28) := by kernel_rfl
theorem form_run {V : Nat → VV} {pl : Nat} {f : Fm} {x : VV} {o : Oper} {a : Act} {w : World} (ho : o.op = opOf f) (hk : ∀ k, f = .idx k → k < 5) (hr : f.res V = some x) (h10 : V 10 = .a 0) (hs : ∀ t, t ∈ f.reads → a.tmps[t]? = some ((V t).val pl)) :
    (execOp a.eval o).run Tryd.prog w = .ok (.value (x.val pl)) w := by
  cases f with
  | mv t =>
    have h1 := eval_tmp (hs t (by simp [Fm.reads]))
    cases hr
    simp [execOp, ho, opOf, h1]
  | idx k =>
    have h1 := hs 10 (by simp [Fm.reads])
    have h2 := hk k rfl
    rw [h10] at h1
    cases hr
    have h3 : (k : Int) < 5 := by omega
    have h4 : (0 : Int) ≤ (k : Int) := by omega
    simp [execOp, ho, opOf, VV.val, Instr.indexAt, h1, asIntOf, underlying, Instr.sureAddr, Act.eval, Addr.add]
    rw [if_pos h2]
    split
    · rename_i e; subst e; rfl
    · rfl
  | nt t =>
    have h1 := hs t (by simp [Fm.reads])
    cases hv : V t <;> simp [Fm.res, hv] at hr
    subst hr
    rw [hv] at h1
    simp [execOp, ho, opOf, h1, VV.val, Act.eval, Op.unary]
  | por c t =>
    have h1 := hs c (by simp [Fm.reads])
    have h2 := hs t (by simp [Fm.reads])
    cases hv : V c with
    | b y =>
      rw [hv] at h1
      simp only [VV.val] at h1
      cases y <;> simp [Fm.res, hv] at hr <;> subst hr <;> simp [execOp, ho, opOf, h1, h2, Act.eval, asBool] <;> rfl
    | u => simp [Fm.res, hv] at hr
    | a k => simp [Fm.res, hv] at hr
  | pand c t =>
    have h1 := hs c (by simp [Fm.reads])
    have h2 := hs t (by simp [Fm.reads])
    cases hv : V c with
    | b y =>
      rw [hv] at h1
      simp only [VV.val] at h1
      cases y <;> simp [Fm.res, hv] at hr <;> subst hr <;> simp [execOp, ho, opOf, h1, h2, Act.eval, asBool] <;> rfl
    | u => simp [Fm.res, hv] at hr
    | a k => simp [Fm.res, hv] at hr

/-- The five rows of the law. -/
def T5 : Nat → Thr
  | 0 => ⟨1, 3, 4, 37, 54, 55, 56, 57, 58, 90⟩
  | 1 => ⟨6, 11, 12, 39, 59, 60, 64, 65, 66, 91⟩
  | 2 => ⟨14, 19, 20, 41, 67, 68, 72, 73, 74, 92⟩
  | 3 => ⟨22, 28, 29, 43, 75, 76, 81, 82, 83, 93⟩
  | _ => ⟨31, 34, 35, 45, 84, 85, 87, 88, 89, 94⟩

def pureB (i : Nat) : Bool := (List.range 5).all fun k => !Nat.beq i (T5 k).L && !Nat.beq i (T5 k).B && !Nat.beq i (T5 k).A && !Nat.beq i (T5 k).S
theorem nbeq {a b : Nat} (h : (!Nat.beq a b) = true) : a ≠ b := fun e => by subst e; simp at h
theorem nbeq' {a b : Nat} (h : a ≠ b) : (!Nat.beq a b) = true := by
  cases e : Nat.beq a b with
  | false => rfl
  | true => exact absurd (Nat.eq_of_beq_eq_true e) h
theorem pureB_ok {i : Nat} (h : pureB i = true) : Pure 5 T5 i := fun k hk => by
  have := List.all_eq_true.1 h k (by simpa using hk)
  simp only [Bool.and_eq_true] at this
  obtain ⟨⟨⟨a, b⟩, c⟩, d⟩ := this
  exact ⟨nbeq a, nbeq b, nbeq c, nbeq d⟩
theorem pureB_of {i : Nat} (h : Pure 5 T5 i) : pureB i = true := List.all_eq_true.2 fun k hk => by
  obtain ⟨a, b, c, d⟩ := h k (by simpa using hk)
  simp only [Bool.and_eq_true]
  exact ⟨⟨⟨nbeq' a, nbeq' b⟩, nbeq' c⟩, nbeq' d⟩
def offB (t : Nat) : Bool := (List.range 5).all fun k => !Nat.beq t (T5 k).tR && !Nat.beq t (T5 k).tB && !Nat.beq t (T5 k).tA
theorem offB_ok {t : Nat} (h : offB t = true) : ∀ k, k < 5 → t ≠ (T5 k).tR ∧ t ≠ (T5 k).tB ∧ t ≠ (T5 k).tA := fun k hk => by
  have := List.all_eq_true.1 h k (by simpa using hk)
  simp only [Bool.and_eq_true] at this
  exact ⟨nbeq this.1.1, nbeq this.1.2, nbeq this.2⟩
def isDst (o : Oper) (t : Nat) : Bool := match o.dst with
  | some d => Nat.beq d t
  | none => false
theorem isDst_ok {o : Oper} {t : Nat} (h : isDst o t = true) : o.dst = some t := by
  unfold isDst at h
  split at h
  · rename_i e; rw [e, Nat.eq_of_beq_eq_true h]
  · cases h
theorem isDst_of {o : Oper} {t : Nat} (h : o.dst = some t) : isDst o t = true := by simp [isDst, h]
def feedB (ops : Array Oper) (o : Oper) (t : Nat) : Bool := (List.range ops.size).any fun j => pureB j && edgeB o j && atB ops j fun oj => isDst oj t
def freeB (ops : Array Oper) (t : Nat) : Bool := (List.range ops.size).all fun j => atB ops j fun oj => !isDst oj t
def readB (ops : Array Oper) (o : Oper) (t : Nat) : Bool := offB t && (feedB ops o t || (freeB ops t && (Nat.beq t 10 || Nat.beq t 14 || Nat.beq t 15)))
theorem read_ok {ops : Array Oper} {o : Oper} {t pl : Nat} {V : Nat → VV} {a0 : Act} (h0 : ∀ t, t = 10 ∨ t = 14 ∨ t = 15 → a0.tmps[t]? = some ((V t).val pl)) (h : readB ops o t = true) : Src ops 5 T5 (fun t => (V t).val pl) a0 o t ((V t).val pl) := by
  unfold readB at h
  simp only [Bool.and_eq_true, Bool.or_eq_true] at h
  obtain ⟨h1, h2⟩ := h
  refine ⟨offB_ok h1, ?_⟩
  rcases h2 with h2 | ⟨h2, h3⟩
  · left
    obtain ⟨j, _, hj⟩ := List.any_eq_true.1 h2
    simp only [Bool.and_eq_true] at hj
    obtain ⟨oj, k1, k2⟩ := atB_ok hj.2
    exact ⟨j, oj, k1, pureB_ok hj.1.1, edgeB_ok hj.1.2, isDst_ok k2, rfl⟩
  · right
    refine ⟨fun j oj hj _ hd => ?_, h0 t ?_⟩
    · have := List.all_eq_true.1 h2 j (by simpa using (Array.getElem?_eq_some_iff.1 hj).1)
      obtain ⟨o', k1, k2⟩ := atB_ok this
      rw [hj] at k1
      cases k1
      rw [isDst_of hd] at k2
      cases k2
    · rcases h3 with (h3 | h3) | h3
      · exact .inl (Nat.eq_of_beq_eq_true h3)
      · exact .inr (.inl (Nat.eq_of_beq_eq_true h3))
      · exact .inr (.inr (Nat.eq_of_beq_eq_true h3))
def resB (V : Nat → VV) (f : Fm) (d : Nat) : Bool := match f.res V with
  | some x => x.eqB (V d)
  | none => false
theorem resB_ok {V : Nat → VV} {f : Fm} {d : Nat} (h : resB V f d = true) : f.res V = some (V d) := by
  unfold resB at h
  split at h
  · rename_i x e; rw [e, VV.eq_ok h]
  · cases h
def grdB (ops : Array Oper) (V : Nat → VV) (o : Oper) (p : PF) : Bool := match o.guard, p.g with
  | none, none => resB V p.f p.d
  | some (g, want), some (gi, gs, want') => Nat.beq g gi && (want == want') && readB ops o gs && atB ops gi (fun og => isDst og gs) && (match V gs with
    | .b y => if y == want then resB V p.f p.d else VV.u.eqB (V p.d)
    | _ => false)
  | _, _ => false
def pfB (ops : Array Oper) (V : Nat → VV) (p : PF) : Bool := Nat.blt p.d 208 && offB p.d && atB ops p.i fun o => isForm o.op p.f && isDst o p.d && p.f.reads.all (readB ops o) && grdB ops V o p
theorem pf_ok {ops : Array Oper} {V : Nat → VV} {p : PF} {pl : Nat} {a0 : Act} {Q : Exit → Act → World → Prop} (h0 : ∀ t, t = 10 ∨ t = 14 ∨ t = 15 → a0.tmps[t]? = some ((V t).val pl)) (h10 : V 10 = .a 0) (h : pfB ops V p = true) :
    ∃ o d, ops[p.i]? = some o ∧ o.dst = some d ∧ d < 208 ∧ (∀ k, k < 5 → d ≠ (T5 k).tR ∧ d ≠ (T5 k).tB ∧ d ≠ (T5 k).tA) ∧ ∀ (a : Act) (w : World) (K : Act → World → Prop), (∀ t v, Src ops 5 T5 (fun t => (V t).val pl) a0 o t v → a.tmps[t]? = some v) → K (a.put (some d) ((V d).val pl)) w → wpOp Tryd.prog ops Q p.i K a w := by
  unfold pfB at h
  simp only [Bool.and_eq_true] at h
  obtain ⟨⟨h1, h2⟩, h3⟩ := h
  obtain ⟨o, ho, h3⟩ := atB_ok h3
  simp only [Bool.and_eq_true] at h3
  obtain ⟨⟨⟨h3, h4⟩, h5⟩, h6⟩ := h3
  obtain ⟨hf, hk⟩ := isForm_ok h3
  have hd := isDst_ok h4
  refine ⟨o, p.d, ho, hd, Ex.blt_lt h1, offB_ok h2, fun a w K hs hK => ?_⟩
  have hreads : ∀ t, t ∈ p.f.reads → a.tmps[t]? = some ((V t).val pl) := fun t ht => hs t _ (read_ok h0 (List.all_eq_true.1 h5 t ht))
  have hval : ∀ (hr : p.f.res V = some (V p.d)) (hw : Region.wanted o (yielded ops a.tmps) = true), wpOp Tryd.prog ops Q p.i K a w := fun hr hw => by
    unfold wpOp
    rw [ho]
    simp only []
    rw [if_pos hw]
    left
    unfold Oper.wp
    rw [form_run hf hk hr h10 hreads]
    simp only [Oper.upon, hd]
    exact hK
  unfold grdB at h6
  split at h6
  · rename_i e1 e2
    exact hval (resB_ok h6) (by simp [Region.wanted, e1])
  · rename_i g want gi gs want' e1 e2
    simp only [Bool.and_eq_true] at h6
    obtain ⟨⟨⟨⟨k1, k2⟩, k3⟩, k4⟩, k5⟩ := h6
    have hgs := hs gs _ (read_ok h0 k3)
    obtain ⟨og, k6, k7⟩ := atB_ok k4
    have k1 := Nat.eq_of_beq_eq_true k1
    subst k1
    cases hv : V gs with
    | b y =>
      rw [hv] at k5 hgs
      simp only [VV.val] at hgs k5
      have hy : yielded ops a.tmps g = some y := by simp [yielded, k6, isDst_ok k7, hgs]
      cases hyw : y == want with
      | true =>
        rw [hyw] at k5
        exact hval (resB_ok (by simpa using k5)) (by simp [Region.wanted, e1, hy]; simpa using hyw)
      | false =>
        rw [hyw] at k5
        have := VV.eq_ok (by simpa using k5)
        unfold wpOp
        rw [ho]
        simp only []
        rw [if_neg (by simp [Region.wanted, e1, hy]; simpa using hyw), hd]
        rw [← this] at hK
        exact hK
    | u => rw [hv] at k5; simp at k5
    | a k => rw [hv] at k5; simp at k5
  · cases h6

def P26 : List PF := [⟨0, 54, .idx 0, none⟩, ⟨2, 56, .mv 14, none⟩, ⟨5, 59, .idx 1, none⟩, ⟨7, 61, .mv 14, none⟩, ⟨8, 62, .mv 61, none⟩, ⟨9, 63, .mv 15, some (8, 62, false)⟩, ⟨10, 64, .por 62 63, none⟩, ⟨13, 67, .idx 2, none⟩, ⟨15, 69, .mv 14, none⟩, ⟨16, 70, .mv 69, none⟩, ⟨17, 71, .mv 15, some (16, 70, true)⟩, ⟨18, 72, .pand 70 71, none⟩, ⟨21, 75, .idx 3, none⟩, ⟨23, 77, .mv 14, none⟩, ⟨24, 78, .mv 77, none⟩, ⟨25, 79, .mv 15, some (24, 78, true)⟩, ⟨26, 80, .nt 79, some (24, 78, true)⟩, ⟨27, 81, .pand 78 80, none⟩, ⟨30, 84, .idx 4, none⟩, ⟨32, 86, .mv 14, none⟩, ⟨33, 87, .nt 86, none⟩, ⟨36, 90, .idx 0, none⟩, ⟨38, 91, .idx 1, none⟩, ⟨40, 92, .idx 2, none⟩, ⟨42, 93, .idx 3, none⟩, ⟨44, 94, .idx 4, none⟩]
def V5 (p q : Bool) : Nat → VV
  | 10 => .a 0 | 14 => .b p | 15 => .b q
  | 54 => .a 0 | 59 => .a 1 | 67 => .a 2 | 75 => .a 3 | 84 => .a 4
  | 90 => .a 0 | 91 => .a 1 | 92 => .a 2 | 93 => .a 3 | 94 => .a 4
  | 56 => .b p | 61 => .b p | 62 => .b p | 63 => if p then .u else .b q | 64 => .b (p || q)
  | 69 => .b p | 70 => .b p | 71 => if p then .b q else .u | 72 => .b (p && q)
  | 77 => .b p | 78 => .b p | 79 => if p then .b q else .u | 80 => if p then .b (!q) else .u | 81 => .b (p && !q)
  | 86 => .b p | 87 => .b (!p)
  | _ => .u
def q5 (p q : Bool) : Nat → Bool
  | 0 => p
  | 1 => p || q
  | 2 => p && q
  | 3 => p && !q
  | _ => !p
def thrB (ops : Array Oper) (V : Nat → VV) (q : Nat → Bool) (k : Nat) : Bool :=
  atB ops (T5 k).L (fun o => readB ops o (T5 k).tL) && (V (T5 k).tL).eqB (.a k) && atB ops (T5 k).S (fun o => readB ops o (T5 k).tP) && (V (T5 k).tP).eqB (.a k) && atB ops (T5 k).B (fun o => readB ops o (T5 k).tQ) && (V (T5 k).tQ).eqB (.b (q k)) && Nat.blt (T5 k).tR 208 && Nat.blt (T5 k).tB 208 && Nat.blt (T5 k).tA 208
def regB (ops : Array Oper) (V : Nat → VV) (q : Nat → Bool) : Bool :=
  opsB ops 5 T5 && (List.range 5).all (thrB ops V q) && (List.range ops.size).all (fun i => !pureB i || P26.any fun p => Nat.beq p.i i && pfB ops V p) && (List.range ops.size).all (fun i => atB ops i fun (o : Oper) => match o.dst with
    | some d => Nat.blt 53 d && Nat.blt d 95
    | none => true) && (V 10).eqB (.a 0)
theorem at_get {ops : Array Oper} {i : Nat} {o : Oper} {p : Oper → Bool} (h : atB ops i p = true) (ho : ops[i]? = some o) : p o = true := by
  obtain ⟨o', h1, h2⟩ := atB_ok h
  rw [ho] at h1
  cases h1
  exact h2
/-- The law's region: five rows grow by one. -/
theorem region5_any {ops : Array Oper} {id pl : Nat} {V : Nat → VV} {q : Nat → Bool} (hc : regB ops V q = true) {a0 : Act} {w0 : World} {v : Nat → Value} {xs : Nat → List Bool} {Q : Exit → Act → World → Prop} (hm : Tryd.prog.follows .mixedOrders = true)
    (hsz : a0.tmps.size = 208) (h0 : ∀ t, t = 10 ∨ t = 14 ∨ t = 15 → a0.tmps[t]? = some ((V t).val pl)) (hr : Rows5 5 w0.drew pl v xs) (hlen : ∀ k, k < 5 → (xs k).length ≤ 100000)
    (hQ : ∀ (a : Act) (w : World) (cur : Nat → Value), a.tmps.size = 208 → a.defers = a0.defers → (∀ t, t < 54 ∨ 94 < t → a.tmps[t]? = a0.tmps[t]?) → Below pl w0 w → Rows5 5 w pl cur (fun k => xs k ++ [q k]) → Q .normal a w) :
    (Code.region id ops true).wp Tryd.prog Q a0 w0 := by
  unfold regB at hc
  simp only [Bool.and_eq_true] at hc
  obtain ⟨⟨⟨⟨h1, h2⟩, h3⟩, h4⟩, h5⟩ := hc
  have h10 := VV.eq_ok h5
  have O := opsB_ok h1
  have ht : ∀ k, k < 5 → thrB ops V q k = true := fun k hk => List.all_eq_true.1 h2 k (by simpa using hk)
  simp only [thrB, Bool.and_eq_true] at ht
  have hdst : ∀ (i : Nat) (o : Oper) (d : Nat), ops[i]? = some o → o.dst = some d → 53 < d ∧ d < 95 := fun i o d hi hd => by
    have := at_get (List.all_eq_true.1 h4 i (by simpa using (Array.getElem?_eq_some_iff.1 hi).1)) hi
    rw [hd] at this
    simp only [Bool.and_eq_true] at this
    exact ⟨Ex.blt_lt this.1, Ex.blt_lt this.2⟩
  refine wp_region_any hm (growRows_any (N := 208) (V := fun t => (V t).val pl) (q := q) O (fun k hk => ⟨Ex.blt_lt (ht k hk).1.1.2, Ex.blt_lt (ht k hk).1.2, Ex.blt_lt (ht k hk).2⟩) hsz (fun k hk o ho => ?_) (fun k hk o ho => ?_) (fun k hk o ho => ?_) (fun i hi hp => ?_) hr hlen fun b a w cur pv g => ?_)
  · have := read_ok h0 (at_get (ht k hk).1.1.1.1.1.1.1.1 ho)
    rwa [VV.eq_ok (ht k hk).1.1.1.1.1.1.1.2] at this
  · have := read_ok h0 (at_get (ht k hk).1.1.1.1.1.1.2 ho)
    rwa [VV.eq_ok (ht k hk).1.1.1.1.1.2] at this
  · have := read_ok h0 (at_get (ht k hk).1.1.1.1.2 ho)
    rwa [VV.eq_ok (ht k hk).1.1.1.2] at this
  · have := List.all_eq_true.1 h3 i (by simpa using hi)
    rw [pureB_of hp] at this
    simp only [Bool.not_true, Bool.false_or] at this
    obtain ⟨p, _, hp2⟩ := List.any_eq_true.1 this
    simp only [Bool.and_eq_true] at hp2
    have e := Nat.eq_of_beq_eq_true hp2.1
    subst e
    exact pf_ok h0 h10 hp2.2
  · refine hQ a w cur g.size (g.defers.trans pv.defers) (fun t ht => ?_) ?_ ⟨g.lt, g.row, g.apart, g.cell⟩
    · have hoff : ∀ k, k < 5 → t ≠ (T5 k).tR ∧ t ≠ (T5 k).tB ∧ t ≠ (T5 k).tA := fun k hk => by
        obtain ⟨o1, e1, _, e3, _⟩ := O.l k hk
        obtain ⟨o2, f1, _, f3, _⟩ := O.b k hk
        obtain ⟨o3, g1, _, g3, _⟩ := O.a k hk
        have a1 := hdst _ _ _ e1 e3
        have a2 := hdst _ _ _ f1 f3
        have a3 := hdst _ _ _ g1 g3
        exact ⟨fun e => by omega, fun e => by omega, fun e => by omega⟩
      refine (g.other t hoff).trans (pv.rest t fun j o hj _ hd => ?_)
      have := hdst j o t hj hd
      omega
    · exact ((Below.refl pl w0).drew).trans g.below

end Go.Proofs.YtfjlhfalnciamaaDoor.Chars
