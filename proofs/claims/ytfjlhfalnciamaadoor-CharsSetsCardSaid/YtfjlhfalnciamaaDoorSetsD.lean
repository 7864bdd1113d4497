/- A list that rises, with one number more (ref.with; law CharsSets), walked. -/
import Derived.Test.YtfjlhfalnciamaaDoorSetsC
namespace Go.Proofs.YtfjlhfalnciamaaDoor.Chars
open Go Go.RowKit Go.Proofs.Chars

/-- An append that may append nothing, at a step of a region that draws. -/
theorem step_append_any {P : Program} (w : World) {ops : Array Oper} {o : Oper} {a : Act} {K : Act → World → Prop} {Q : Exit → Act → World → Prop} {E : Prop} (hgd : o.guard = none) (s x : Operand) (t : TypeId)
    (ho : o.op = .call { callee := .builtin .append, args := #[s, x], argTypes := #[t, t] })
    (base : Nat) (e : TypeId) (i : TypeInfo) (z : Value) (size bytes : Nat) (ht : P.underlying t = some (.slice e)) (hi : P.info? e = some i) (hz : i.zero = some z)
    (hsize : i.size = size) (hby : i.bytes = bytes) (hzs : z.cells.size = size) (hsz : 0 < size)
    (v : Value) (n : Nat) (xs : List Value) (hs : a.eval s = v) (hown : w.ownsRow base e size v n xs)
    (ad : Addr) (m c : Nat) (news : List Value) (hx : a.eval x = .slice (some ad) m c) (hl : news.length = m * size) (hnews : ∀ j u, news[j]? = some u → w.cell? (ad.add j) = some u) (h1 : ∀ u ∈ news, u.oneCell' = true)
    (h63 : n + m ≤ maxLen) (hbytes : (n + m) * bytes ≤ 140737488355328) (hbase : base ≤ w.heap.size)
    (h : ∀ v' w', w'.ownsRow base e size v' (n + m) (xs ++ news) → w.grownBy w' v.ownBlock → (v'.ownBlock = v.ownBlock ∨ v'.ownBlock = some w.heap.size) → K (a.put o.dst v') w') :
    if Region.wanted o (yielded ops a.tmps) = true then Oper.wp P o a w K Q else E := by
  have hw : Region.wanted o (yielded ops a.tmps) = true := by simp [Region.wanted, hgd]
  rw [if_pos hw]
  obtain ⟨v', w', hr, h2, h3, _, h5⟩ := run_append_own_at (P := P) w base t o.type e i z size bytes ht hi hz hsize hby hzs hsz v n xs hown ad m c news hl hnews h1 h63 hbytes hbase
  unfold Oper.wp execOp
  simp only [ho, resolve, invoke, builtin, Sem.run_bind, Sem.run_pure, Result.andThen_ok, List.map_toArray, List.map_cons, List.map_nil, hs, hx, hr]
  exact h v' w' h2 h3 h5

theorem withE_at : ∀ (E : List Int) (n : Int) (k : Nat), (∀ (j : Nat) (x : Int), j < k → E[j]? = some x → x < n) → (∀ x, E[k]? = some x → ¬ x < n) → k ≤ E.length →
    withE E n = if E[k]? = some n then E else E.take k ++ n :: E.drop k
  | [], n, k, _, _, hk => by
    obtain rfl : k = 0 := by simpa using hk
    rfl
  | x :: E, n, 0, _, h2, _ => by
    have := h2 x rfl
    rw [withE, if_neg this]
    by_cases h : x = n <;> simp [h]
  | x :: E, n, k + 1, h1, h2, hk => by
    have hx := h1 0 x (by omega) rfl
    have ih := withE_at E n k (fun j y hj hy => h1 (j + 1) y (by omega) (by simpa using hy)) (fun y hy => h2 y (by simpa using hy)) (by simpa using hk)
    rw [withE, if_pos hx, ih]
    simp only [List.getElem?_cons_succ, List.take_succ_cons, List.drop_succ_cons]
    split <;> simp
theorem NRow.low {w : World} {S S' : Nat} {v : Value} {L : List Int} (h : NRow w S v L) (hS : S' ≤ S) : NRow w S' v L := by
  refine ⟨h.1, ?_⟩
  rcases h.2 with h0 | ⟨g, cap, cur, e1, e2, e3⟩
  · exact .inl h0
  · exact .inr ⟨g, cap, cur, e1, Nat.le_trans hS e2, e3⟩
theorem addr_off (g k j : Nat) : (⟨g, k, none⟩ : Addr).add j = ⟨g, k + j, none⟩ := by unfold Addr.add; split <;> simp_all
theorem own_empty {w : World} {B G : Nat} (h : w.heap[G]? = some (.cells #[] 3)) (hB : B ≤ G) : w.ownsRow B 3 1 (.slice (some ⟨G, 0, none⟩) 0 0) 0 [] :=
  ⟨rfl, .inr ⟨G, 0, #[], rfl, hB, h, Nat.le_refl _, by simp [maxLen], rfl, rfl⟩⟩
theorem news_one {w : World} {p : Addr} {x : Value} (h : w.cell? p = some x) : ∀ j u, [x][j]? = some u → w.cell? (p.add j) = some u := fun j u hu => by
  match j, hu with
  | 0, hu =>
    have e : p.add 0 = p := by unfold Addr.add; split <;> simp_all
    rw [e]
    simpa using (h.trans (by simpa using hu))
theorem nint_get {L : List Int} {j : Nat} {u : Value} (h : (L.map fun n => Value.int .i64 n)[j]? = some u) : ∃ x, L[j]? = some x ∧ u = .int .i64 x := by
  rw [List.getElem?_map] at h
  cases hx : L[j]? with
  | none => rw [hx] at h; cases h
  | some x => rw [hx] at h; simp at h; exact ⟨x, rfl, h.symm⟩
theorem nint_one (L : List Int) : ∀ u ∈ (L.map fun n => Value.int .i64 n), u.oneCell' = true := fun u hu => by
  obtain ⟨x, _, rfl⟩ := List.mem_map.1 hu
  rfl
theorem news_stay {w w' : World} (hb : Below w.heap.size w w') {A : Addr} (hA : A.block < w.heap.size) {N : List Value} (h : ∀ j u, N[j]? = some u → w.cell? (A.add j) = some u) : ∀ j u, N[j]? = some u → w'.cell? (A.add j) = some u := fun j u hu =>
  (hb.cell (p := A.add j) (by have : (A.add j).block = A.block := by { unfold Addr.add; split <;> rfl }
                              omega)).trans (h j u hu)
theorem cell_block {w : World} {G : Nat} {v : Value} {t : TypeId} (h : w.heap[G]? = some (.cells #[v] t)) : w.cell? ⟨G, 0, none⟩ = some v := by
  have := World.news_of_block h 0 v rfl
  rwa [addr_off] at this
theorem with_fin {w : World} {S B : Nat} {v : Value} {E : List Int} {n : Int} {k : Nat} (hk : k ≤ E.length) (hW : withE E n = E.take k ++ n :: E.drop k) (hS : S ≤ B)
    (h : w.ownsRow B 3 1 v (0 + k + 1 + (E.length - k)) (([] ++ (E.take k).map fun n => Value.int .i64 n) ++ [.int .i64 n] ++ (E.drop k).map fun n => Value.int .i64 n)) : NRow w S v (withE E n) := by
  refine NRow.low (S := B) ?_ hS
  rw [hW]
  unfold NRow
  have e1 : (E.take k ++ n :: E.drop k).length = 0 + k + 1 + (E.length - k) := by simp; omega
  have e2 : ((E.take k ++ n :: E.drop k).map fun n => Value.int .i64 n) = ([] ++ (E.take k).map fun n => Value.int .i64 n) ++ [.int .i64 n] ++ (E.drop k).map fun n => Value.int .i64 n := by simp
  rw [e1, e2]
  exact h
theorem infoI : (Tryd.prog.info? 3).map (fun i => (i.zero, i.size, i.bytes)) = some (some (.int .i64 0), 1, 8) := by kernel_rfl

set_option maxHeartbeats 8000000 in
set_option maxRecDepth 100000 in
theorem with_any {w : World} {S : Nat} {v : Value} {E : List Int} {n : Int} (h : NRow w S v E) (hS : S ≤ w.heap.size) (hE : 0 < E.length) (hE2 : E.length ≤ 1000) (hn : 0 ≤ n) (hn2 : n ≤ 1114111) :
    Calls Tryd.prog 41 #[v, .int .i64 n] w fun e w' => ∃ v', e = .returned v' ∧ NRow w' S v' (withE E n) ∧ Below w.heap.size w w' := by
  obtain ⟨i0, hi, hz0, hz1, hz2⟩ := info_parts infoI
  obtain ⟨g, cap, rfl, k1, k2, k3, cells⟩ := h.at hE
  have HR := Lib.hid h
  have HC := Lib.hid cells
  clear h cells
  have s1 : decide (n < 0) = false := decide_eq_false (by omega)
  have s2 : decide (1114111 < n) = false := decide_eq_false (by omega)
  go_enter Tryd.func41, Tryd.ntmps41
  go_wp2_with fail
  go_loopw [5] (fun x wx => ∃ k : Nat, k ≤ E.length ∧ x = .int .i64 (k : Int) ∧ (∀ (j : Nat) (x : Int), j < k → E[j]? = some x → x < n) ∧ wx = w) (fun x _ => E.length - (intOf x).toNat)
  case atStart => exact ⟨0, Nat.zero_le _, rfl, fun j x h => by omega, rfl⟩
  case round =>
    obtain ⟨k, hk, rfl, hlow, rfl⟩ := hrel
    have p2 : (0 : Int) ≤ (k : Int) := by omega
    have HLOW := Lib.hid hlow
    clear hlow
    by_cases hlt : k < E.length
    · have p1 : decide ((k : Int) < (E.length : Int)) = true := decide_eq_true (by omega)
      have p1' : decide (k < E.length) = true := decide_eq_true hlt
      have p3 : (k : Int) < (E.length : Int) := by omega
      obtain ⟨x, hx⟩ : ∃ x, E[k]? = some x := ⟨E[k], List.getElem?_eq_getElem hlt⟩
      have c0 := HC.out k x hx
      have HX := Lib.hid hx
      by_cases h1 : x < n
      · have q1 : decide (x < n) = true := decide_eq_true h1
        have HN := Lib.hid (show ∀ (j : Nat) (y : Int), j < k + 1 → E[j]? = some y → y < n from fun j y hj hy => by
          by_cases e : j = k
          · subst e
            rw [hx] at hy
            cases hy
            exact h1
          · exact HLOW.out j y (by omega) hy)
        clear hx h1
        go_wp2_with fail
        go_roundw
        case rel => exact ⟨k + 1, by omega, by go_num, HN.out, by trivial⟩
        case measure => simp [intOf]; omega
      · have q1 : decide (x < n) = false := decide_eq_false h1
        have HW := Lib.hid (withE_at E n k HLOW.out (fun y hy => by rw [hx] at hy; cases hy; exact h1) hk)
        by_cases h2 : x = n
        · have q2 : (x == n) = true := by simp [h2]
          have HW2 : Hid (withE E n = E) := Lib.hid (by rw [HW.out, hx, h2, if_pos rfl])
          clear hx h1 h2
          go_wp2_with fail
          go_ret
          exact ⟨_, rfl, by rw [HW2.out]; exact HR.out, Below.refl _ _⟩
        · have q2 : (x == n) = false := by simp [h2]
          have HW2 : Hid (withE E n = E.take k ++ n :: E.drop k) := Lib.hid (by rw [HW.out, hx, if_neg (fun e => h2 (Option.some.inj e))])
          clear hx h1 h2
          have p4 : (k : Int) ≤ (cap : Int) := by omega
          have p5 : (k : Int) ≤ (E.length : Int) := by omega
          have p6 : ¬ cap = 0 := by omega
          have p7 : k ≤ E.length := hk
          have HA : Hid (∃ A : Addr, (if cap = k then some (⟨g, 0, none⟩ : Addr) else some ⟨g, k, none⟩) = some A ∧ A.block < wr.heap.size ∧ ∀ j u, ((E.drop k).map fun n => Value.int .i64 n)[j]? = some u → wr.cell? (A.add j) = some u) := by
            by_cases hc : cap = k
            · refine Lib.hid ⟨_, if_pos hc, k3, fun j u hu => ?_⟩
              rw [List.drop_eq_nil_of_le (by omega)] at hu
              simp at hu
            · refine Lib.hid ⟨_, if_neg hc, k3, fun j u hu => ?_⟩
              obtain ⟨y, hy, rfl⟩ := nint_get hu
              rw [List.getElem?_drop] at hy
              rw [addr_off]
              exact HC.out _ y hy
          obtain ⟨A, hA, hAb, hA2⟩ := HA.out
          have HA2 := Lib.hid hA2
          clear HA hA2
          have hA3 := Lib.hid (show ∀ j u, ((E.take k).map fun n => Value.int .i64 n)[j]? = some u → wr.cell? ((⟨g, 0, none⟩ : Addr).add j) = some u from fun j u hu => by
            obtain ⟨y, hy, rfl⟩ := nint_get hu
            rw [addr_off, Nat.zero_add]
            refine HC.out _ y ?_
            rw [List.getElem?_take] at hy
            split at hy
            · exact hy
            · cases hy)
          have hlk : ((E.take k).map fun n => Value.int .i64 n).length = k * 1 := by simp; omega
          have hld : ((E.drop k).map fun n => Value.int .i64 n).length = (E.length - k) * 1 := by simp
          go_wp2_with fail
          go_region_law (first
            | (refine step_append_any _ (by rfl) _ _ _ (by rfl) wr.heap.size 3 i0 _ 1 8 Tryd.underlying26 hi hz0 hz1 hz2 rfl (by decide) (.slice (some ⟨wr.heap.size, 0, none⟩) 0 0) 0 [] (by rfl) (own_empty (heap_alloc2_old _ _ _) (by omega)) ⟨g, 0, none⟩ k cap ((E.take k).map fun n => .int .i64 n) (by rfl) hlk (news_stay (by repeat (first | exact RowKit.Below.refl _ _ | refine RowKit.Below.drew ?_ | refine RowKit.Below.alloc ?_ (by simp <;> omega) _)) k3 hA3.out) (nint_one _) (by unfold maxLen; omega) (by omega) (by simp <;> omega) ?_; intro v4 w4 h4 g4 a4; have H4 := Lib.hid h4; have B4 := Lib.hid (Below.grown (show Below wr.heap.size wr _ from by repeat (first | exact RowKit.Below.refl _ _ | refine RowKit.Below.drew ?_ | refine RowKit.Below.alloc ?_ (by simp <;> omega) _)) g4 (by simp <;> omega) (fun q hq => by simp [Value.ownBlock] at hq; omega)); have C4 := Lib.hid (g4.cell (a := ⟨wr.heap.size + 1, 0, none⟩) (v := .int .i64 n) (cell_block (heap_alloc2_new _ _ _)) (by simp [Value.ownBlock])); clear h4 g4 a4)
            | (refine step_append_any _ (by rfl) _ _ _ (by rfl) wr.heap.size 3 i0 _ 1 8 Tryd.underlying26 hi hz0 hz1 hz2 rfl (by decide) (.slice (some ⟨wr.heap.size + 1, 0, none⟩) 0 0) 0 [] (by rfl) (own_empty (heap_alloc2_new _ _ _) (by omega)) ⟨g, 0, none⟩ k cap ((E.take k).map fun n => .int .i64 n) (by rfl) hlk (news_stay (by repeat (first | exact RowKit.Below.refl _ _ | refine RowKit.Below.drew ?_ | refine RowKit.Below.alloc ?_ (by simp <;> omega) _)) k3 hA3.out) (nint_one _) (by unfold maxLen; omega) (by omega) (by simp <;> omega) ?_; intro v4 w4 h4 g4 a4; have H4 := Lib.hid h4; have B4 := Lib.hid (Below.grown (show Below wr.heap.size wr _ from by repeat (first | exact RowKit.Below.refl _ _ | refine RowKit.Below.drew ?_ | refine RowKit.Below.alloc ?_ (by simp <;> omega) _)) g4 (by simp <;> omega) (fun q hq => by simp [Value.ownBlock] at hq; omega)); have C4 := Lib.hid (g4.cell (a := ⟨wr.heap.size, 0, none⟩) (v := .int .i64 n) (cell_block (heap_alloc2_old _ _ _)) (by simp [Value.ownBlock])); clear h4 g4 a4)
            | (refine step_append_any _ (by rfl) _ _ _ (by rfl) wr.heap.size 3 i0 _ 1 8 Tryd.underlying26 hi hz0 hz1 hz2 rfl (by decide) (.slice (some ⟨wr.heap.size, 0, none⟩) 0 0) 0 [] (by rfl) (own_empty (heap_alloc_new _ _) (by omega)) ⟨g, 0, none⟩ k cap ((E.take k).map fun n => .int .i64 n) (by rfl) hlk (news_stay (by repeat (first | exact RowKit.Below.refl _ _ | refine RowKit.Below.drew ?_ | refine RowKit.Below.alloc ?_ (by simp <;> omega) _)) k3 hA3.out) (nint_one _) (by unfold maxLen; omega) (by omega) (by simp <;> omega) ?_; intro v4 w4 h4 g4 a4; have H4 := Lib.hid h4; have B4 := Lib.hid (Below.grown (show Below wr.heap.size wr _ from by repeat (first | exact RowKit.Below.refl _ _ | refine RowKit.Below.drew ?_ | refine RowKit.Below.alloc ?_ (by simp <;> omega) _)) g4 (by simp <;> omega) (fun q hq => by simp [Value.ownBlock] at hq; omega)); clear h4 g4 a4)
            | (refine step_append_any _ (by rfl) _ _ _ (by rfl) wr.heap.size 3 i0 _ 1 8 Tryd.underlying26 hi hz0 hz1 hz2 rfl (by decide) v4 (0 + k) ([] ++ (E.take k).map fun n => .int .i64 n) (by rfl) (World.ownsRow.alloc H4.out _) ⟨w4.heap.size, 0, none⟩ 1 1 [.int .i64 n] (by rfl) (by rfl) (news_one (cell_block (heap_alloc_new _ _))) (fun u hu => by simp at hu; subst hu; rfl) (by unfold maxLen; omega) (by omega) ((RowKit.Below.alloc B4.out B4.out.size _).size) ?_; intro v5 w5 h5 g5 a5; have H5 := Lib.hid h5; have B5 := Lib.hid (Below.grown ((RowKit.Below.alloc B4.out B4.out.size _)) g5 ((RowKit.Below.alloc B4.out B4.out.size _).size) (fun q hq => (H4.out.lt q hq).1)); clear h5 g5 a5)
            | (refine step_append_any _ (by rfl) _ _ _ (by rfl) wr.heap.size 3 i0 _ 1 8 Tryd.underlying26 hi hz0 hz1 hz2 rfl (by decide) v4 (0 + k) ([] ++ (E.take k).map fun n => .int .i64 n) (by rfl) (H4.out) ⟨wr.heap.size + 1, 0, none⟩ 1 1 [.int .i64 n] (by rfl) (by rfl) (news_one (C4.out)) (fun u hu => by simp at hu; subst hu; rfl) (by unfold maxLen; omega) (by omega) (B4.out.size) ?_; intro v5 w5 h5 g5 a5; have H5 := Lib.hid h5; have B5 := Lib.hid (Below.grown (B4.out) g5 (B4.out.size) (fun q hq => (H4.out.lt q hq).1)); clear h5 g5 a5)
            | (refine step_append_any _ (by rfl) _ _ _ (by rfl) wr.heap.size 3 i0 _ 1 8 Tryd.underlying26 hi hz0 hz1 hz2 rfl (by decide) v4 (0 + k) ([] ++ (E.take k).map fun n => .int .i64 n) (by rfl) (H4.out) ⟨wr.heap.size, 0, none⟩ 1 1 [.int .i64 n] (by rfl) (by rfl) (news_one (C4.out)) (fun u hu => by simp at hu; subst hu; rfl) (by unfold maxLen; omega) (by omega) (B4.out.size) ?_; intro v5 w5 h5 g5 a5; have H5 := Lib.hid h5; have B5 := Lib.hid (Below.grown (B4.out) g5 (B4.out.size) (fun q hq => (H4.out.lt q hq).1)); clear h5 g5 a5)
            | (refine step_append_any _ (by rfl) _ _ _ (by rfl) wr.heap.size 3 i0 _ 1 8 Tryd.underlying26 hi hz0 hz1 hz2 rfl (by decide) v5 (0 + k + 1) (([] ++ (E.take k).map fun n => .int .i64 n) ++ [.int .i64 n]) (by rfl) H5.out A (E.length - k) (cap - k) ((E.drop k).map fun n => .int .i64 n) (by rfl) hld (news_stay B5.out hAb HA2.out) (nint_one _) (by unfold maxLen; omega) (by omega) B5.out.size ?_; intro v6 w6 h6 g6 a6; have H6 := Lib.hid h6; have B6 := Lib.hid (Below.grown B5.out g6 B5.out.size (fun q hq => (H5.out.lt q hq).1)); clear h6 g6 a6))
          all_goals
            go_wp2_with fail
            go_ret
            exact ⟨_, rfl, with_fin hk HW2.out hS H6.out, B6.out⟩
    · have p1 : decide ((k : Int) < (E.length : Int)) = false := decide_eq_false (by omega)
      have p1' : decide (k < E.length) = false := decide_eq_false hlt
      have HW2 : Hid (withE E n = E.take k ++ n :: E.drop k) := Lib.hid (by rw [withE_at E n k HLOW.out (fun y hy => by have := (List.getElem?_eq_some_iff.1 hy).1; omega) hk, if_neg (fun e => by have := (List.getElem?_eq_some_iff.1 e).1; omega)])
      have p4 : (k : Int) ≤ (cap : Int) := by omega
      have p5 : (k : Int) ≤ (E.length : Int) := by omega
      have p6 : ¬ cap = 0 := by omega
      have p7 : k ≤ E.length := hk
      have HA : Hid (∃ A : Addr, (if cap = k then some (⟨g, 0, none⟩ : Addr) else some ⟨g, k, none⟩) = some A ∧ A.block < wr.heap.size ∧ ∀ j u, ((E.drop k).map fun n => Value.int .i64 n)[j]? = some u → wr.cell? (A.add j) = some u) := by
        by_cases hc : cap = k
        · refine Lib.hid ⟨_, if_pos hc, k3, fun j u hu => ?_⟩
          rw [List.drop_eq_nil_of_le (by omega)] at hu
          simp at hu
        · refine Lib.hid ⟨_, if_neg hc, k3, fun j u hu => ?_⟩
          obtain ⟨y, hy, rfl⟩ := nint_get hu
          rw [List.getElem?_drop] at hy
          rw [addr_off]
          exact HC.out _ y hy
      obtain ⟨A, hA, hAb, hA2⟩ := HA.out
      have HA2 := Lib.hid hA2
      clear HA hA2
      have hA3 := Lib.hid (show ∀ j u, ((E.take k).map fun n => Value.int .i64 n)[j]? = some u → wr.cell? ((⟨g, 0, none⟩ : Addr).add j) = some u from fun j u hu => by
        obtain ⟨y, hy, rfl⟩ := nint_get hu
        rw [addr_off, Nat.zero_add]
        refine HC.out _ y ?_
        rw [List.getElem?_take] at hy
        split at hy
        · exact hy
        · cases hy)
      have hlk : ((E.take k).map fun n => Value.int .i64 n).length = k * 1 := by simp; omega
      have hld : ((E.drop k).map fun n => Value.int .i64 n).length = (E.length - k) * 1 := by simp
      go_wp2_with fail
      go_region_law (first
        | (refine step_append_any _ (by rfl) _ _ _ (by rfl) wr.heap.size 3 i0 _ 1 8 Tryd.underlying26 hi hz0 hz1 hz2 rfl (by decide) (.slice (some ⟨wr.heap.size, 0, none⟩) 0 0) 0 [] (by rfl) (own_empty (heap_alloc2_old _ _ _) (by omega)) ⟨g, 0, none⟩ k cap ((E.take k).map fun n => .int .i64 n) (by rfl) hlk (news_stay (by repeat (first | exact RowKit.Below.refl _ _ | refine RowKit.Below.drew ?_ | refine RowKit.Below.alloc ?_ (by simp <;> omega) _)) k3 hA3.out) (nint_one _) (by unfold maxLen; omega) (by omega) (by simp <;> omega) ?_; intro v4 w4 h4 g4 a4; have H4 := Lib.hid h4; have B4 := Lib.hid (Below.grown (show Below wr.heap.size wr _ from by repeat (first | exact RowKit.Below.refl _ _ | refine RowKit.Below.drew ?_ | refine RowKit.Below.alloc ?_ (by simp <;> omega) _)) g4 (by simp <;> omega) (fun q hq => by simp [Value.ownBlock] at hq; omega)); have C4 := Lib.hid (g4.cell (a := ⟨wr.heap.size + 1, 0, none⟩) (v := .int .i64 n) (cell_block (heap_alloc2_new _ _ _)) (by simp [Value.ownBlock])); clear h4 g4 a4)
        | (refine step_append_any _ (by rfl) _ _ _ (by rfl) wr.heap.size 3 i0 _ 1 8 Tryd.underlying26 hi hz0 hz1 hz2 rfl (by decide) (.slice (some ⟨wr.heap.size + 1, 0, none⟩) 0 0) 0 [] (by rfl) (own_empty (heap_alloc2_new _ _ _) (by omega)) ⟨g, 0, none⟩ k cap ((E.take k).map fun n => .int .i64 n) (by rfl) hlk (news_stay (by repeat (first | exact RowKit.Below.refl _ _ | refine RowKit.Below.drew ?_ | refine RowKit.Below.alloc ?_ (by simp <;> omega) _)) k3 hA3.out) (nint_one _) (by unfold maxLen; omega) (by omega) (by simp <;> omega) ?_; intro v4 w4 h4 g4 a4; have H4 := Lib.hid h4; have B4 := Lib.hid (Below.grown (show Below wr.heap.size wr _ from by repeat (first | exact RowKit.Below.refl _ _ | refine RowKit.Below.drew ?_ | refine RowKit.Below.alloc ?_ (by simp <;> omega) _)) g4 (by simp <;> omega) (fun q hq => by simp [Value.ownBlock] at hq; omega)); have C4 := Lib.hid (g4.cell (a := ⟨wr.heap.size, 0, none⟩) (v := .int .i64 n) (cell_block (heap_alloc2_old _ _ _)) (by simp [Value.ownBlock])); clear h4 g4 a4)
        | (refine step_append_any _ (by rfl) _ _ _ (by rfl) wr.heap.size 3 i0 _ 1 8 Tryd.underlying26 hi hz0 hz1 hz2 rfl (by decide) (.slice (some ⟨wr.heap.size, 0, none⟩) 0 0) 0 [] (by rfl) (own_empty (heap_alloc_new _ _) (by omega)) ⟨g, 0, none⟩ k cap ((E.take k).map fun n => .int .i64 n) (by rfl) hlk (news_stay (by repeat (first | exact RowKit.Below.refl _ _ | refine RowKit.Below.drew ?_ | refine RowKit.Below.alloc ?_ (by simp <;> omega) _)) k3 hA3.out) (nint_one _) (by unfold maxLen; omega) (by omega) (by simp <;> omega) ?_; intro v4 w4 h4 g4 a4; have H4 := Lib.hid h4; have B4 := Lib.hid (Below.grown (show Below wr.heap.size wr _ from by repeat (first | exact RowKit.Below.refl _ _ | refine RowKit.Below.drew ?_ | refine RowKit.Below.alloc ?_ (by simp <;> omega) _)) g4 (by simp <;> omega) (fun q hq => by simp [Value.ownBlock] at hq; omega)); clear h4 g4 a4)
        | (refine step_append_any _ (by rfl) _ _ _ (by rfl) wr.heap.size 3 i0 _ 1 8 Tryd.underlying26 hi hz0 hz1 hz2 rfl (by decide) v4 (0 + k) ([] ++ (E.take k).map fun n => .int .i64 n) (by rfl) (World.ownsRow.alloc H4.out _) ⟨w4.heap.size, 0, none⟩ 1 1 [.int .i64 n] (by rfl) (by rfl) (news_one (cell_block (heap_alloc_new _ _))) (fun u hu => by simp at hu; subst hu; rfl) (by unfold maxLen; omega) (by omega) ((RowKit.Below.alloc B4.out B4.out.size _).size) ?_; intro v5 w5 h5 g5 a5; have H5 := Lib.hid h5; have B5 := Lib.hid (Below.grown ((RowKit.Below.alloc B4.out B4.out.size _)) g5 ((RowKit.Below.alloc B4.out B4.out.size _).size) (fun q hq => (H4.out.lt q hq).1)); clear h5 g5 a5)
        | (refine step_append_any _ (by rfl) _ _ _ (by rfl) wr.heap.size 3 i0 _ 1 8 Tryd.underlying26 hi hz0 hz1 hz2 rfl (by decide) v4 (0 + k) ([] ++ (E.take k).map fun n => .int .i64 n) (by rfl) (H4.out) ⟨wr.heap.size + 1, 0, none⟩ 1 1 [.int .i64 n] (by rfl) (by rfl) (news_one (C4.out)) (fun u hu => by simp at hu; subst hu; rfl) (by unfold maxLen; omega) (by omega) (B4.out.size) ?_; intro v5 w5 h5 g5 a5; have H5 := Lib.hid h5; have B5 := Lib.hid (Below.grown (B4.out) g5 (B4.out.size) (fun q hq => (H4.out.lt q hq).1)); clear h5 g5 a5)
        | (refine step_append_any _ (by rfl) _ _ _ (by rfl) wr.heap.size 3 i0 _ 1 8 Tryd.underlying26 hi hz0 hz1 hz2 rfl (by decide) v4 (0 + k) ([] ++ (E.take k).map fun n => .int .i64 n) (by rfl) (H4.out) ⟨wr.heap.size, 0, none⟩ 1 1 [.int .i64 n] (by rfl) (by rfl) (news_one (C4.out)) (fun u hu => by simp at hu; subst hu; rfl) (by unfold maxLen; omega) (by omega) (B4.out.size) ?_; intro v5 w5 h5 g5 a5; have H5 := Lib.hid h5; have B5 := Lib.hid (Below.grown (B4.out) g5 (B4.out.size) (fun q hq => (H4.out.lt q hq).1)); clear h5 g5 a5)
        | (refine step_append_any _ (by rfl) _ _ _ (by rfl) wr.heap.size 3 i0 _ 1 8 Tryd.underlying26 hi hz0 hz1 hz2 rfl (by decide) v5 (0 + k + 1) (([] ++ (E.take k).map fun n => .int .i64 n) ++ [.int .i64 n]) (by rfl) H5.out A (E.length - k) (cap - k) ((E.drop k).map fun n => .int .i64 n) (by rfl) hld (news_stay B5.out hAb HA2.out) (nint_one _) (by unfold maxLen; omega) (by omega) B5.out.size ?_; intro v6 w6 h6 g6 a6; have H6 := Lib.hid h6; have B6 := Lib.hid (Below.grown B5.out g6 B5.out.size (fun q hq => (H5.out.lt q hq).1)); clear h6 g6 a6))
      all_goals
        go_wp2_with fail
        go_ret
        exact ⟨_, rfl, with_fin hk HW2.out hS H6.out, B6.out⟩

end Go.Proofs.YtfjlhfalnciamaaDoor.Chars
