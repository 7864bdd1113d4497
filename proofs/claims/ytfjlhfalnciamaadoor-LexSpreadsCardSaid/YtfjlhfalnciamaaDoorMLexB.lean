/- Package texts, merged: LexBackW. -/
import Derived.Test.YtfjlhfalnciamaaDoorMLexN
import Derived.Test.YtfjlhfalnciamaaDoorMLexJ

namespace Go.Proofs.YtfjlhfalnciamaaDoor.Lex
open Go Go.RowKit Go.Proofs.Chars
open Go.Proofs.YtfjlhfalnciamaaDoor.Utf Go.Proofs.YtfjlhfalnciamaaDoor.Chars

theorem quoteB_len (s : ByteArray) : (quoteB s).length ≤ 6 * s.size + 2 := by
  have key : ∀ M : List Items.It, (∀ x ∈ M, x.o = true → Lib.validRune (x.r : Int) = true) → (quoteL M).length ≤ 6 * M.length := fun M => by
    induction M with
    | nil => intro _; simp [quoteL]
    | cons y M ih =>
      intro hM
      have h1 := ih fun x hx => hM x (List.mem_cons_of_mem _ hx)
      simp only [quoteL, List.length_append, List.length_cons]
      by_cases ho : y.o = true
      · rw [if_pos ho]
        have := signB_len y.r (hM y List.mem_cons_self ho) esc1
        omega
      · rw [if_neg ho]
        simp only [List.length_nil]
        omega
  have h := key (Items.items (txt s)) fun x hx ho => by
    unfold Items.items Items.itemsTo at hx
    obtain ⟨j, _, rfl⟩ := List.mem_map.1 hx
    exact ok_sign _ _ ho
  have hl : (Items.items (txt s)).length ≤ s.size := by
    unfold Items.items
    rw [Items.itemsTo_len]
    exact (txt s).cnt_le
  unfold quoteB
  simp only [List.length_append, List.length_singleton]
  omega
/-- The text of the law. -/
def backX (q : ByteArray) : ByteArray := ((q ++ ⟨#[32]⟩) ++ q) ++ ⟨#[10, 47, 47, 32, 39, 120, 10]⟩
theorem backX_list (Q : List UInt8) : (backX ⟨Q.toArray⟩).data.toList = Q ++ ([32] ++ (Q ++ tailL)) := by
  unfold backX tailL
  simp [ByteArray.data_append]
theorem stands_data (X : ByteArray) : Stands X 0 X.data.toList := by
  have h := stands_whole X.data.toList
  cases X with
  | mk d => simpa using h
theorem backX_stands (Q : List UInt8) : Stands (backX ⟨Q.toArray⟩) 0 (Q ++ ([32] ++ (Q ++ tailL))) := by
  rw [← backX_list]
  exact stands_data _
theorem backX_size (Q : List UInt8) : (backX ⟨Q.toArray⟩).size = Q.length + (1 + (Q.length + 7)) := by
  rw [Lib.size_eq, backX_list]
  simp [tailL]
  omega

/-- What the law looks at of the first answer. -/
def FirstP (s : ByteArray) (m : Nat) (W : World) (e : Ending) (w' : World) : Prop :=
  ∃ v c p, e = .returned (.tuple #[v, .agg #[.int .i64 c, .int .i64 p]]) ∧ Below W.heap.size W w' ∧ (s.size = 0 → c = 14 ∧ p = 0) ∧
    (s.size ≠ 0 → rightB s = true → c = 0 ∧ ∃ g cap, v = .slice (some ⟨g, 0, none⟩) 3 cap ∧ w'.cell? ⟨g, 3, none⟩ = some (.string s) ∧ w'.cell? ⟨g, 8, none⟩ = some (.string s) ∧ w'.cell? ⟨g, 6, none⟩ = some (.int .i64 ((m : Int) + 1)) ∧ g < w'.heap.size)
theorem first_any (s : ByteArray) (hs : ¬ 500 < s.size) (w : World) (T : U8 w) : Calls Tryd.prog 35 #[.string (backX ⟨(quoteB s).toArray⟩)] w fun e w' => FirstP s (quoteB s).length w e w' := by
  have hql := quoteB_len s
  have hsz := backX_size (quoteB s)
  have hst := backX_stands (quoteB s)
  refine (all_any (backX ⟨(quoteB s).toArray⟩) w T).mono ?_
  intro e w' h
  by_cases h0 : s.size = 0
  · rw [back_none h0 hst (by omega)] at h
    obtain ⟨rfl, hb⟩ := h
    exact ⟨_, 14, 0, rfl, hb, fun _ => ⟨rfl, rfl⟩, fun h => absurd h0 h⟩
  · by_cases hr : rightB s = true
    · rw [back_all ((valid_txt s).1 hr) h0 hst hsz.symm (by omega)] at h
      obtain ⟨v, L, rfl, htk, hm, hb⟩ := h
      refine ⟨v, 0, 0, rfl, hb, fun h => absurd h h0, fun _ _ => ⟨rfl, ?_⟩⟩
      have hlen : L.length = 3 := by
        have := congrArg List.length hm
        rw [List.length_map] at this
        exact this
      obtain ⟨x0, x1, x2, rfl⟩ : ∃ x0 x1 x2, L = [x0, x1, x2] := by
        match L, hlen with
        | [x0, x1, x2], _ => exact ⟨x0, x1, x2, rfl⟩
      obtain ⟨k0, a0, e0, t0, v0⟩ := x0
      obtain ⟨k1, a1, e1, t1, v1⟩ := x1
      obtain ⟨k2, a2, e2, t2, v2⟩ := x2
      simp only [List.map_cons, List.map_nil, keyT, List.cons.injEq, Prod.mk.injEq] at hm
      obtain ⟨⟨rfl, rfl, rfl, rfl⟩, ⟨rfl, rfl, rfl, rfl⟩, _⟩ := hm
      have h' := htk
      rcases htk.2 with ⟨_, h0⟩ | ⟨g, cap, cur, hv, h1, h3, h4, h5, h6, h7⟩
      · cases h0
      · refine ⟨g, cap, hv, ?_⟩
        have hc : ∀ i u, (tcells [⟨3, 0, (quoteB t1).length, t1, v0⟩, ⟨3, (quoteB t1).length + 1, (quoteB t1).length + 1 + (quoteB t1).length, t1, v1⟩, ⟨k2, a2, e2, t2, v2⟩])[i]? = some u → w'.cell? ⟨g, i, none⟩ = some u := fun i u hi => by
          have := World.ownsRow.cells h' (g := g) (by rw [hv]; rfl) i u hi
          rw [addr_add] at this
          exact this
        exact ⟨hc 3 _ rfl, hc 8 _ rfl, hc 6 _ rfl, (Array.getElem?_eq_some_iff.1 h3).1⟩
    · cases hE : allE (backX ⟨(quoteB s).toArray⟩) with
      | bad c p =>
        rw [hE] at h
        obtain ⟨rfl, hb⟩ := h
        exact ⟨_, c, p, rfl, hb, fun h => absurd h h0, fun _ h => absurd h hr⟩
      | good l =>
        rw [hE] at h
        obtain ⟨v, L, rfl, _, _, hb⟩ := h
        exact ⟨v, 0, 0, rfl, hb, fun h => absurd h h0, fun _ h => absurd h hr⟩

theorem tcells_get : ∀ {L : List Tk} {i : Nat} {x : Tk}, L[i]? = some x → (tcells L)[i * 5 + 1]? = some (.int .i64 (x.a : Int)) ∧ (tcells L)[i * 5 + 2]? = some (.int .i64 (x.e : Int))
  | y :: L, 0, x, h => by
    cases h
    exact ⟨rfl, rfl⟩
  | y :: L, i + 1, x, h => by
    have h2 : L[i]? = some x := h
    have := tcells_get h2
    have e : tcells (y :: L) = tokC y ++ tcells L := by simp [tcells]
    have hl : (tokC y).length = 5 := rfl
    rw [e, List.getElem?_append_right (by rw [hl]; omega), List.getElem?_append_right (by rw [hl]; omega), hl, show (i + 1) * 5 + 1 - 5 = i * 5 + 1 by omega, show (i + 1) * 5 + 2 - 5 = i * 5 + 2 by omega]
    exact this
theorem toks_at {w : World} {S : Nat} {v : Value} {L : List Tk} (h : Toks w S v L) (hne : 0 < L.length) : ∃ g cap, v = .slice (some ⟨g, 0, none⟩) L.length cap ∧ L.length ≤ maxLen ∧ g < w.heap.size ∧ ∀ i x, L[i]? = some x → w.cell? ⟨g, i * 5 + 1, none⟩ = some (.int .i64 (x.a : Int)) ∧ w.cell? ⟨g, i * 5 + 2, none⟩ = some (.int .i64 (x.e : Int)) := by
  have h' := h
  rcases h.2 with ⟨_, h0⟩ | ⟨g, cap, cur, hv, h1, h3, h4, h5, h6, h7⟩
  · omega
  · refine ⟨g, cap, hv, Nat.le_trans h4 h5, (Array.getElem?_eq_some_iff.1 h3).1, fun i x hx => ?_⟩
    have hc : ∀ i u, (tcells L)[i]? = some u → w.cell? ⟨g, i, none⟩ = some u := fun i u hi => by
      have := World.ownsRow.cells h' (g := g) (by rw [hv]; rfl) i u hi
      rw [addr_add] at this
      exact this
    exact ⟨hc _ _ (tcells_get hx).1, hc _ _ (tcells_get hx).2⟩

set_option maxRecDepth 100000 in
theorem backL_long {W : World} (s t : ByteArray) (h : 500 < s.size ∨ 500 < t.size) : Calls Tryd.prog 8 #[.string s, .string t] W fun e w' => e = .returned (.bool true) ∧ Below W.heap.size W w' := by
  by_cases hs : 500 < s.size
  · have d1 : (500 : Int) < (s.size : Int) := by omega
    have d2 : decide ((500 : Int) < (s.size : Int)) = true := decide_eq_true d1
    go_enter Tryd.func8, Tryd.ntmps8
    go_wp2
    go_ret
    exact ⟨rfl, Below.refl _ _⟩
  · have d1 : ¬ (500 : Int) < (s.size : Int) := by omega
    have d2 : decide ((500 : Int) < (s.size : Int)) = false := decide_eq_false d1
    have d3 : (500 : Int) < (t.size : Int) := by omega
    have d4 : decide ((500 : Int) < (t.size : Int)) = true := decide_eq_true d3
    go_enter Tryd.func8, Tryd.ntmps8
    go_wp2
    go_ret
    exact ⟨rfl, Below.refl _ _⟩

set_option maxHeartbeats 2000000 in
set_option maxRecDepth 100000 in
theorem backL_walk {W : World} (s t : ByteArray) (hs : ¬ 500 < s.size) (ht : ¬ 500 < t.size) (T : GT W) : Calls Tryd.prog 8 #[.string s, .string t] W fun e w' => e = .returned (.bool true) ∧ Below W.heap.size W w' := by
  have d1 : ¬ (500 : Int) < (s.size : Int) := by omega
  have d2 : decide ((500 : Int) < (s.size : Int)) = false := decide_eq_false d1
  have d3 : ¬ (500 : Int) < (t.size : Int) := by omega
  have d4 : decide ((500 : Int) < (t.size : Int)) = false := decide_eq_false d3
  have HT := Lib.hid T
  have HQ := Lib.hid (quote_any s (by omega) W T)
  obtain ⟨Q, hQ⟩ : ∃ Q, quoteB s = Q := ⟨_, rfl⟩
  have hql := quoteB_len s
  rw [hQ] at HQ hql
  have HEQ := Lib.hid hQ
  clear T hQ
  go_enter Tryd.func8, Tryd.ntmps8
  go_wp2_with fail
  refine HQ.out.mono ?_
  rintro e w1 ⟨rfl, hb1⟩
  have HB1 := Lib.hid hb1
  have HA := Lib.hid (first_any s hs w1 (HT.out.stay hb1).1)
  rw [HEQ.out] at HA
  clear hb1 HQ
  unfold backX at HA
  go_wp2_with fail
  refine HA.out.mono ?_
  rintro e w2 ⟨v2, c, p, rfl, hb2, hf0, hf1⟩
  have hba : Below w2.heap.size w2 (w2.alloc (.cells #[.int .i64 c, .int .i64 p] 48)) := (Below.refl _ _).alloc (Nat.le_refl _) _
  have hb3 := HB1.out.trans ((hb2.trans (hba.mono hb2.size)).mono HB1.out.size)
  have HB3 := Lib.hid hb3
  have hcc : (w2.alloc (.cells #[.int .i64 c, .int .i64 p] 48)).heap[w2.heap.size]? = some (.cells #[.int .i64 c, .int .i64 p] 48 (0, 0)) := heap_alloc_new _ _
  have HF0 := Lib.hid hf0
  have HF1 : Hid (s.size ≠ 0 → rightB s = true → c = 0 ∧ ∃ g cap, v2 = .slice (some ⟨g, 0, none⟩) 3 cap ∧ (w2.alloc (.cells #[.int .i64 c, .int .i64 p] 48)).cell? ⟨g, 3, none⟩ = some (.string s) ∧ (w2.alloc (.cells #[.int .i64 c, .int .i64 p] 48)).cell? ⟨g, 8, none⟩ = some (.string s) ∧ (w2.alloc (.cells #[.int .i64 c, .int .i64 p] 48)).cell? ⟨g, 6, none⟩ = some (.int .i64 ((Q.length : Int) + 1))) := Lib.hid fun h1 h2 => by
    obtain ⟨h3, g, cap, h4, h5, h6, h7, h8⟩ := hf1 h1 h2
    exact ⟨h3, g, cap, h4, (hba.cell (p := ⟨g, 3, none⟩) h8).trans h5, (hba.cell (p := ⟨g, 8, none⟩) h8).trans h6, (hba.cell (p := ⟨g, 6, none⟩) h8).trans h7⟩
  have HRT := Lib.hid (right_any s (w2.alloc (.cells #[.int .i64 c, .int .i64 p] 48)) (HT.out.stay hb3).1 (by omega))
  clear hf0 hf1 hb2 hba hb3 HA
  go_upto_region 5 with fail
  generalize (w2.alloc (.cells #[.int .i64 c, .int .i64 p] 48)) = w3 at *
  have x0 : w3.cell? ⟨w2.heap.size, 0, none⟩ = some (.int .i64 c) := by rw [Lib.cell_of_heap hcc]; rfl
  have x1 : w3.cell? ⟨w2.heap.size, 1, none⟩ = some (.int .i64 p) := by rw [Lib.cell_of_heap hcc]; rfl
  clear hcc
  obtain ⟨bb, hbb⟩ : ∃ bb, (s.toList == []) = bb := ⟨_, rfl⟩
  have hb0 : bb = true ↔ s.size = 0 := by
    rw [← hbb]
    constructor
    · intro h
      by_cases h0 : s.size = 0
      · exact h0
      · rw [some_of h0] at h; cases h
    · intro h
      obtain rfl := empty_of h
      kernel_rfl
  have HB0 := Lib.hid hb0
  clear hb0
  go_upto_if 32 with fail
  go_cut [4] (fun x wx => x = .bool false ∧ Below W.heap.size W wx)
  case first =>
    clear hbb
    cases bb with
    | true =>
      have h0 := HB0.out.1 rfl
      obtain ⟨rfl, rfl⟩ := HF0.out h0
      clear HF0 HF1 HRT h0 HB0
      go_wp2
      all_goals (go_meet; exact ⟨rfl, HB3.out⟩)
    | false =>
      have h0 : s.size ≠ 0 := fun h => by have := HB0.out.2 h; cases this
      clear HB0
      cases hr : rightB s with
      | false =>
        rw [hr] at HRT
        clear HF0 HF1 hr h0
        go_wp2_with fail
        refine HRT.out.mono ?_
        rintro e w4 ⟨rfl, hb4⟩
        have HB4 := Lib.hid (HB3.out.trans (hb4.mono HB3.out.size))
        clear hb4 HRT
        go_wp2
        all_goals (go_meet; exact ⟨rfl, HB4.out⟩)
      | true =>
        rw [hr] at HRT
        obtain ⟨rfl, g, cap, rfl, c3, c8, c6⟩ := HF1.out h0 hr
        have l3 := World.block_lt_of_cell? w3 _ c3
        have lx := World.block_lt_of_cell? w3 _ x0
        clear HF0 HF1 hr h0
        go_wp2_with fail
        refine HRT.out.mono ?_
        rintro e w4 ⟨rfl, hb4⟩
        have HB4 := Lib.hid (HB3.out.trans (hb4.mono HB3.out.size))
        have k3 := (hb4.cell (p := ⟨g, 3, none⟩) l3).trans c3
        have k8 := (hb4.cell (p := ⟨g, 8, none⟩) l3).trans c8
        have k6 := (hb4.cell (p := ⟨g, 6, none⟩) l3).trans c6
        have y0 := (hb4.cell (p := ⟨w2.heap.size, 0, none⟩) lx).trans x0
        have e1 : ((Q.length : Int) + 1) ≤ 9223372036854775807 := by omega
        clear hb4 HRT c3 c8 c6 x0 x1
        go_wp2
        all_goals (go_meet; exact ⟨rfl, HB4.out⟩)
  case rest =>
    obtain ⟨rfl, hb⟩ := hcut
    have HB4 := Lib.hid hb
    have HA := Lib.hid (all_any t wc (HT.out.stay hb).1)
    clear hb HF0 HF1 HRT x0 x1 HB1 HB3 hbb HB0
    go_wp2_with fail
    refine HA.out.mono ?_
    intro e w5 hal
    clear HA
    cases hE : allE t with
    | bad c' q =>
      rw [hE] at hal
      obtain ⟨rfl, hb⟩ := hal
      have hc0 : (c' == 0) = false := by simpa using all_code hE
      have HB6 : Hid (Below W.heap.size W (w5.alloc (.cells #[.int .i64 c', .int .i64 (q : Int)] 48))) := (HB4.out.trans (hb.mono HB4.out.size)).alloc (HB4.out.trans (hb.mono HB4.out.size)).size _
      have x0 : (w5.alloc (.cells #[.int .i64 c', .int .i64 (q : Int)] 48)).cell? ⟨w5.heap.size, 0, none⟩ = some (.int .i64 c') := by simp only [World.cell?, heap_alloc_new]; rfl
      have HC := Lib.hid (works_any _ (HT.out.stay HB6.out))
      clear hE hb
      unfold stopV
      go_upto_region 11 with fail
      generalize (w5.alloc (.cells #[.int .i64 c', .int .i64 (q : Int)] 48)) = w6 at *
      go_wp2_with fail
      go_loopw [10, 11] (fun x10 x11 wx => x10 = .int .i64 0 ∧ x11 = .int .i64 0 ∧ w6 = wx) (fun _ _ _ => 0)
      case atStart => exact ⟨rfl, rfl, rfl⟩
      case round =>
        obtain ⟨rfl, rfl, rfl⟩ := hrel
        go_wp2_with fail
        refine HC.out.mono ?_
        rintro e w7 ⟨rfl, hb⟩
        have HB7 := Lib.hid (HB6.out.trans (hb.mono HB6.out.size))
        clear hb HC
        go_wp2
        go_ret
        exact ⟨rfl, HB7.out⟩
    | good l =>
      rw [hE] at hal
      obtain ⟨v, L, rfl, htk, hm, hb⟩ := hal
      obtain ⟨pp, hri1, hri2, _⟩ := rise_all hE
      have hba : Below w5.heap.size w5 (w5.alloc S0) := (Below.refl _ _).alloc (Nat.le_refl _) _
      have HB6 : Hid (Below W.heap.size W (w5.alloc S0)) := (HB4.out.trans (hb.mono HB4.out.size)).alloc (HB4.out.trans (hb.mono HB4.out.size)).size _
      have x0 : (w5.alloc S0).cell? ⟨w5.heap.size, 0, none⟩ = some (.int .i64 0) := by simp only [World.cell?, heap_alloc_new]; rfl
      have hE0 : ∀ (i : Nat) (x : Tk), L[i]? = some x → x.a ≤ x.e ∧ x.e ≤ t.size := fun i x hx => hri1 i (keyT x) (by rw [← hm, List.getElem?_map, hx]; rfl)
      have hE1 : ∀ (i : Nat) (x y : Tk), L[i]? = some y → L[i + 1]? = some x → y.e ≤ x.a := fun i x y hy hx => hri2 i (keyT x) (keyT y) (by rw [← hm, List.getElem?_map, hy]; rfl) (by rw [← hm, List.getElem?_map, hx]; rfl)
      have HE0 := Lib.hid hE0
      have HE1 := Lib.hid hE1
      by_cases hL : 0 < L.length
      · obtain ⟨g, cap, rfl, hmax, hg, hcell⟩ := toks_at htk hL
        unfold maxLen at hmax
        have hcell6 : ∀ (i : Nat) (x : Tk), L[i]? = some x → (w5.alloc S0).cell? ⟨g, i * 5 + 1, none⟩ = some (.int .i64 (x.a : Int)) ∧ (w5.alloc S0).cell? ⟨g, i * 5 + 2, none⟩ = some (.int .i64 (x.e : Int)) := fun i x hx =>
          ⟨(hba.cell (p := ⟨g, i * 5 + 1, none⟩) hg).trans (hcell i x hx).1, (hba.cell (p := ⟨g, i * 5 + 2, none⟩) hg).trans (hcell i x hx).2⟩
        have HCE := Lib.hid hcell6
        clear hE hb hba htk hm hri1 hri2 hE0 hE1 hcell hcell6
        unfold stopV
        go_upto_region 11 with fail
        generalize (w5.alloc S0) = w6 at *
        go_wp2_with fail
        go_loopw [10, 11] (fun x10 x11 wx => ∃ (i last n : Nat), i ≤ L.length ∧ x11 = .int .i64 (i : Int) ∧ x10 = .int .i64 (last : Int) ∧ (∀ x : Tk, L[i]? = some x → last ≤ x.a) ∧ wx = w6.drewN n) (fun _ x11 _ => L.length - (intOf x11).toNat)
        case atStart => exact ⟨0, 0, 0, Nat.zero_le _, rfl, rfl, fun _ _ => Nat.zero_le _, rfl⟩
        case round =>
          obtain ⟨i, last, n, hi, rfl, rfl, hlast, rfl⟩ := hrel
          by_cases hlt : i < L.length
          · have g1 : (i : Int) < (L.length : Int) := by omega
            have g2 : decide ((i : Int) < (L.length : Int)) = true := decide_eq_true g1
            obtain ⟨x, hx⟩ : ∃ x, L[i]? = some x := ⟨L[i], List.getElem?_eq_getElem hlt⟩
            have c1 : w6.cell? ⟨g, i * 5 + 1, none⟩ = some (.int .i64 (x.a : Int)) := (HCE.out i x hx).1
            have c2 : w6.cell? ⟨g, i * 5 + 2, none⟩ = some (.int .i64 (x.e : Int)) := (HCE.out i x hx).2
            have k1 := hlast x hx
            have k2 := HE0.out i x hx
            have hnext : ∀ y : Tk, L[i + 1]? = some y → x.e ≤ y.a := fun y hy => HE1.out i y x hx hy
            have HNX := Lib.hid hnext
            obtain ⟨xa, hxa⟩ : ∃ q, x.a = q := ⟨_, rfl⟩
            obtain ⟨xe, hxe⟩ : ∃ q, x.e = q := ⟨_, rfl⟩
            rw [hxa] at c1 k1 k2
            rw [hxe] at c2 k2 HNX
            have m1 : ¬ (xa : Int) < (last : Int) := by omega
            have m2 : decide ((xa : Int) < (last : Int)) = false := decide_eq_false m1
            have m3 : ¬ (xe : Int) < (xa : Int) := by omega
            have m4 : decide ((xe : Int) < (xa : Int)) = false := decide_eq_false m3
            have m5 : ¬ (t.size : Int) < (xe : Int) := by omega
            have m6 : decide ((t.size : Int) < (xe : Int)) = false := decide_eq_false m5
            clear hnext hxa hxe hx hlast
            go_wp2_with fail
            go_quiet (fail)
            go_wp2
            go_roundw
            case rel => exact ⟨i + 1, xe, _, by omega, by go_num, rfl, HNX.out, rfl⟩
            case measure => simp [intOf]; omega
          · have g1 : ¬ (i : Int) < (L.length : Int) := by omega
            have g2 : decide ((i : Int) < (L.length : Int)) = false := decide_eq_false g1
            have hB : Below W.heap.size W (w6.drewN n) := below_drewN HB6.out n
            have HC := Lib.hid (works_any _ (HT.out.stay hB))
            have HBn := Lib.hid hB
            clear hB hlast
            go_wp2_with fail
            refine HC.out.mono ?_
            rintro e w7 ⟨rfl, hb⟩
            have HB7 := Lib.hid (HBn.out.trans (hb.mono HBn.out.size))
            clear hb HC
            go_wp2
            go_ret
            exact ⟨rfl, HB7.out⟩
      · obtain ⟨A, cap, rfl⟩ := htk.form
        have hl0 : L.length = 0 := by omega
        rw [hl0]
        have HC := Lib.hid (works_any _ (HT.out.stay HB6.out))
        clear hE hb hba htk hm hri1 hri2 hE0 hE1 HE0 HE1 hL hl0
        unfold stopV
        go_upto_region 11 with fail
        generalize (w5.alloc S0) = w6 at *
        go_wp2_with fail
        go_loopw [10, 11] (fun x10 x11 wx => x10 = .int .i64 0 ∧ x11 = .int .i64 0 ∧ w6 = wx) (fun _ _ _ => 0)
        case atStart => exact ⟨rfl, rfl, rfl⟩
        case round =>
          obtain ⟨rfl, rfl, rfl⟩ := hrel
          go_wp2_with fail
          refine HC.out.mono ?_
          rintro e w7 ⟨rfl, hb⟩
          have HB7 := Lib.hid (HB6.out.trans (hb.mono HB6.out.size))
          clear hb HC
          go_wp2
          go_ret
          exact ⟨rfl, HB7.out⟩

theorem lexBack_all {W : World} (s t : ByteArray) (T : GT W) : Calls Tryd.prog 8 #[.string s, .string t] W fun e w' => e = .returned (.bool true) ∧ Below W.heap.size W w' := by
  by_cases hs : 500 < s.size
  · exact backL_long s t (.inl hs)
  by_cases ht : 500 < t.size
  · exact backL_long s t (.inr ht)
  exact backL_walk s t hs ht T

end Go.Proofs.YtfjlhfalnciamaaDoor.Lex
