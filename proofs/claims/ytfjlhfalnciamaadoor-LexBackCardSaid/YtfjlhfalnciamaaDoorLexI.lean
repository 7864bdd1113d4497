/- All parts of a grammar's text (package lex), walked. -/
import Derived.Test.YtfjlhfalnciamaaDoorLexH
namespace Go.Proofs.YtfjlhfalnciamaaDoor.Lex
open Go Go.RowKit Go.Proofs.Chars
open Go.Proofs.YtfjlhfalnciamaaDoor.Utf Go.Proofs.YtfjlhfalnciamaaDoor.Chars

/-- A part, its set as the value that stands for it. -/
structure Tk where
  k : Int
  a : Nat
  e : Nat
  t : ByteArray
  v : Value
def tokC (x : Tk) : List Value := [.int .i64 x.k, .int .i64 (x.a : Int), .int .i64 (x.e : Int), .string x.t, x.v]
def tcells (L : List Tk) : List Value := L.flatMap tokC
theorem tcells_snoc (L : List Tk) (x : Tk) : tcells (L ++ [x]) = tcells L ++ tokC x := by simp [tcells]
/-- A row of parts that the call made. -/
def Toks (w : World) (S : Nat) (v : Value) (L : List Tk) : Prop := w.ownsRow S 62 5 v L.length (tcells L)
theorem Toks.stay {w w' : World} {S : Nat} {v : Value} {L : List Tk} (h : Toks w S v L) (hb : Below w.heap.size w w') : Toks w' S v L := by
  refine ⟨h.1, ?_⟩
  rcases h.2 with h0 | ⟨g, cap, cur, e1, e2, e3, e4⟩
  · exact .inl h0
  · exact .inr ⟨g, cap, cur, e1, e2, (hb.block g (Array.getElem?_eq_some_iff.1 e3).1).trans e3, e4⟩
theorem Toks.low {w : World} {S S' : Nat} {v : Value} {L : List Tk} (h : Toks w S v L) (hS : S' ≤ S) : Toks w S' v L := by
  refine ⟨h.1, ?_⟩
  rcases h.2 with h0 | ⟨g, cap, cur, e1, e2, e3⟩
  · exact .inl h0
  · exact .inr ⟨g, cap, cur, e1, Nat.le_trans hS e2, e3⟩
theorem Toks.form {w : World} {S : Nat} {v : Value} {L : List Tk} (h : Toks w S v L) : ∃ A cap, v = .slice A L.length cap := by
  rcases h.2 with ⟨rfl, h0⟩ | ⟨g, cap, cur, rfl, _⟩
  · exact ⟨none, 0, by rw [h0]⟩
  · exact ⟨_, cap, rfl⟩
theorem Toks.lt {w : World} {S : Nat} {v : Value} {L : List Tk} (h : Toks w S v L) {g : Nat} (hg : v.ownBlock = some g) : S ≤ g := (World.ownsRow.lt h g hg).1
theorem Toks.setFar {w : World} {S : Nat} {v : Value} {L : List Tk} (h : Toks w S v L) {p : Addr} (hne : v.ownBlock ≠ some p.block) (u : Value) : Toks (w.setCell p u) S v L := by
  refine ⟨h.1, ?_⟩
  rcases h.2 with h0 | ⟨g, cap, cur, e1, e2, e3, e4⟩
  · exact .inl h0
  · refine .inr ⟨g, cap, cur, e1, e2, ?_, e4⟩
    rw [World.setCell, Array.getElem?_modify, if_neg (fun e => hne (by rw [e1]; simp [Value.ownBlock, e]))]
    exact e3
theorem Toks.block_lt {w : World} {S : Nat} {v : Value} {L : List Tk} (h : Toks w S v L) {g : Nat} (hg : v.ownBlock = some g) : g < w.heap.size := by
  rcases h.2 with ⟨rfl, _⟩ | ⟨g', cap, cur, rfl, _, e3, _⟩
  · cases hg
  · cases hg
    exact (Array.getElem?_eq_some_iff.1 e3).1
/-- A part without its set. -/
def keyT (x : Tk) : Int × Nat × Nat × ByteArray := (x.k, x.a, x.e, x.t)
inductive Al where
  | bad (c : Int) (p : Nat) : Al
  | good (l : List (Int × Nat × Nat × ByteArray)) : Al
def allGo (s : ByteArray) : Nat → Nat → List (Int × Nat × Nat × ByteArray) → Al
  | 0, _, l => .good l
  | f + 1, a, l =>
    if a < s.size then
      match nextX s a with
      | .bad c p => .bad c p
      | .tok k e t _ => allGo s f (blankE (txt s).b s.size (s.size + 1) e) (l ++ [(k, a, e, t)])
    else .good (l ++ [(0, s.size, s.size, ⟨#[]⟩)])
def allE (s : ByteArray) : Al := if 20000 < s.size then .bad 3 0 else allGo s (s.size + 1) (blankE (txt s).b s.size (s.size + 1) 0) []
def AllP (W : World) (o : Al) (e : Ending) (w' : World) : Prop :=
  match o with
  | .bad c p => e = .returned (.tuple #[.slice none 0 0, stopV c p]) ∧ Below W.heap.size W w'
  | .good l => ∃ v L, e = .returned (.tuple #[v, stopV 0 0]) ∧ Toks w' W.heap.size v L ∧ L.map keyT = l ∧ Below W.heap.size W w'
theorem info62 : (Tryd.prog.info? 62).map (fun i => (i.zero, i.size, i.bytes)) = some (some (.agg #[.int .i64 0, .int .i64 0, .int .i64 0, .string ⟨#[]⟩, .slice none 0 0]), 5, 64) := by kernel_rfl

theorem runP_pos (b : Nat → Nat) (n f i : Nat) (h : i ≤ n) : i ≤ runP b n f i := (runP_in b n f i h).1
theorem nextX_in {s : ByteArray} {a : Nat} (ha : a < s.size) {k : Int} {e : Nat} {t : ByteArray} {g : Option (List Rg)} (h : nextX s a = .tok k e t g) : a < e ∧ e ≤ s.size := by
  have hsz : (s.extract a s.size).size = s.size - a := ext_size s (Nat.le_refl _)
  unfold nextX at h
  split at h
  · rename_i hl
    have hb0 : (txt (s.extract a s.size)).b 0 = (txt s).b a := by rw [ext_b, Nat.add_zero]
    have hin := namedE_in (txt (s.extract a s.size)).b (s.extract a s.size).size
    have hpos : 1 ≤ namedE (txt (s.extract a s.size)).b (s.extract a s.size).size := by
      unfold namedE
      rw [if_neg (by omega), hb0, if_pos hl]
      exact runP_pos _ _ _ _ (by omega)
    unfold nameX at h
    simp only [] at h
    split at h
    · cases h
    · cases h
      omega
  split at h
  · unfold litX at h
    cases hu : untilE (txt s).b s.size 39 (s.size + 1) (a + 1) with
    | none => rw [hu] at h; cases h
    | some z =>
      rw [hu] at h
      have hin := untilE_in _ _ _ _ _ _ hu
      simp only [] at h
      cases hg : litGo s z (s.size + 1) (a + 1) [] with
      | bad c p => rw [hg] at h; cases h
      | good l =>
        rw [hg] at h
        simp only [] at h
        split at h
        · cases h
        · cases h; omega
  split at h
  · unfold classX at h
    cases hu : untilE (txt s).b s.size 93 (s.size + 1) (a + 1) with
    | none => rw [hu] at h; cases h
    | some z =>
      rw [hu] at h
      have hin := untilE_in _ _ _ _ _ _ hu
      simp only [] at h
      cases hg : readE (s.extract (a + 1) z) with
      | bad c p => rw [hg] at h; cases h
      | good l => rw [hg] at h; cases h; omega
  split at h
  · rename_i h4
    cases h
    omega
  split at h
  · cases h; omega
  · cases h

theorem litGo_code {s : ByteArray} {z : Nat} : ∀ (f p : Nat) (l : List UInt8) (c : Int) (q : Nat), litGo s z f p l = .bad c q → c ≠ 0
  | 0, p, l, c, q, h => by rw [litGo] at h; cases h
  | f + 1, p, l, c, q, h => by
    rw [litGo] at h
    split at h
    · split at h
      · cases h; decide
      · split at h
        · exact litGo_code f _ _ c q h
        · split at h
          · cases h; decide
          · exact litGo_code f _ _ c q h
    · cases h
theorem nextX_code {s : ByteArray} {a : Nat} {c : Int} {q : Nat} (h : nextX s a = .bad c q) : c ≠ 0 := by
  unfold nextX at h
  split at h
  · unfold nameX at h
    simp only [] at h
    split at h
    · cases h; decide
    · cases h
  split at h
  · unfold litX at h
    cases hu : untilE (txt s).b s.size 39 (s.size + 1) (a + 1) with
    | none => rw [hu] at h; cases h; decide
    | some z =>
      rw [hu] at h
      simp only [] at h
      cases hg : litGo s z (s.size + 1) (a + 1) [] with
      | bad c' p => rw [hg] at h; cases h; exact litGo_code _ _ _ _ _ hg
      | good l =>
        rw [hg] at h
        simp only [] at h
        split at h
        · cases h; decide
        · cases h
  split at h
  · unfold classX at h
    cases hu : untilE (txt s).b s.size 93 (s.size + 1) (a + 1) with
    | none => rw [hu] at h; cases h; decide
    | some z =>
      rw [hu] at h
      simp only [] at h
      cases hg : readE (s.extract (a + 1) z) with
      | bad c' p => rw [hg] at h; cases h; exact bad_code hg
      | good l => rw [hg] at h; cases h
  split at h
  · cases h
  split at h
  · cases h
  · cases h; decide

theorem allGo_end {s : ByteArray} {f a : Nat} {l : List (Int × Nat × Nat × ByteArray)} (h : ¬ a < s.size) (hf : 0 < f) : allGo s f a l = .good (l ++ [(0, s.size, s.size, ⟨#[]⟩)]) := by
  obtain ⟨f, rfl⟩ : ∃ g, f = g + 1 := ⟨f - 1, by omega⟩
  rw [allGo, if_neg h]

set_option maxHeartbeats 2000000 in
set_option maxRecDepth 100000 in
theorem all_any (s : ByteArray) (W : World) (T : U8 W) : Calls Tryd.prog 35 #[.string s] W fun e w' => AllP W (allE s) e w' := by
  obtain ⟨i0, hi, hz0, hz1, hz2⟩ := info_parts info62
  obtain ⟨E, hE⟩ : ∃ E, allE s = E := ⟨_, rfl⟩
  rw [hE]
  unfold allE at hE
  have hbS : Below W.heap.size W (W.alloc S0) := (Below.refl _ _).alloc (Nat.le_refl _) _
  by_cases hbig : 20000 < s.size
  · rw [if_pos hbig] at hE
    subst hE
    have d1 : (20000 : Int) < (s.size : Int) := by omega
    have d2 : decide ((20000 : Int) < (s.size : Int)) = true := decide_eq_true d1
    have HBS := Lib.hid hbS
    clear T hbS
    go_enter Tryd.func35, Tryd.ntmps35
    go_wp2
    refine bodyPost_ret (v := .tuple #[.slice none 0 0, stopV 3 0]) (by simp [results, Tryd.results35, go_sem, stopV]) rfl ?_
    exact ⟨rfl, (Below.refl _ _).alloc (Nat.le_refl _) _⟩
  · rw [if_neg hbig] at hE
    have d1 : ¬ (20000 : Int) < (s.size : Int) := by omega
    have d2 : decide ((20000 : Int) < (s.size : Int)) = false := decide_eq_false d1
    have hbk := blankE_in (txt s).b s.size (s.size + 1) 0 (Nat.zero_le _)
    have HB0 := Lib.hid (fun w => blank_any s (by omega) 0 (Nat.zero_le _) w)
    obtain ⟨p0, hp0⟩ : ∃ p0, blankE (txt s).b s.size (s.size + 1) 0 = p0 := ⟨_, rfl⟩
    rw [hp0] at hE hbk HB0
    have HE := Lib.hid hE
    have HT := Lib.hid T
    have HBS := Lib.hid hbS
    clear T hbS hE hp0 hbig
    go_enter Tryd.func35, Tryd.ntmps35
    go_wp2_with (go_at_call 60; refine (HB0.out _).mono ?_; rintro e w' ⟨rfl, rfl⟩)
    go_loopw [4, 5, 6, 7] (fun x4 x5 x6 x7 wx => ∃ (p f : Nat) (L : List Tk), p ≤ s.size ∧ s.size < p + f ∧ x5 = .int .i64 (p : Int) ∧ L.length ≤ p ∧ allGo s f p (L.map keyT) = E ∧ Toks wx (W.heap.size + 1) x4 L ∧ Below (W.heap.size + 1) (W.alloc S0) wx) (fun _ x5 _ _ _ => s.size - (intOf x5).toNat)
    case atStart => exact ⟨p0, s.size + 1, [], hbk.2, by omega, rfl, Nat.zero_le _, HE.out, ⟨rfl, .inl ⟨rfl, rfl⟩⟩, Below.refl _ _⟩
    case round =>
      obtain ⟨p, f, L, hp, hf, rfl, hLp, hgo, htk, hB⟩ := hrel
      have HG := Lib.hid hgo
      have HK := Lib.hid htk
      have HB := Lib.hid hB
      have hszr : W.heap.size + 1 ≤ wr.heap.size := by have := hB.size; simpa using this
      have hbl : wr.heap[W.heap.size]? = some (.cells #[.int .i64 0, .int .i64 0] 48 (0, 0)) := (hB.block _ (by omega)).trans (heap_alloc_new W S0)
      have HBL := Lib.hid hbl
      clear hgo htk hB hbl
      by_cases hlt : p < s.size
      · have g1 : (p : Int) < (s.size : Int) := by omega
        have g2 : decide ((p : Int) < (s.size : Int)) = true := decide_eq_true g1
        obtain ⟨f, rfl⟩ : ∃ g, f = g + 1 := ⟨f - 1, by omega⟩
        have hWr : Below W.heap.size W wr := HBS.out.trans (HB.out.mono (by omega))
        have HN := Lib.hid (nextX_any s (by omega) p hlt wr (HT.out.stay hWr))
        have hgo := HG.out
        rw [allGo, if_pos hlt] at hgo
        cases hnx : nextX s p with
        | bad c q =>
          simp only [hnx] at hgo
          rw [hnx] at HN
          have EQ := Lib.hid hgo.symm
          have hnx2 := Lib.hid hnx
          clear hgo HG hnx hWr
          go_wp2_with fail
          refine HN.out.mono ?_
          rintro e w1 ⟨rfl, hb⟩
          have hb2 : Below wr.heap.size wr ((w1.alloc T0).alloc (.cells #[.int .i64 c, .int .i64 (q : Int)] 48)) := (hb.alloc hb.size _).alloc (by have := hb.size; simp; omega) _
          have hB2 := HBS.out.trans ((HB.out.trans (hb2.mono hszr)).mono (by omega))
          have hy : ((w1.alloc T0).alloc (.cells #[.int .i64 c, .int .i64 (q : Int)] 48)).heap[w1.heap.size + 1]? = some (.cells #[.int .i64 c, .int .i64 (q : Int)] 48 (0, 0)) := by
            have h := (MapKept.heap_alloc (w1.alloc T0) (.cells #[.int .i64 c, .int .i64 (q : Int)] 48)).1
            rw [show (w1.alloc T0).heap.size = w1.heap.size + 1 by simp] at h
            exact h
          have hbl2 := (hb2.block W.heap.size (by omega)).trans HBL.out
          have hc0 : (c != 0) = true := by simpa using nextX_code hnx2.out
          have HF := Lib.hid (fun p q => ((hB2.setCell (p := ⟨W.heap.size, 0, none⟩) (Nat.le_refl _) p).setCell (p := ⟨W.heap.size, 1, none⟩) (Nat.le_refl _) q).drew)
          have hne : w1.heap.size + 1 ≠ W.heap.size := by have := hb.size; omega
          clear hb hb2 hB2 HN HK HB hnx2
          unfold tokV stopV
          go_upto_region 8 with fail
          generalize ((w1.alloc T0).alloc (.cells #[.int .i64 c, .int .i64 (q : Int)] 48)) = w2 at *
          have y0 : w2.cell? ⟨w1.heap.size + 1, 0, none⟩ = some (.int .i64 c) := by rw [Lib.cell_of_heap hy]; rfl
          have y1 : w2.cell? ⟨w1.heap.size + 1, 1, none⟩ = some (.int .i64 (q : Int)) := by rw [Lib.cell_of_heap hy]; rfl
          have c0 : w2.cell? ⟨W.heap.size, 0, none⟩ = some (.int .i64 0) := by rw [Lib.cell_of_heap hbl2]; rfl
          have c1 : w2.cell? ⟨W.heap.size, 1, none⟩ = some (.int .i64 0) := by rw [Lib.cell_of_heap hbl2]; rfl
          have f0 := Lib.frozen_of_heap hbl2 0
          have f1 := Lib.frozen_of_heap hbl2 1
          clear hy hbl2
          go_region
          go_wp2
          refine bodyPost_ret (v := .tuple #[.slice none 0 0, stopV c q]) (by simp [results, Tryd.results35, go_sem, stopV, c0, c1]) rfl ?_
          rw [EQ.out]
          exact ⟨rfl, HF.out _ _⟩
        | tok k z t g =>
          simp only [hnx] at hgo
          rw [hnx] at HN
          have hin := nextX_in hlt hnx
          have hbz := blankE_in (txt s).b s.size (s.size + 1) z hin.2
          have HBK := Lib.hid (fun w => blank_any s (by omega) z hin.2 w)
          obtain ⟨p', hp'⟩ : ∃ p', blankE (txt s).b s.size (s.size + 1) z = p' := ⟨_, rfl⟩
          rw [hp'] at hgo hbz HBK
          have HGO := Lib.hid hgo
          clear hgo HG hnx hWr hp'
          go_wp2_with fail
          refine HN.out.mono ?_
          rintro e w1 ⟨v, rfl, hset, hb⟩
          obtain ⟨A, m, cap, rfl⟩ := hset.form
          have hb2 : Below wr.heap.size wr ((w1.alloc (.cells #[.int .i64 k, .int .i64 (p : Int), .int .i64 (z : Int), .string t, .slice A m cap] 62)).alloc S0) := (hb.alloc hb.size _).alloc (by have := hb.size; simp; omega) _
          have HK2 := Lib.hid (HK.out.stay hb2)
          have HB2 := Lib.hid (HB.out.trans (hb2.mono hszr))
          have hx : ((w1.alloc (.cells #[.int .i64 k, .int .i64 (p : Int), .int .i64 (z : Int), .string t, .slice A m cap] 62)).alloc S0).heap[w1.heap.size]? = some (.cells #[.int .i64 k, .int .i64 (p : Int), .int .i64 (z : Int), .string t, .slice A m cap] 62 (0, 0)) := (((MapKept.heap_alloc _ _).2 _ (by simp))).trans (heap_alloc_new _ _)
          have hy : ((w1.alloc (.cells #[.int .i64 k, .int .i64 (p : Int), .int .i64 (z : Int), .string t, .slice A m cap] 62)).alloc S0).heap[w1.heap.size + 1]? = some (.cells #[.int .i64 0, .int .i64 0] 48 (0, 0)) := by
            have h := (MapKept.heap_alloc (w1.alloc (.cells #[.int .i64 k, .int .i64 (p : Int), .int .i64 (z : Int), .string t, .slice A m cap] 62)) S0).1
            rw [show (w1.alloc (.cells #[.int .i64 k, .int .i64 (p : Int), .int .i64 (z : Int), .string t, .slice A m cap] 62)).heap.size = w1.heap.size + 1 by simp] at h
            exact h
          have hsz1 := hb.size
          have hszx : ((w1.alloc (.cells #[.int .i64 k, .int .i64 (p : Int), .int .i64 (z : Int), .string t, .slice A m cap] 62)).alloc S0).heap.size = w1.heap.size + 2 := by simp
          have HNE : Hid (∀ g, u4.ownBlock = some g → g ≠ w1.heap.size) := Lib.hid fun g hg => by have := HK.out.block_lt hg; have := hb.size; omega
          clear hb hb2 hset HN HK HB
          unfold tokV stopV
          go_upto_region 7 with fail
          generalize ((w1.alloc (.cells #[.int .i64 k, .int .i64 (p : Int), .int .i64 (z : Int), .string t, .slice A m cap] 62)).alloc S0) = w2 at *
          have x0 : w2.cell? ⟨w1.heap.size, 0, none⟩ = some (.int .i64 k) := by rw [Lib.cell_of_heap hx]; rfl
          have x1 : w2.cell? ⟨w1.heap.size, 1, none⟩ = some (.int .i64 (p : Int)) := by rw [Lib.cell_of_heap hx]; rfl
          have x2 : w2.cell? ⟨w1.heap.size, 2, none⟩ = some (.int .i64 (z : Int)) := by rw [Lib.cell_of_heap hx]; rfl
          have x3 : w2.cell? ⟨w1.heap.size, 3, none⟩ = some (.string t) := by rw [Lib.cell_of_heap hx]; rfl
          have x4 : w2.cell? ⟨w1.heap.size, 4, none⟩ = some (.slice A m cap) := by rw [Lib.cell_of_heap hx]; rfl
          have y0 : w2.cell? ⟨w1.heap.size + 1, 0, none⟩ = some (.int .i64 0) := by rw [Lib.cell_of_heap hy]; rfl
          have hne : some w1.heap.size ≠ u4.ownBlock := fun e => HNE.out _ e.symm rfl
          have hown := Lib.hid (show w2.ownsRow (W.heap.size + 1) 62 5 u4 L.length (tcells L) from HK2.out)
          have hlt1 : w1.heap.size + 1 < w2.heap.size := by omega
          clear hx hy HK2 hszx
          go_wp2_with (at_builtin; refine wpList_append_own _ rfl _ _ 58 rfl (W.heap.size + 1) 62 i0 (.agg #[.int .i64 0, .int .i64 0, .int .i64 0, .string ⟨#[]⟩, .slice none 0 0]) 5 64 Tryd.underlying58 hi hz0 hz1 hz2 rfl (by decide) _ _ _ rfl (hown.out.alloc _) ⟨w2.heap.size, 0, none⟩ 1 1 [.int .i64 k, .int .i64 (p : Int), .int .i64 (z : Int), .string t, .slice A m cap] rfl rfl ?c1 ?c2 ?c3 ?c4 ?c5 ?_)
          case c1 => exact news1 _ #[_, _, _, _, _] _
          case c2 => intro u hu; simp at hu; rcases hu with rfl | rfl | rfl | rfl | rfl <;> rfl
          case c3 => unfold maxLen; omega
          case c4 => omega
          case c5 => simp; omega
          intro v' w5 hown2 hgrow _
          have HR2 : Hid (Toks w5 (W.heap.size + 1) v' (L ++ [⟨k, p, z, t, .slice A m cap⟩])) := by
            unfold Toks
            rw [tcells_snoc, List.length_append]
            exact Lib.hid hown2
          have HB5 : Hid (Below (W.heap.size + 1) (W.alloc S0) w5) := ((HB2.out.alloc (by omega) _).grown hgrow (by simp; omega) fun k hk => (hown.out.lt k hk).1)
          have x2' : w5.cell? ⟨w1.heap.size, 2, none⟩ = some (.int .i64 (z : Int)) := (hgrow.cell_far ⟨w1.heap.size, 2, none⟩ (by simp; omega) hne).trans (((Below.refl w2.heap.size w2).alloc (Nat.le_refl _) _).cell (p := ⟨w1.heap.size, 2, none⟩) (by show w1.heap.size < _; omega) |>.trans x2)
          have HGO2 : Hid (allGo s f p' ((L ++ [(⟨k, p, z, t, .slice A m cap⟩ : Tk)]).map keyT) = E) := Lib.hid (by rw [List.map_append]; exact HGO.out)
          have hll : (L ++ [(⟨k, p, z, t, .slice A m cap⟩ : Tk)]).length ≤ p' := by simp; omega
          clear hown2 hgrow hown x0 x1 x2 x3 x4 y0
          go_wp2_with (go_at_call 60; refine (HBK.out _).mono ?_; rintro e w' ⟨rfl, rfl⟩)
          go_roundw
          case rel => exact ⟨p', f, _, by omega, by omega, rfl, hll, HGO2.out, HR2.out, HB5.out⟩
          case measure => simp [intOf]; omega
      · have g1 : ¬ (p : Int) < (s.size : Int) := by omega
        have g2 : decide ((p : Int) < (s.size : Int)) = false := decide_eq_false g1
        have hgo := HG.out
        rw [allGo_end hlt (by omega)] at hgo
        have EQ := Lib.hid hgo.symm
        have hown := Lib.hid (show wr.ownsRow (W.heap.size + 1) 62 5 u4 L.length (tcells L) from HK.out)
        have hne : some W.heap.size ≠ u4.ownBlock := fun e => by have := HK.out.lt e.symm; omega
        clear hgo HG HK
        go_wp2_with (at_builtin; refine wpList_append_own _ rfl _ _ 58 rfl (W.heap.size + 1) 62 i0 (.agg #[.int .i64 0, .int .i64 0, .int .i64 0, .string ⟨#[]⟩, .slice none 0 0]) 5 64 Tryd.underlying58 hi hz0 hz1 hz2 rfl (by decide) _ _ _ rfl (hown.out.alloc _) ⟨wr.heap.size, 0, none⟩ 1 1 [.int .i64 0, .int .i64 (s.size : Int), .int .i64 (s.size : Int), .string ⟨#[]⟩, .slice none 0 0] rfl rfl ?e1 ?e2 ?e3 ?e4 ?e5 ?_)
        case e2 => exact ⟨rfl, rfl, rfl, rfl⟩
        case e3 => unfold maxLen; omega
        case e4 => omega
        case e5 => omega
        intro v' w5 hown2 hgrow _
        have HR2 : Toks w5 (W.heap.size + 1) v' (L ++ [⟨0, s.size, s.size, ⟨#[]⟩, .slice none 0 0⟩]) := by
          unfold Toks
          rw [tcells_snoc, List.length_append]
          exact hown2
        obtain ⟨A, cap, rfl⟩ := HR2.form
        have hbl5 : w5.heap[W.heap.size]? = some (.cells #[.int .i64 0, .int .i64 0] 48 (0, 0)) := by
          rw [hgrow.block W.heap.size (by simp; omega) hne]
          exact (Below.heap_alloc wr _ _ (by omega)).trans HBL.out
        have c0 : w5.cell? ⟨W.heap.size, 0, none⟩ = some (.int .i64 0) := by rw [Lib.cell_of_heap hbl5]; rfl
        have c1 : w5.cell? ⟨W.heap.size, 1, none⟩ = some (.int .i64 0) := by rw [Lib.cell_of_heap hbl5]; rfl
        have f0 := Lib.frozen_of_heap hbl5 0
        have f1 := Lib.frozen_of_heap hbl5 1
        have hB5 : Below W.heap.size W w5 := HBS.out.trans (((HB.out.alloc (by omega) _).grown hgrow (by simp; omega) fun k hk => (hown.out.lt k hk).1).mono (by omega))
        have HF := Lib.hid (fun p q => (hB5.setCell (p := ⟨W.heap.size, 0, none⟩) (Nat.le_refl _) p).setCell (p := ⟨W.heap.size, 1, none⟩) (Nat.le_refl _) q)
        have hn5 : (Value.slice A (L ++ [(⟨0, s.size, s.size, ⟨#[]⟩, .slice none 0 0⟩ : Tk)]).length cap).ownBlock ≠ some W.heap.size := fun e => by have := HR2.lt e; omega
        have HRR := Lib.hid (fun p q => (((HR2.setFar (p := ⟨W.heap.size, 0, none⟩) hn5 p).setFar (p := ⟨W.heap.size, 1, none⟩) hn5 q).low (Nat.le_succ W.heap.size)))
        obtain ⟨nn, hnn⟩ : ∃ nn, (L ++ [(⟨0, s.size, s.size, ⟨#[]⟩, .slice none 0 0⟩ : Tk)]).length = nn := ⟨_, rfl⟩
        rw [hnn] at HRR ⊢
        clear hown2 hgrow hown hbl5 hB5 HR2 hn5 hnn
        go_wp2
        refine bodyPost_ret (v := .tuple #[.slice A nn cap, stopV 0 0]) (by simp [results, Tryd.results35, go_sem, stopV, c0, c1]) rfl ?_
        rw [EQ.out]
        refine ⟨_, _, rfl, HRR.out _ _, ?_, HF.out _ _⟩
        rw [List.map_append]
        rfl

end Go.Proofs.YtfjlhfalnciamaaDoor.Lex
