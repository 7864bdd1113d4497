/- The parts of a grammar's text: classes (package lex), walked. -/
import Derived.Test.YtfjlhfalnciamaaDoorLexD
import Derived.Test.YtfjlhfalnciamaaDoorCharsBackW
namespace Go.Proofs.YtfjlhfalnciamaaDoor.Lex
open Go Go.RowKit Go.Proofs.Chars
open Go.Proofs.YtfjlhfalnciamaaDoor.Utf Go.Proofs.YtfjlhfalnciamaaDoor.Chars

/-- What is stored into the two results of a part. -/
def put7 (wx : World) (H : Nat) (v0 v1 v2 v3 v4 p q : Value) : World :=
  ((((((wx.setCell ⟨H, 0, none⟩ v0).setCell ⟨H, 1, none⟩ v1).setCell ⟨H, 2, none⟩ v2).setCell ⟨H, 3, none⟩ v3).setCell ⟨H, 4, none⟩ v4).setCell ⟨H + 1, 0, none⟩ p).setCell ⟨H + 1, 1, none⟩ q
theorem put7_below {W wx : World} (hB : Below W.heap.size W wx) (v0 v1 v2 v3 v4 p q : Value) : Below W.heap.size W (put7 wx W.heap.size v0 v1 v2 v3 v4 p q) :=
  ((((((hB.setCell (p := ⟨W.heap.size, 0, none⟩) (Nat.le_refl _) _).setCell (p := ⟨W.heap.size, 1, none⟩) (Nat.le_refl _) _).setCell (p := ⟨W.heap.size, 2, none⟩) (Nat.le_refl _) _).setCell (p := ⟨W.heap.size, 3, none⟩) (Nat.le_refl _) _).setCell (p := ⟨W.heap.size, 4, none⟩) (Nat.le_refl _) _).setCell (p := ⟨W.heap.size + 1, 0, none⟩) (Nat.le_succ _) _).setCell (p := ⟨W.heap.size + 1, 1, none⟩) (Nat.le_succ _) _
theorem put7_row {wx : World} {S H : Nat} {v : Value} {O : List Rg} (h : Rowed wx S v O) (n0 : v.ownBlock ≠ some H) (n1 : v.ownBlock ≠ some (H + 1)) (v0 v1 v2 v3 v4 p q : Value) : Rowed (put7 wx H v0 v1 v2 v3 v4 p q) S v O :=
  ((((((h.setFar (p := ⟨H, 0, none⟩) n0 v0).setFar (p := ⟨H, 1, none⟩) n0 v1).setFar (p := ⟨H, 2, none⟩) n0 v2).setFar (p := ⟨H, 3, none⟩) n0 v3).setFar (p := ⟨H, 4, none⟩) n0 v4).setFar (p := ⟨H + 1, 0, none⟩) n1 p).setFar (p := ⟨H + 1, 1, none⟩) n1 q

theorem read_bad_at {s : ByteArray} : ∀ (f a : Nat) (l : List Rg) (c : Int) (k : Nat), a ≤ s.size → readGo s f a l = .bad c k → k ≤ s.size
  | 0, a, l, c, k, _, h => by
    rw [readGo] at h
    cases h
  | f + 1, a, l, c, k, hl, h => by
    rw [readGo] at h
    split at h
    · rename_i ha
      cases hs : sgnE s a with
      | err q =>
        rw [hs] at h
        cases h
        exact hl
      | sgn lo nx =>
        rw [hs] at h
        have h1 := sgnE_in ha hs
        simp only [] at h
        split at h
        · rename_i hd
          cases hs2 : sgnE s (nx + 1) with
          | err q =>
            rw [hs2] at h
            cases h
            omega
          | sgn hi n2 =>
            have h2 := sgnE_in hd.1 hs2
            rw [hs2] at h
            simp only [] at h
            split at h
            · cases h; exact hl
            · exact read_bad_at f n2 _ c k h2.2.2 h
        · exact read_bad_at f nx _ c k h1.2.2 h
    · cases h
theorem read_at {s : ByteArray} {c : Int} {k : Nat} (h : readE s = .bad c k) : k ≤ s.size := by
  unfold readE at h
  split at h
  · cases h; omega
  · exact read_bad_at _ _ _ _ _ (Nat.zero_le _) h

set_option maxHeartbeats 1000000 in
set_option maxRecDepth 100000 in
theorem classX_any (s : ByteArray) (hs : s.size ≤ 50000) (a : Nat) (ha : a < s.size) (W : World) (T : U8 W) : Calls Tryd.prog 91 #[.string s, .int .i64 (a : Int)] W fun e w' => NextP W a (classX s a) e w' := by
  have HU := Lib.hid (fun w => until_any s (by omega) (a + 1) 93 (by omega) w)
  have HTA := Lib.hid (two_allocs W)
  rw [show (((a + 1 : Nat)) : Int) = (a : Int) + 1 by omega] at HU
  obtain ⟨N, hN⟩ : ∃ N, classX s a = N := ⟨_, rfl⟩
  rw [hN]
  unfold classX at hN
  cases hu : untilE (txt s).b s.size 93 (s.size + 1) (a + 1) with
  | none =>
    rw [hu] at HU hN
    unfold untilV at HU
    clear hu
    subst hN
    go_enter Tryd.func91, Tryd.ntmps91
    go_wp2_with (go_at_call 126; refine (HU.out _).mono ?_; rintro e w' ⟨rfl, rfl⟩)
    refine bodyPost_ret (v := .tuple #[tokV 0 0 0 ⟨#[]⟩ (.slice none 0 0), stopV 10 a]) (by simp [results, Tryd.results91, go_sem, tokV, stopV]) rfl ?_
    exact ⟨rfl, HTA.out _ _⟩
  | some z =>
    rw [hu] at HU hN
    have HN := Lib.hid hN
    clear hN
    unfold untilV at HU
    have hin := untilE_in _ _ _ _ _ _ hu
    clear hu
    have hext := ext_size s (i := a + 1) (j := z) (by omega)
    have HR := Lib.hid (read_any (s.extract (a + 1) z) (by omega) _ (T.stay (HTA.out T0 S0)))
    have g1 : (0 : Int) ≤ (a : Int) + 1 := by omega
    have g2 : (a : Int) + 1 ≤ (z : Int) := by omega
    have g3 : (z : Int) ≤ (s.size : Int) := by omega
    have g4 : ¬ (z : Int) < 0 := by omega
    have g5 : decide ((z : Int) < 0) = false := decide_eq_false g4
    have g6 : ((a : Int) + 1).toNat = a + 1 := by omega
    clear T
    go_enter Tryd.func91, Tryd.ntmps91
    go_wp2_with (go_at_call 126; refine (HU.out _).mono ?_; rintro e w' ⟨rfl, rfl⟩)
    refine HR.out.mono ?_
    intro e w1 hread
    clear HR
    cases hrd : readE (s.extract (a + 1) z) with
    | bad c k =>
      rw [hrd] at hread
      obtain ⟨rfl, hb⟩ := hread
      have hEq : N = .bad c (a + 1 + k) := by
        have h := HN.out
        simp only [hrd] at h
        exact h.symm
      have EQ := Lib.hid hEq
      clear hEq HN
      have hc0 : (c != 0) = true := by simpa using bad_code hrd
      have hk := read_at hrd
      have hba : Below w1.heap.size w1 (w1.alloc (.cells #[.int .i64 c, .int .i64 (k : Int)] 48)) := (Below.refl _ _).alloc (Nat.le_refl _) _
      have hB := hb.trans (hba.mono hb.size)
      obtain ⟨b0, b1⟩ := tok_blocks (W := W) (by simpa using hB)
      have hbW := (HTA.out T0 S0).trans (hB.mono (HTA.out T0 S0).size)
      have HF := Lib.hid (fun v0 v1 v2 v3 v4 p q => (put7_below hbW v0 v1 v2 v3 v4 p q).drew)
      have he0 : (w1.alloc (.cells #[.int .i64 c, .int .i64 (k : Int)] 48)).cell? ⟨w1.heap.size, 0, none⟩ = some (.int .i64 c) := by simp only [World.cell?, heap_alloc_new]; rfl
      have he1 : (w1.alloc (.cells #[.int .i64 c, .int .i64 (k : Int)] 48)).cell? ⟨w1.heap.size, 1, none⟩ = some (.int .i64 (k : Int)) := by simp only [World.cell?, heap_alloc_new]; rfl
      unfold stopV
      have hsz1 : W.heap.size + 2 ≤ w1.heap.size := by have := hb.size; simpa using this
      have q1 : (a : Int) + 1 + (k : Int) ≤ 9223372036854775807 := by omega
      clear hrd hb hba hB hbW
      go_upto_region 6 with fail
      generalize (w1.alloc (.cells #[.int .i64 c, .int .i64 (k : Int)] 48)) = w2 at *
      have c0 : w2.cell? ⟨W.heap.size, 0, none⟩ = some (.int .i64 0) := by rw [Lib.cell_of_heap b0]; rfl
      have c1 : w2.cell? ⟨W.heap.size, 1, none⟩ = some (.int .i64 0) := by rw [Lib.cell_of_heap b0]; rfl
      have c2 : w2.cell? ⟨W.heap.size, 2, none⟩ = some (.int .i64 0) := by rw [Lib.cell_of_heap b0]; rfl
      have c3 : w2.cell? ⟨W.heap.size, 3, none⟩ = some (.string ⟨#[]⟩) := by rw [Lib.cell_of_heap b0]; rfl
      have c4 : w2.cell? ⟨W.heap.size, 4, none⟩ = some (.slice none 0 0) := by rw [Lib.cell_of_heap b0]; rfl
      have c5 : w2.cell? ⟨W.heap.size + 1, 0, none⟩ = some (.int .i64 0) := by rw [Lib.cell_of_heap b1]; rfl
      have c6 : w2.cell? ⟨W.heap.size + 1, 1, none⟩ = some (.int .i64 0) := by rw [Lib.cell_of_heap b1]; rfl
      have f0 := Lib.frozen_of_heap b0 0
      have f1 := Lib.frozen_of_heap b0 1
      have f2 := Lib.frozen_of_heap b0 2
      have f3 := Lib.frozen_of_heap b0 3
      have f4 := Lib.frozen_of_heap b0 4
      have f5 := Lib.frozen_of_heap b1 0
      have f6 := Lib.frozen_of_heap b1 1
      clear b0 b1
      go_region
      go_wp2
      refine bodyPost_ret (v := .tuple #[tokV 0 0 0 ⟨#[]⟩ (.slice none 0 0), stopV c (a + 1 + k)]) (by rw [show stopV c (a + 1 + k) = .agg #[.int .i64 c, .int .i64 ((a : Int) + 1 + (k : Int))] by simp only [stopV]; rw [show ((a + 1 + k : Nat) : Int) = (a : Int) + 1 + (k : Int) by omega]]; simp [results, Tryd.results91, go_sem, tokV, c0, c1, c2, c3, c4, c5, c6]) rfl ?_
      rw [EQ.out]
      exact ⟨rfl, HF.out _ _ _ _ _ _ _⟩
    | good l =>
      rw [hrd] at hread
      obtain ⟨v, O, rfl, hr, hof, hol, hb⟩ := hread
      obtain ⟨A, cap, rfl⟩ := hr.form
      have hEq : N = .tok 4 (z + 1) ⟨#[]⟩ (some l) := by
        have h := HN.out
        simp only [hrd] at h
        exact h.symm
      have EQ := Lib.hid hEq
      clear hEq HN
      have hba : Below w1.heap.size w1 (w1.alloc (.cells #[.int .i64 0, .int .i64 0] 48)) := (Below.refl _ _).alloc (Nat.le_refl _) _
      have hB := hb.trans (hba.mono hb.size)
      obtain ⟨b0, b1⟩ := tok_blocks (W := W) (by simpa using hB)
      have hbW := (HTA.out T0 S0).trans (hB.mono (HTA.out T0 S0).size)
      have HF := Lib.hid (put7_below hbW)
      have he0 : (w1.alloc (.cells #[.int .i64 0, .int .i64 0] 48)).cell? ⟨w1.heap.size, 0, none⟩ = some (.int .i64 0) := by simp only [World.cell?, heap_alloc_new]; rfl
      have hr2 := hr.stay hba
      have n0 : (Value.slice A O.length cap).ownBlock ≠ some W.heap.size := fun h => by have := (hr2.lt _ h).1; simp at this; omega
      have n1 : (Value.slice A O.length cap).ownBlock ≠ some (W.heap.size + 1) := fun h => by have := (hr2.lt _ h).1; simp at this; omega
      have hlow : W.heap.size ≤ ((W.alloc T0).alloc S0).heap.size := by simp; omega
      have HRW := Lib.hid (put7_row (hr2.low hlow) n0 n1)
      have HOF := Lib.hid hof
      unfold stopV
      have hsz1 : W.heap.size + 2 ≤ w1.heap.size := by have := hb.size; simpa using this
      have q1 : (z : Int) + 1 ≤ 9223372036854775807 := by omega
      clear hrd hb hba hB hbW hr hr2 n0 n1 hof hlow
      go_upto_region 5 with fail
      generalize (w1.alloc (.cells #[.int .i64 0, .int .i64 0] 48)) = w2 at *
      have c0 : w2.cell? ⟨W.heap.size, 0, none⟩ = some (.int .i64 0) := by rw [Lib.cell_of_heap b0]; rfl
      have c1 : w2.cell? ⟨W.heap.size, 1, none⟩ = some (.int .i64 0) := by rw [Lib.cell_of_heap b0]; rfl
      have c2 : w2.cell? ⟨W.heap.size, 2, none⟩ = some (.int .i64 0) := by rw [Lib.cell_of_heap b0]; rfl
      have c3 : w2.cell? ⟨W.heap.size, 3, none⟩ = some (.string ⟨#[]⟩) := by rw [Lib.cell_of_heap b0]; rfl
      have c4 : w2.cell? ⟨W.heap.size, 4, none⟩ = some (.slice none 0 0) := by rw [Lib.cell_of_heap b0]; rfl
      have c5 : w2.cell? ⟨W.heap.size + 1, 0, none⟩ = some (.int .i64 0) := by rw [Lib.cell_of_heap b1]; rfl
      have c6 : w2.cell? ⟨W.heap.size + 1, 1, none⟩ = some (.int .i64 0) := by rw [Lib.cell_of_heap b1]; rfl
      have f0 := Lib.frozen_of_heap b0 0
      have f1 := Lib.frozen_of_heap b0 1
      have f2 := Lib.frozen_of_heap b0 2
      have f3 := Lib.frozen_of_heap b0 3
      have f4 := Lib.frozen_of_heap b0 4
      have f5 := Lib.frozen_of_heap b1 0
      have f6 := Lib.frozen_of_heap b1 1
      clear b0 b1
      go_wp2
      refine bodyPost_ret (v := .tuple #[tokV 4 a (z + 1) ⟨#[]⟩ (.slice A O.length cap), stopV 0 0]) (by rw [show tokV 4 a (z + 1) ⟨#[]⟩ (.slice A O.length cap) = .agg #[.int .i64 4, .int .i64 (a : Int), .int .i64 ((z : Int) + 1), .string ⟨#[]⟩, .slice A O.length cap] by simp only [tokV]; rw [show ((z + 1 : Nat) : Int) = (z : Int) + 1 by omega]]; simp [results, Tryd.results91, go_sem, stopV, c0, c1, c2, c3, c4, c5, c6]) rfl ?_
      rw [EQ.out]
      refine ⟨_, rfl, ⟨O, ?_, HOF.out, hol⟩, ?_⟩
      · exact HRW.out _ _ _ _ _ _ _
      · exact HF.out _ _ _ _ _ _ _

end Go.Proofs.YtfjlhfalnciamaaDoor.Lex
