/- Package texts, merged: LexE, LexF, LexG, LexH, LexI. -/
import Derived.Test.YtfjlhfalnciamaaDoorMLexA
import Derived.Test.YtfjlhfalnciamaaDoorMBackW
import Derived.Shelf.Utf8.AppendRunePlain
import Derived.Test.YtfjlhfalnciamaaDoorMUtf
import Derived.Lib.QuoteLoop

namespace Go.Proofs.YtfjlhfalnciamaaDoor.Lex
open Go Go.RowKit Go.Proofs.Chars
open Go.Proofs.YtfjlhfalnciamaaDoor.Utf Go.Proofs.YtfjlhfalnciamaaDoor.Chars

/-- What is stored into the two results of a part. -/
def put7 (wx : World) (H : Nat) (v0 v1 v2 v3 v4 p q : Value) : World :=
  ((((((wx.setCell ⟨H, 0, none⟩ v0).setCell ⟨H, 1, none⟩ v1).setCell ⟨H, 2, none⟩ v2).setCell ⟨H, 3, none⟩ v3).setCell ⟨H, 4, none⟩ v4).setCell ⟨H + 1, 0, none⟩ p).setCell ⟨H + 1, 1, none⟩ q
theorem put7_below {W wx : World} (hB : Below W.heap.size W wx) (v0 v1 v2 v3 v4 p q : Value) : Below W.heap.size W (put7 wx W.heap.size v0 v1 v2 v3 v4 p q) :=
  ((((((hB.setCell (p := ⟨W.heap.size, 0, none⟩) (Nat.le_refl _) _).setCell (p := ⟨W.heap.size, 1, none⟩) (Nat.le_refl _) _).setCell (p := ⟨W.heap.size, 2, none⟩) (Nat.le_refl _) _).setCell (p := ⟨W.heap.size, 3, none⟩) (Nat.le_refl _) _).setCell (p := ⟨W.heap.size, 4, none⟩) (Nat.le_refl _) _).setCell (p := ⟨W.heap.size + 1, 0, none⟩) (Nat.le_succ _) _).setCell (p := ⟨W.heap.size + 1, 1, none⟩) (Nat.le_succ _) _
theorem put7_row {wx : World} {S H : Nat} {v : Value} {O : List Rg} (h : Rowed wx S v O) (n0 : v.ownBlock ≠ some H) (n1 : v.ownBlock ≠ some (H + 1)) (v0 v1 v2 v3 v4 p q : Value) : Rowed (put7 wx H v0 v1 v2 v3 v4 p q) S v O :=
  ((((((h.setFar (p := ⟨H, 0, none⟩) n0 v0).setFar (p := ⟨H, 1, none⟩) n0 v1).setFar (p := ⟨H, 2, none⟩) n0 v2).setFar (p := ⟨H, 3, none⟩) n0 v3).setFar (p := ⟨H, 4, none⟩) n0 v4).setFar (p := ⟨H + 1, 0, none⟩) n1 p).setFar (p := ⟨H + 1, 1, none⟩) n1 q

theorem read_bad_at {s : ByteArray} : ∀ (f a : Nat) (l : List Rg) (c : Int) (k : Nat), a ≤ s.size → readGo s f a l = .bad c k → k ≤ s.size
  | 0, a, l, c, k, _, h => by
    rw [readGo] at h
    cases h
  | f + 1, a, l, c, k, hl, h => by
    rw [readGo] at h
    split at h
    · rename_i ha
      cases hs : sgnE s a with
      | err q =>
        rw [hs] at h
        cases h
        exact hl
      | sgn lo nx =>
        rw [hs] at h
        have h1 := sgnE_in ha hs
        simp only [] at h
        split at h
        · rename_i hd
          cases hs2 : sgnE s (nx + 1) with
          | err q =>
            rw [hs2] at h
            cases h
            omega
          | sgn hi n2 =>
            have h2 := sgnE_in hd.1 hs2
            rw [hs2] at h
            simp only [] at h
            split at h
            · cases h; exact hl
            · exact read_bad_at f n2 _ c k h2.2.2 h
        · exact read_bad_at f nx _ c k h1.2.2 h
    · cases h
theorem read_at {s : ByteArray} {c : Int} {k : Nat} (h : readE s = .bad c k) : k ≤ s.size := by
  unfold readE at h
  split at h
  · cases h; omega
  · exact read_bad_at _ _ _ _ _ (Nat.zero_le _) h

set_option maxHeartbeats 1000000 in
set_option maxRecDepth 100000 in
theorem classX_any (s : ByteArray) (hs : s.size ≤ 50000) (a : Nat) (ha : a < s.size) (W : World) (T : U8 W) : Calls Tryd.prog 91 #[.string s, .int .i64 (a : Int)] W fun e w' => NextP W a (classX s a) e w' := by
  have HU := Lib.hid (fun w => until_any s (by omega) (a + 1) 93 (by omega) w)
  have HTA := Lib.hid (two_allocs W)
  rw [show (((a + 1 : Nat)) : Int) = (a : Int) + 1 by omega] at HU
  obtain ⟨N, hN⟩ : ∃ N, classX s a = N := ⟨_, rfl⟩
  rw [hN]
  unfold classX at hN
  cases hu : untilE (txt s).b s.size 93 (s.size + 1) (a + 1) with
  | none =>
    rw [hu] at HU hN
    unfold untilV at HU
    clear hu
    subst hN
    go_enter Tryd.func91, Tryd.ntmps91
    go_wp2_with (go_at_call 126; refine (HU.out _).mono ?_; rintro e w' ⟨rfl, rfl⟩)
    refine bodyPost_ret (v := .tuple #[tokV 0 0 0 ⟨#[]⟩ (.slice none 0 0), stopV 10 a]) (by simp [results, Tryd.results91, go_sem, tokV, stopV]) rfl ?_
    exact ⟨rfl, HTA.out _ _⟩
  | some z =>
    rw [hu] at HU hN
    have HN := Lib.hid hN
    clear hN
    unfold untilV at HU
    have hin := untilE_in _ _ _ _ _ _ hu
    clear hu
    have hext := ext_size s (i := a + 1) (j := z) (by omega)
    have HR := Lib.hid (read_any (s.extract (a + 1) z) (by omega) _ (T.stay (HTA.out T0 S0)))
    have g1 : (0 : Int) ≤ (a : Int) + 1 := by omega
    have g2 : (a : Int) + 1 ≤ (z : Int) := by omega
    have g3 : (z : Int) ≤ (s.size : Int) := by omega
    have g4 : ¬ (z : Int) < 0 := by omega
    have g5 : decide ((z : Int) < 0) = false := decide_eq_false g4
    have g6 : ((a : Int) + 1).toNat = a + 1 := by omega
    clear T
    go_enter Tryd.func91, Tryd.ntmps91
    go_wp2_with (go_at_call 126; refine (HU.out _).mono ?_; rintro e w' ⟨rfl, rfl⟩)
    refine HR.out.mono ?_
    intro e w1 hread
    clear HR
    cases hrd : readE (s.extract (a + 1) z) with
    | bad c k =>
      rw [hrd] at hread
      obtain ⟨rfl, hb⟩ := hread
      have hEq : N = .bad c (a + 1 + k) := by
        have h := HN.out
        simp only [hrd] at h
        exact h.symm
      have EQ := Lib.hid hEq
      clear hEq HN
      have hc0 : (c != 0) = true := by simpa using bad_code hrd
      have hk := read_at hrd
      have hba : Below w1.heap.size w1 (w1.alloc (.cells #[.int .i64 c, .int .i64 (k : Int)] 48)) := (Below.refl _ _).alloc (Nat.le_refl _) _
      have hB := hb.trans (hba.mono hb.size)
      obtain ⟨b0, b1⟩ := tok_blocks (W := W) (by simpa using hB)
      have hbW := (HTA.out T0 S0).trans (hB.mono (HTA.out T0 S0).size)
      have HF := Lib.hid (fun v0 v1 v2 v3 v4 p q => (put7_below hbW v0 v1 v2 v3 v4 p q).drew)
      have he0 : (w1.alloc (.cells #[.int .i64 c, .int .i64 (k : Int)] 48)).cell? ⟨w1.heap.size, 0, none⟩ = some (.int .i64 c) := by simp only [World.cell?, heap_alloc_new]; rfl
      have he1 : (w1.alloc (.cells #[.int .i64 c, .int .i64 (k : Int)] 48)).cell? ⟨w1.heap.size, 1, none⟩ = some (.int .i64 (k : Int)) := by simp only [World.cell?, heap_alloc_new]; rfl
      unfold stopV
      have hsz1 : W.heap.size + 2 ≤ w1.heap.size := by have := hb.size; simpa using this
      have q1 : (a : Int) + 1 + (k : Int) ≤ 9223372036854775807 := by omega
      clear hrd hb hba hB hbW
      go_upto_region 6 with fail
      generalize (w1.alloc (.cells #[.int .i64 c, .int .i64 (k : Int)] 48)) = w2 at *
      have c0 : w2.cell? ⟨W.heap.size, 0, none⟩ = some (.int .i64 0) := by rw [Lib.cell_of_heap b0]; rfl
      have c1 : w2.cell? ⟨W.heap.size, 1, none⟩ = some (.int .i64 0) := by rw [Lib.cell_of_heap b0]; rfl
      have c2 : w2.cell? ⟨W.heap.size, 2, none⟩ = some (.int .i64 0) := by rw [Lib.cell_of_heap b0]; rfl
      have c3 : w2.cell? ⟨W.heap.size, 3, none⟩ = some (.string ⟨#[]⟩) := by rw [Lib.cell_of_heap b0]; rfl
      have c4 : w2.cell? ⟨W.heap.size, 4, none⟩ = some (.slice none 0 0) := by rw [Lib.cell_of_heap b0]; rfl
      have c5 : w2.cell? ⟨W.heap.size + 1, 0, none⟩ = some (.int .i64 0) := by rw [Lib.cell_of_heap b1]; rfl
      have c6 : w2.cell? ⟨W.heap.size + 1, 1, none⟩ = some (.int .i64 0) := by rw [Lib.cell_of_heap b1]; rfl
      have f0 := Lib.frozen_of_heap b0 0
      have f1 := Lib.frozen_of_heap b0 1
      have f2 := Lib.frozen_of_heap b0 2
      have f3 := Lib.frozen_of_heap b0 3
      have f4 := Lib.frozen_of_heap b0 4
      have f5 := Lib.frozen_of_heap b1 0
      have f6 := Lib.frozen_of_heap b1 1
      clear b0 b1
      go_region
      go_wp2
      refine bodyPost_ret (v := .tuple #[tokV 0 0 0 ⟨#[]⟩ (.slice none 0 0), stopV c (a + 1 + k)]) (by rw [show stopV c (a + 1 + k) = .agg #[.int .i64 c, .int .i64 ((a : Int) + 1 + (k : Int))] by simp only [stopV]; rw [show ((a + 1 + k : Nat) : Int) = (a : Int) + 1 + (k : Int) by omega]]; simp [results, Tryd.results91, go_sem, tokV, c0, c1, c2, c3, c4, c5, c6]) rfl ?_
      rw [EQ.out]
      exact ⟨rfl, HF.out _ _ _ _ _ _ _⟩
    | good l =>
      rw [hrd] at hread
      obtain ⟨v, O, rfl, hr, hof, hol, hb⟩ := hread
      obtain ⟨A, cap, rfl⟩ := hr.form
      have hEq : N = .tok 4 (z + 1) ⟨#[]⟩ (some l) := by
        have h := HN.out
        simp only [hrd] at h
        exact h.symm
      have EQ := Lib.hid hEq
      clear hEq HN
      have hba : Below w1.heap.size w1 (w1.alloc (.cells #[.int .i64 0, .int .i64 0] 48)) := (Below.refl _ _).alloc (Nat.le_refl _) _
      have hB := hb.trans (hba.mono hb.size)
      obtain ⟨b0, b1⟩ := tok_blocks (W := W) (by simpa using hB)
      have hbW := (HTA.out T0 S0).trans (hB.mono (HTA.out T0 S0).size)
      have HF := Lib.hid (put7_below hbW)
      have he0 : (w1.alloc (.cells #[.int .i64 0, .int .i64 0] 48)).cell? ⟨w1.heap.size, 0, none⟩ = some (.int .i64 0) := by simp only [World.cell?, heap_alloc_new]; rfl
      have hr2 := hr.stay hba
      have n0 : (Value.slice A O.length cap).ownBlock ≠ some W.heap.size := fun h => by have := (hr2.lt _ h).1; simp at this; omega
      have n1 : (Value.slice A O.length cap).ownBlock ≠ some (W.heap.size + 1) := fun h => by have := (hr2.lt _ h).1; simp at this; omega
      have hlow : W.heap.size ≤ ((W.alloc T0).alloc S0).heap.size := by simp; omega
      have HRW := Lib.hid (put7_row (hr2.low hlow) n0 n1)
      have HOF := Lib.hid hof
      unfold stopV
      have hsz1 : W.heap.size + 2 ≤ w1.heap.size := by have := hb.size; simpa using this
      have q1 : (z : Int) + 1 ≤ 9223372036854775807 := by omega
      clear hrd hb hba hB hbW hr hr2 n0 n1 hof hlow
      go_upto_region 5 with fail
      generalize (w1.alloc (.cells #[.int .i64 0, .int .i64 0] 48)) = w2 at *
      have c0 : w2.cell? ⟨W.heap.size, 0, none⟩ = some (.int .i64 0) := by rw [Lib.cell_of_heap b0]; rfl
      have c1 : w2.cell? ⟨W.heap.size, 1, none⟩ = some (.int .i64 0) := by rw [Lib.cell_of_heap b0]; rfl
      have c2 : w2.cell? ⟨W.heap.size, 2, none⟩ = some (.int .i64 0) := by rw [Lib.cell_of_heap b0]; rfl
      have c3 : w2.cell? ⟨W.heap.size, 3, none⟩ = some (.string ⟨#[]⟩) := by rw [Lib.cell_of_heap b0]; rfl
      have c4 : w2.cell? ⟨W.heap.size, 4, none⟩ = some (.slice none 0 0) := by rw [Lib.cell_of_heap b0]; rfl
      have c5 : w2.cell? ⟨W.heap.size + 1, 0, none⟩ = some (.int .i64 0) := by rw [Lib.cell_of_heap b1]; rfl
      have c6 : w2.cell? ⟨W.heap.size + 1, 1, none⟩ = some (.int .i64 0) := by rw [Lib.cell_of_heap b1]; rfl
      have f0 := Lib.frozen_of_heap b0 0
      have f1 := Lib.frozen_of_heap b0 1
      have f2 := Lib.frozen_of_heap b0 2
      have f3 := Lib.frozen_of_heap b0 3
      have f4 := Lib.frozen_of_heap b0 4
      have f5 := Lib.frozen_of_heap b1 0
      have f6 := Lib.frozen_of_heap b1 1
      clear b0 b1
      go_wp2
      refine bodyPost_ret (v := .tuple #[tokV 4 a (z + 1) ⟨#[]⟩ (.slice A O.length cap), stopV 0 0]) (by rw [show tokV 4 a (z + 1) ⟨#[]⟩ (.slice A O.length cap) = .agg #[.int .i64 4, .int .i64 (a : Int), .int .i64 ((z : Int) + 1), .string ⟨#[]⟩, .slice A O.length cap] by simp only [tokV]; rw [show ((z + 1 : Nat) : Int) = (z : Int) + 1 by omega]]; simp [results, Tryd.results91, go_sem, stopV, c0, c1, c2, c3, c4, c5, c6]) rfl ?_
      rw [EQ.out]
      refine ⟨_, rfl, ⟨O, ?_, HOF.out, hol⟩, ?_⟩
      · exact HRW.out _ _ _ _ _ _ _
      · exact HF.out _ _ _ _ _ _ _

end Go.Proofs.YtfjlhfalnciamaaDoor.Lex

namespace Go.Proofs.YtfjlhfalnciamaaDoor.Utf
open Go Go.RowKit Go.Shelf

def lays242_ren : Go.Shelf.Ren := ⟨fun | 242 => 149 | 278 => 161 | n => n, fun | 4 => 4 | 5 => 5 | 21 => 21 | 37 => 97 | 46 => 130 | 51 => 164 | n => n, fun | n => n⟩
set_option maxRecDepth 100000 in
theorem lays242 : Go.Proofs.Lays.n242 Tryd.prog lays242_ren := {
  mixed := by kernel_rfl
  f242 := Tryd.func149.trans (congrArg some (by kernel_rfl))
  f278 := Tryd.func161.trans (congrArg some (by kernel_rfl))
  t4 := Tryd.underlying4
  a4 := Tryd.isAgg4
  z4 := Tryd.sizeOf4
  v4 := Tryd.zeroValue4
  t5 := Tryd.underlying5
  a5 := Tryd.isAgg5
  z5 := Tryd.sizeOf5
  v5 := Tryd.zeroValue5
  t21 := Tryd.underlying21
  a21 := Tryd.isAgg21
  z21 := Tryd.sizeOf21
  v21 := Tryd.zeroValue21
  t37 := Tryd.underlying97
  a37 := Tryd.isAgg97
  z37 := Tryd.sizeOf97
  v37 := Tryd.zeroValue97
  t46 := Tryd.underlying130
  a46 := Tryd.isAgg130
  z46 := Tryd.sizeOf130
  v46 := Tryd.zeroValue130
  t51 := Tryd.underlying164
  a51 := Tryd.isAgg164
  z51 := Tryd.sizeOf164
  v51 := Tryd.zeroValue164 }
theorem append_rune (B : Nat) (v : Value) (n : Nat) (xs : List Value) (r : Int) (hr0 : -2147483648 ≤ r) (hr1 : r ≤ 2147483647) (w : World) (hown : w.ownsRow B 5 1 v n xs) (hlen : n + 4 ≤ 140737488355328) (hBw : B ≤ w.heap.size) :
    Calls Tryd.prog 149 #[v, .int .i32 r] w fun e w' => ∃ v', e = .returned v' ∧ w'.ownsRow B 5 1 v' (n + (Lib.runeCells r).length) (xs ++ Lib.runeCells r) ∧ ∃ o, (w.alloc o).grownBy w' v.ownBlock :=
  Any.utf8_AppendRune_plain lays242 infoU8 B v n xs r hr0 hr1 w hown hlen hBw

theorem enc_rune (r : Int) (hv : Lib.validRune r = true) : (encB r).data.toList = Lib.encodeRune r := by
  have h := (valid_iff r).1 hv
  obtain ⟨n, rfl⟩ := Int.eq_ofNat_of_zero_le (show 0 ≤ r by omega)
  have hinj : ∀ x y : UInt8, x.toNat = y.toNat → x = y := fun x y => UInt8.toNat_inj.1
  rw [← List.map_inj_right (f := UInt8.toNat) hinj, encB_nat]
  unfold encN Lib.encodeRune Lib.encodeRuneZ
  repeat' split
  all_goals first | omega | skip
  all_goals simp
  all_goals omega

set_option maxRecDepth 100000 in
/-- A sign's bytes are written behind what a builder holds. -/
theorem rune_any (B b : Nat) (l : List UInt8) (r : Int) (hv : Lib.validRune r = true) (w : World) (h : Lib.IsBuilder 99 5 B b (Lib.byteCells l) w) (hlen : l.length ≤ 100000000) (hBw : B ≤ w.heap.size) :
    Calls Tryd.prog 127 #[.pointer (some ⟨b, 0, none⟩), .int .i32 r] w fun e w' => ∃ x, e = .returned x ∧ (Lib.BuilderAt 99 5 B b (.pointer (some ⟨b, 0, none⟩)) (Lib.byteCells (l ++ (encB r).data.toList)) w' ∧ Below B w w') ∧ Lib.OthersKept 5 (some b) w w' := by
  have hvi := (valid_iff r).1 hv
  have hcells : Lib.byteCells (l ++ (encB r).data.toList) = Lib.byteCells l ++ Lib.runeCells r := by
    rw [enc_rune r hv, ← Lib.byteCells_encodeRune]; simp [Lib.byteCells]
  have hbl : (Lib.byteCells l).length = l.length := by simp [Lib.byteCells]
  have hrl := Lib.encodeRuneZ_length_le r
  have hrl2 : (Lib.runeCells r).length = (Lib.encodeRuneZ r).length := by simp [Lib.runeCells]
  rw [hcells]
  clear hcells
  generalize Lib.byteCells l = bs at h hbl ⊢
  have hlen2 : bs.length ≤ 100000000 := by omega
  clear hbl hlen
  have HC := Lib.hid (check_any B b bs w h)
  have nb5 : (99 : TypeId) ≠ 5 := by decide
  clear h
  go_enter Tryd.func127, Tryd.ntmps127
  go_wp2_with fail
  refine HC.out.mono ?_
  rintro e w1 ⟨rfl, ⟨⟨hB, v, hbk, hown, hne⟩, hb1⟩, hok⟩
  have c0 : w1.cell? ⟨b, 0, none⟩ = some (.pointer (some ⟨b, 0, none⟩)) := by rw [Lib.cell_of_heap hbk]; rfl
  obtain ⟨A, cap, rfl⟩ : ∃ A cap, v = .slice A bs.length cap := by
    rcases hown.2 with ⟨hv, hn⟩ | ⟨g, cap, cur, hv, _⟩
    · exact ⟨none, 0, by rw [hv, hn]⟩
    · exact ⟨_, _, hv⟩
  have c1 : w1.cell? ⟨b, 1, none⟩ = some (.slice A bs.length cap) := by rw [Lib.cell_of_heap hbk]; rfl
  have hlt : b < w1.heap.size := by
    rcases Nat.lt_or_ge b w1.heap.size with h' | h'
    · exact h'
    · simp [Array.getElem?_eq_none h'] at hbk
  have hsz1 := hb1.size
  have HBK := Lib.hid hbk
  have HNE := Lib.hid hne
  have HB1 := Lib.hid hb1
  have HOK := Lib.hid hok
  have HOW := Lib.hid hown
  have HA := Lib.hid (append_rune B (.slice A bs.length cap) bs.length bs r (by omega) (by omega) w1 hown (by omega) (by omega))
  clear hbk hne hb1 hok hown HC
  go_wp2_with fail
  refine HA.out.mono ?_
  rintro e w2 ⟨v', rfl, hown', o, hgrow⟩
  have hb2 : w2.heap[b]? = some (.cells #[.pointer (some ⟨b, 0, none⟩), .slice A bs.length cap] 99 (0, 0)) := by
    rw [hgrow.block b (by simp; omega) (fun e => HNE.out e.symm)]
    exact (Below.heap_alloc w1 _ b hlt).trans HBK.out
  have d0 : w2.cell? ⟨b, 0, none⟩ = some (.pointer (some ⟨b, 0, none⟩)) := by rw [Lib.cell_of_heap hb2]; rfl
  have d1 : w2.cell? ⟨b, 1, none⟩ = some (.slice A bs.length cap) := by rw [Lib.cell_of_heap hb2]; rfl
  have f1 : w2.frozen? ⟨b, 1, none⟩ = false := Lib.frozen_of_heap hb2 1
  obtain ⟨ao, cap', rfl⟩ : ∃ ao cap', v' = .slice ao (bs.length + (Lib.runeCells r).length) cap' := by
    rcases hown'.2 with ⟨hv, hn⟩ | ⟨g, cap, cur, hv, _⟩
    · exact ⟨none, 0, by rw [hv, hn]⟩
    · exact ⟨_, _, hv⟩
  obtain ⟨m, hm⟩ : ∃ m, bs.length + (Lib.runeCells r).length = m := ⟨_, rfl⟩
  have hml : (bs ++ Lib.runeCells r).length = m := by rw [List.length_append, hm]
  rw [hm] at hown' ⊢
  have P1 := Lib.hid (Lib.BuilderAt.put (T := 99) (e := 5) hB hb2 (bs' := bs ++ Lib.runeCells r) (by rw [hml]; exact hown') nb5)
  have P2 := Lib.hid (((HB1.out.alloc (by omega) _).grown hgrow (by simp; omega) (fun k hk => (HOW.out.lt k hk).1)).setCell (p := ⟨b, 1, none⟩) hB (.slice ao m cap'))
  have P3 := Lib.hid (((HOK.out.alloc _).grown hgrow (fun g hg => by
    rcases HOW.out.2 with ⟨hv, _⟩ | ⟨g', cap'', cur, hv, _, h3, _⟩
    · rw [hv] at hg; cases hg
    · rw [hv] at hg; cases hg; exact ⟨_, _, (Below.heap_alloc w1 _ g' (Array.getElem?_eq_some_iff.1 h3).1).trans h3⟩)).setCell ⟨b, 1, none⟩ rfl (.slice ao m cap'))
  clear hb2 hown' hgrow HA
  go_wp2
  go_ret2
  exact ⟨_, rfl, ⟨P1.out, P2.out⟩, P3.out⟩

end Go.Proofs.YtfjlhfalnciamaaDoor.Utf

namespace Go.Proofs.YtfjlhfalnciamaaDoor.Lex
open Go Go.RowKit Go.Proofs.Chars
open Go.Proofs.YtfjlhfalnciamaaDoor.Utf Go.Proofs.YtfjlhfalnciamaaDoor.Chars

inductive Lt where
  | bad (c : Int) (p : Nat) : Lt
  | good (l : List UInt8) : Lt
/-- What a literal says, from a place on up to where it ends. -/
def litGo (s : ByteArray) (z : Nat) : Nat → Nat → List UInt8 → Lt
  | 0, _, l => .good l
  | f + 1, p, l =>
    if p < z then
      if (txt s).ok p = false ∨ (txt s).r p = 10 then .bad 11 p
      else if (txt s).r p ≠ 92 then litGo s z f (p + (txt s).w p) (l ++ (s.extract p (p + (txt s).w p)).data.toList)
      else match escE (txt (s.extract (p + 1) z)).b (s.extract (p + 1) z).size with
        | none => .bad 12 p
        | some (r, n) => litGo s z f (p + 1 + n) (l ++ (encB r).data.toList)
    else .good l
def litX (s : ByteArray) (a : Nat) : Nx :=
  match untilE (txt s).b s.size 39 (s.size + 1) (a + 1) with
  | none => .bad 10 a
  | some z =>
    match litGo s z (s.size + 1) (a + 1) [] with
    | .bad c p => .bad c p
    | .good l => if l = [] then .bad 14 a else .tok 3 (z + 1) ⟨l.toArray⟩ none
abbrev B0 : Obj := .cells #[.pointer none, .slice none 0 0] 99
/-- What the scan of a literal keeps. -/
def Liting (W : World) (l : List UInt8) (wx : World) : Prop :=
  Lib.IsBuilder 99 5 (W.heap.size + 2) (W.heap.size + 2) (Lib.byteCells l) wx ∧ Below (W.heap.size + 2) ((W.alloc T0).alloc S0) wx
theorem Liting.stay {W wx w' : World} {l : List UInt8} (h : Liting W l wx) (hb : Below wx.heap.size wx w') : Liting W l w' :=
  ⟨builder_stay h.1 hb, h.2.trans (hb.mono (by have := h.2.size; simpa using this))⟩
theorem Liting.wrote {W wx w' : World} {l l' : List UInt8} (h : Liting W l wx) (hn : Lib.BuilderAt 99 5 (W.heap.size + 2) (W.heap.size + 2) (.pointer (some ⟨W.heap.size + 2, 0, none⟩)) (Lib.byteCells l') w') (hb : Below (W.heap.size + 2) wx w') : Liting W l' w' :=
  ⟨.inr hn, h.2.trans hb⟩
theorem Liting.start (W : World) : Liting W [] (((W.alloc T0).alloc S0).alloc B0) := by
  have hsz : ((W.alloc T0).alloc S0).heap.size = W.heap.size + 2 := by simp
  refine ⟨.inl ⟨Nat.le_refl _, .slice none 0 0, ?_, ⟨rfl, .inl ⟨rfl, rfl⟩⟩, by simp [Value.ownBlock]⟩, ?_⟩
  · have h := heap_alloc_new ((W.alloc T0).alloc S0) B0
    rw [hsz] at h
    exact h
  · exact (Below.refl _ _).alloc (by rw [hsz]; exact Nat.le_refl _) _
theorem liting_w {W wx : World} {l : List UInt8} (h : Liting W l wx) : Below W.heap.size W wx :=
  (two_allocs W T0 S0).trans (h.2.mono (by omega))
theorem liting_size {W wx : World} {l : List UInt8} (h : Liting W l wx) : W.heap.size + 2 ≤ wx.heap.size := by
  have := h.2.size; simpa using this
theorem byteCells_nil {l : List UInt8} : (Lib.byteCells l).length = l.length := by simp [Lib.byteCells]

/-- What stands in the two results while nothing is stored. -/
theorem tok_cells {H : Nat} {wx : World} (b0 : wx.heap[H]? = some (.cells #[.int .i64 0, .int .i64 0, .int .i64 0, .string ⟨#[]⟩, .slice none 0 0] 62 (0, 0))) (b1 : wx.heap[H + 1]? = some (.cells #[.int .i64 0, .int .i64 0] 48 (0, 0))) :
    (wx.cell? ⟨H, 0, none⟩ = some (.int .i64 0) ∧ wx.cell? ⟨H, 1, none⟩ = some (.int .i64 0) ∧ wx.cell? ⟨H, 2, none⟩ = some (.int .i64 0) ∧ wx.cell? ⟨H, 3, none⟩ = some (.string ⟨#[]⟩) ∧ wx.cell? ⟨H, 4, none⟩ = some (.slice none 0 0) ∧ wx.cell? ⟨H + 1, 0, none⟩ = some (.int .i64 0) ∧ wx.cell? ⟨H + 1, 1, none⟩ = some (.int .i64 0)) ∧
    wx.frozen? ⟨H, 0, none⟩ = false ∧ wx.frozen? ⟨H, 1, none⟩ = false ∧ wx.frozen? ⟨H, 2, none⟩ = false ∧ wx.frozen? ⟨H, 3, none⟩ = false ∧ wx.frozen? ⟨H, 4, none⟩ = false ∧ wx.frozen? ⟨H + 1, 0, none⟩ = false ∧ wx.frozen? ⟨H + 1, 1, none⟩ = false := by
  refine ⟨⟨?_, ?_, ?_, ?_, ?_, ?_, ?_⟩, Lib.frozen_of_heap b0 0, Lib.frozen_of_heap b0 1, Lib.frozen_of_heap b0 2, Lib.frozen_of_heap b0 3, Lib.frozen_of_heap b0 4, Lib.frozen_of_heap b1 0, Lib.frozen_of_heap b1 1⟩
  all_goals first | (rw [Lib.cell_of_heap b0]; rfl) | (rw [Lib.cell_of_heap b1]; rfl)
theorem litGo_end {s : ByteArray} {z f p : Nat} {l : List UInt8} (h : ¬ p < z) : litGo s z f p l = .good l := by
  cases f with
  | zero => rw [litGo]
  | succ f => rw [litGo, if_neg h]

set_option maxHeartbeats 1000000 in
set_option maxRecDepth 100000 in
theorem litX_any (s : ByteArray) (hs : s.size ≤ 50000) (a : Nat) (ha : a < s.size) (W : World) (T : U8 W) : Calls Tryd.prog 90 #[.string s, .int .i64 (a : Int)] W fun e w' => NextP W a (litX s a) e w' := by
  have HU := Lib.hid (fun w => until_any s (by omega) (a + 1) 39 (by omega) w)
  have HTA := Lib.hid (two_allocs W)
  rw [show (((a + 1 : Nat)) : Int) = (a : Int) + 1 by omega] at HU
  obtain ⟨N, hN⟩ : ∃ N, litX s a = N := ⟨_, rfl⟩
  rw [hN]
  unfold litX at hN
  cases hu : untilE (txt s).b s.size 39 (s.size + 1) (a + 1) with
  | none =>
    rw [hu] at HU hN
    unfold untilV at HU
    clear hu
    subst hN
    go_enter Tryd.func90, Tryd.ntmps90
    go_wp2_with (go_at_call 126; refine (HU.out _).mono ?_; rintro e w' ⟨rfl, rfl⟩)
    refine bodyPost_ret (v := .tuple #[tokV 0 0 0 ⟨#[]⟩ (.slice none 0 0), stopV 10 a]) (by simp [results, Tryd.results90, go_sem, tokV, stopV]) rfl ?_
    exact ⟨rfl, HTA.out _ _⟩
  | some z =>
    rw [hu] at HU hN
    obtain ⟨E, hE⟩ : ∃ E, litGo s z (s.size + 1) (a + 1) [] = E := ⟨_, rfl⟩
    simp only [hE] at hN
    have HE := Lib.hid hE
    have HN := Lib.hid hN
    clear hN hE
    unfold untilV at HU
    have hin := untilE_in _ _ _ _ _ _ hu
    clear hu
    have g4 : ¬ (z : Int) < 0 := by omega
    have g5 : decide ((z : Int) < 0) = false := decide_eq_false g4
    have HT := Lib.hid T
    have HST := Lib.hid (Liting.start W)
    clear T
    go_enter Tryd.func90, Tryd.ntmps90
    go_wp2_with (go_at_call 126; refine (HU.out _).mono ?_; rintro e w' ⟨rfl, rfl⟩)
    go_loopw [8, 9, 10, 11, 12] (fun x8 x9 x10 x11 x12 wx => ∃ (p f : Nat) (l : List UInt8), a + 1 ≤ p ∧ p ≤ s.size ∧ s.size < p + f ∧ l.length ≤ 4 * p ∧ x8 = .int .i64 (p : Int) ∧ litGo s z f p l = E ∧ Liting W l wx) (fun x8 _ _ _ _ _ => s.size - (intOf x8).toNat)
    case atStart => exact ⟨a + 1, s.size + 1, [], by omega, by omega, by omega, by simp, by go_num, HE.out, HST.out⟩
    case round =>
      obtain ⟨p, f, l, hp1, hp2, hf, hll, rfl, hgo, hlit⟩ := hrel
      have HG := Lib.hid hgo
      have HL := Lib.hid hlit
      have hszr := liting_size hlit
      clear hgo hlit
      by_cases hpz : p < z
      · have g1 : (p : Int) < (z : Int) := by omega
        have g2 : decide ((p : Int) < (z : Int)) = true := decide_eq_true g1
        obtain ⟨f, rfl⟩ : ∃ g, f = g + 1 := ⟨f - 1, by omega⟩
        have HA := Lib.hid (at_in s p wr (HT.out.stay (liting_w HL.out)) (by omega))
        unfold itemV at HA
        have hgo := HG.out
        rw [litGo, if_pos hpz] at hgo
        have hw1 := (txt s).w_pos p
        have hwi := (txt s).w_in p (show p < s.size by omega)
        have hwn : p + (txt s).w p ≤ s.size := hwi
        obtain ⟨R, hR⟩ : ∃ R, (txt s).r p = R := ⟨_, rfl⟩
        obtain ⟨K, hK⟩ : ∃ K, (txt s).w p = K := ⟨_, rfl⟩
        obtain ⟨Q, hQ⟩ : ∃ Q, (txt s).ok p = Q := ⟨_, rfl⟩
        rw [hR, hK, hQ] at hgo HA
        rw [hK] at hw1 hwn
        clear hwi hR hK hQ HG
        have HGO := Lib.hid hgo
        clear hgo
        go_wp2_with fail
        refine HA.out.mono ?_
        rintro e w2 ⟨rfl, hb2⟩
        have hba : Below w2.heap.size w2 (w2.alloc (.cells #[.int .i64 (p : Int), .int .i64 (K : Int), .int .i32 (R : Int), .bool Q] 110)) := (Below.refl _ _).alloc (Nat.le_refl _) _
        have hl3 := (HL.out.stay hb2).stay hba
        have hx : (w2.alloc (.cells #[.int .i64 (p : Int), .int .i64 (K : Int), .int .i32 (R : Int), .bool Q] 110)).heap[w2.heap.size]? = some (.cells #[.int .i64 (p : Int), .int .i64 (K : Int), .int .i32 (R : Int), .bool Q] 110 (0, 0)) := heap_alloc_new _ _
        have hsz3 := liting_size hl3
        have hlt3 : w2.heap.size < (w2.alloc (.cells #[.int .i64 (p : Int), .int .i64 (K : Int), .int .i32 (R : Int), .bool Q] 110)).heap.size := by simp
        have hsz2 : W.heap.size + 3 ≤ w2.heap.size := by
          rcases HL.out.1 with ⟨_, v, hbk, _⟩ | ⟨_, v, hbk, _⟩
          · have := (Array.getElem?_eq_some_iff.1 hbk).1; have := hb2.size; omega
          · have := (Array.getElem?_eq_some_iff.1 hbk).1; have := hb2.size; omega
        have HL3 := Lib.hid hl3
        clear hba hl3 hb2 HA HL
        go_upto_region 8 with fail
        generalize (w2.alloc (.cells #[.int .i64 (p : Int), .int .i64 (K : Int), .int .i32 (R : Int), .bool Q] 110)) = w3 at *
        have hx0 : w3.cell? ⟨w2.heap.size, 1, none⟩ = some (.int .i64 (K : Int)) := by rw [Lib.cell_of_heap hx]; rfl
        have hx1 : w3.cell? ⟨w2.heap.size, 2, none⟩ = some (.int .i32 (R : Int)) := by rw [Lib.cell_of_heap hx]; rfl
        have hx2 : w3.cell? ⟨w2.heap.size, 3, none⟩ = some (.bool Q) := by rw [Lib.cell_of_heap hx]; rfl
        have HX := Lib.hid hx
        clear hx
        by_cases hbad : Q = false ∨ R = 10
        · have hEq : N = .bad 11 p := by have h := HGO.out; rw [if_pos hbad] at h; have h2 := HN.out; rw [← h] at h2; exact h2.symm
          have EQ := Lib.hid hEq
          obtain ⟨b0, b1⟩ := tok_blocks HL3.out.2
          obtain ⟨⟨c0, c1, c2, c3, c4, c5, c6⟩, f0, f1, f2, f3, f4, f5, f6⟩ := tok_cells b0 b1
          have HF := Lib.hid (put7_below (liting_w HL3.out))
          clear hEq b0 b1 HGO HL3 HX
          cases Q with
          | false =>
            go_wp2
            refine bodyPost_ret (v := .tuple #[tokV 0 0 0 ⟨#[]⟩ (.slice none 0 0), stopV 11 p]) (by simp [results, Tryd.results90, go_sem, tokV, stopV, c0, c1, c2, c3, c4, c5, c6]) rfl ?_
            rw [EQ.out]
            exact ⟨rfl, HF.out _ _ _ _ _ _ _⟩
          | true =>
            have hR : R = 10 := by rcases hbad with h | h; cases h; exact h
            subst hR
            go_wp2
            refine bodyPost_ret (v := .tuple #[tokV 0 0 0 ⟨#[]⟩ (.slice none 0 0), stopV 11 p]) (by simp [results, Tryd.results90, go_sem, tokV, stopV, c0, c1, c2, c3, c4, c5, c6]) rfl ?_
            rw [EQ.out]
            exact ⟨rfl, HF.out _ _ _ _ _ _ _⟩
        · have hQ : Q = true := by cases Q with | true => rfl | false => exact absurd (.inl rfl) hbad
          have hR10 : ¬ R = 10 := fun h => hbad (.inr h)
          subst hQ
          have p1 : ((R : Int) == 10) = false := by simpa using (by omega : ¬ (R : Int) = 10)
          have hgo := HGO.out
          rw [if_neg hbad] at hgo
          clear HGO hbad
          by_cases h92 : R = 92
          · rw [if_neg (by simpa using h92)] at hgo
            have p2 : ((R : Int) != 92) = false := by simpa using (by omega : (R : Int) = 92)
            have hext := ext_size s (i := p + 1) (j := z) (by omega)
            have HES := Lib.hid (esc_any (s.extract (p + 1) z) (by omega) w3)
            have q1 : (0 : Int) ≤ (p : Int) + 1 := by omega
            have q2 : (p : Int) + 1 ≤ (z : Int) := by omega
            have q3 : (z : Int) ≤ (s.size : Int) := by omega
            have q4 : ((p : Int) + 1).toNat = p + 1 := by omega
            cases hes : escE (txt (s.extract (p + 1) z)).b (s.extract (p + 1) z).size with
            | none =>
              simp only [hes] at hgo
              rw [hes] at HES
              unfold escV at HES
              have hEq : N = .bad 12 p := by have h2 := HN.out; rw [← hgo] at h2; exact h2.symm
              have EQ := Lib.hid hEq
              obtain ⟨b0, b1⟩ := tok_blocks HL3.out.2
              obtain ⟨⟨c0, c1, c2, c3, c4, c5, c6⟩, f0, f1, f2, f3, f4, f5, f6⟩ := tok_cells b0 b1
              have HF := Lib.hid (put7_below (liting_w HL3.out))
              clear hEq b0 b1 hgo HL3 HX hes
              go_wp2_with (go_at_call 47; refine HES.out.mono ?_; rintro e w' ⟨rfl, rfl⟩)
              refine bodyPost_ret (v := .tuple #[tokV 0 0 0 ⟨#[]⟩ (.slice none 0 0), stopV 12 p]) (by simp [results, Tryd.results90, go_sem, tokV, stopV, c0, c1, c2, c3, c4, c5, c6]) rfl ?_
              rw [EQ.out]
              exact ⟨rfl, HF.out _ _ _ _ _ _ _⟩
            | some rn =>
              obtain ⟨r, n⟩ := rn
              simp only [hes] at hgo
              rw [hes] at HES
              unfold escV at HES
              have hrv := escE_sign hes
              have hni := escE_in hes
              rw [hext] at hni
              have HWR := Lib.hid (rune_any (W.heap.size + 2) (W.heap.size + 2) l r hrv w3 HL3.out.1 (by omega) (by omega))
              have hlen2 := (encB_size r hrv).2
              have hlen3 : (encB r).data.toList.length ≤ 4 := by rw [← Lib.size_eq]; exact hlen2
              obtain ⟨l', hl'⟩ : ∃ l', l ++ (encB r).data.toList = l' := ⟨_, rfl⟩
              have hll2 : l'.length ≤ 4 * (p + 1 + n) := by rw [← hl', List.length_append]; omega
              rw [hl'] at hgo HWR
              have HGO := Lib.hid hgo
              clear hgo hes hl' hlen2 hlen3
              go_wp2_with (go_at_call 47; refine HES.out.mono ?_; rintro e w' ⟨rfl, rfl⟩)
              refine HWR.out.mono ?_
              rintro e w4 ⟨x, rfl, ⟨hbd, hb4⟩, hok⟩
              have HL4 := Lib.hid (HL3.out.wrote hbd hb4)
              clear hbd hb4 hok HWR HL3 HX
              go_wp2_with fail
              go_roundw
              case rel => exact ⟨p + 1 + n, f, l', by omega, by omega, by omega, hll2, by go_num, HGO.out, HL4.out⟩
              case measure => simp [intOf]; omega
          · rw [if_pos h92] at hgo
            have p2 : ((R : Int) != 92) = true := by simpa using (by omega : ¬ (R : Int) = 92)
            obtain ⟨y, hy⟩ : ∃ y, p + K = y := ⟨_, rfl⟩
            have e1 : (p : Int) + (K : Int) = (y : Int) := by omega
            have e0 : IntKind.i64.wrap ((p : Int) + (K : Int)) = (y : Int) := by rw [e1]; exact IntWalk.i64_in _ (by omega)
            have g3 : (p : Int) ≤ (y : Int) := by omega
            have g6 : (y : Int) ≤ (s.size : Int) := by omega
            have g7 : (0 : Int) ≤ (y : Int) := by omega
            rw [hy] at hgo
            have hes := ext_size s (i := p) (j := y) (by omega)
            have HWR := Lib.hid (write_any (W.heap.size + 2) (W.heap.size + 2) (Lib.byteCells l) (s.extract p y) w3 HL3.out.1 (by rw [byteCells_nil]; omega) (by omega))
            have hsc : Lib.byteCells l ++ Lib.strCells (s.extract p y) = Lib.byteCells (l ++ (s.extract p y).data.toList) := by rw [byteCells_app]; rfl
            rw [hsc] at HWR
            obtain ⟨l', hl'⟩ : ∃ l', l ++ (s.extract p y).data.toList = l' := ⟨_, rfl⟩
            have hll2 : l'.length ≤ 4 * y := by rw [← hl', List.length_append, ← Lib.size_eq, hes]; omega
            rw [hl'] at hgo HWR
            have HGO := Lib.hid hgo
            have hpy : p < y := by omega
            clear hgo hl' hsc hes hy
            go_wp2_with fail
            refine HWR.out.mono ?_
            rintro e w4 ⟨rfl, ⟨hbd, hb4⟩, hok⟩
            have hx4 := hok _ _ HX.out (by simp; omega) (fun c fz e => by cases e)
            have hx0 : w4.cell? ⟨w2.heap.size, 1, none⟩ = some (.int .i64 (K : Int)) := by rw [Lib.cell_of_heap hx4]; rfl
            have HL4 := Lib.hid (HL3.out.wrote hbd hb4)
            clear hbd hb4 hok HWR HL3 HX hx4
            go_wp2_with fail
            go_roundw
            case rel => exact ⟨y, f, l', by omega, by omega, by omega, hll2, by go_num, HGO.out, HL4.out⟩
            case measure => simp [intOf]; omega
      · have g1 : ¬ (p : Int) < (z : Int) := by omega
        have g2 : decide ((p : Int) < (z : Int)) = false := decide_eq_false g1
        have hgo := HG.out
        rw [litGo_end hpz] at hgo
        have hN := HN.out
        rw [← hgo] at hN
        simp only [] at hN
        have HN := Lib.hid hN
        have HLN := Lib.hid (Tryd.Builder_Len (W.heap.size + 2) (W.heap.size + 2) (Lib.byteCells l) wr HL.out.1)
        rw [byteCells_nil] at HLN
        clear hgo hN HG
        by_cases hl0 : l = []
        · subst hl0
          obtain ⟨b0, b1⟩ := tok_blocks HL.out.2
          obtain ⟨⟨c0, c1, c2, c3, c4, c5, c6⟩, f0, f1, f2, f3, f4, f5, f6⟩ := tok_cells b0 b1
          have HF := Lib.hid (put7_below (liting_w HL.out))
          have hEq : N = .bad 14 a := by have h := HN.out; rw [if_pos rfl] at h; exact h.symm
          have EQ := Lib.hid hEq
          rw [List.length_nil] at HLN
          clear hEq b0 b1 HL
          go_wp2_with (go_at_call 128; refine HLN.out.mono ?_; rintro e w' ⟨rfl, rfl⟩)
          refine bodyPost_ret (v := .tuple #[tokV 0 0 0 ⟨#[]⟩ (.slice none 0 0), stopV 14 a]) (by simp [results, Tryd.results90, go_sem, tokV, stopV, c0, c1, c2, c3, c4, c5, c6]) rfl ?_
          rw [EQ.out]
          exact ⟨rfl, HF.out _ _ _ _ _ _ _⟩
        · have hEq : N = .tok 3 (z + 1) ⟨l.toArray⟩ none := by have h := HN.out; rw [if_neg hl0] at h; exact h.symm
          have EQ := Lib.hid hEq
          have hlen : 0 < l.length := List.length_pos_iff.2 hl0
          have p1 : ((l.length : Int) == 0) = false := by simpa using (by omega : ¬ (l.length : Int) = 0)
          have HST := Lib.hid (Tryd.Builder_String_any (W.heap.size + 2) (W.heap.size + 2) l wr HL.out.1 (by omega))
          obtain ⟨n, hn⟩ : ∃ n, l.length = n := ⟨_, rfl⟩
          rw [hn] at HLN p1
          clear hEq hl0 hlen hn
          go_wp2_with (go_at_call 128; refine HLN.out.mono ?_; rintro e w' ⟨rfl, rfl⟩)
          refine HST.out.mono ?_
          rintro e w4 ⟨rfl, hb4⟩
          have hB4 := HL.out.2.trans hb4
          obtain ⟨b0, b1⟩ := tok_blocks hB4
          obtain ⟨⟨c0, c1, c2, c3, c4, c5, c6⟩, f0, f1, f2, f3, f4, f5, f6⟩ := tok_cells b0 b1
          have HF := Lib.hid (put7_below ((two_allocs W T0 S0).trans (hB4.mono (by omega))))
          have q1 : (z : Int) + 1 ≤ 9223372036854775807 := by omega
          clear hb4 hB4 b0 b1 HL HST
          go_wp2
          refine bodyPost_ret (v := .tuple #[tokV 3 a (z + 1) ⟨l.toArray⟩ (.slice none 0 0), stopV 0 0]) (by rw [show tokV 3 a (z + 1) ⟨l.toArray⟩ (.slice none 0 0) = .agg #[.int .i64 3, .int .i64 (a : Int), .int .i64 ((z : Int) + 1), .string ⟨l.toArray⟩, .slice none 0 0] by simp only [tokV]; rw [show ((z + 1 : Nat) : Int) = (z : Int) + 1 by omega]]; simp [results, Tryd.results90, go_sem, stopV, c0, c1, c2, c3, c4, c5, c6]) rfl ?_
          rw [EQ.out]
          exact ⟨_, rfl, rfl, HF.out _ _ _ _ _ _ _⟩

end Go.Proofs.YtfjlhfalnciamaaDoor.Lex

namespace Go.Proofs.YtfjlhfalnciamaaDoor.Lex
open Go Go.RowKit Go.Proofs.Chars
open Go.Proofs.YtfjlhfalnciamaaDoor.Utf Go.Proofs.YtfjlhfalnciamaaDoor.Chars

def signI (c : Nat) : Int := Lib.indexByte [58, 124, 59, 40, 41, 63, 42, 43, 46, 126] c.toUInt8
theorem signI_in : ∀ c : Fin 256, -1 ≤ signI c.val ∧ signI c.val ≤ 9 := by decide +kernel
theorem idx_any (c : Nat) (w : World) : Calls Tryd.prog 87 #[.string ⟨#[58, 124, 59, 40, 41, 63, 42, 43, 46, 126]⟩, .int .u8 (c : Int)] w fun e w' => e = .returned (.int .i64 (signI c)) ∧ w = w' :=
  (Tryd.strings_IndexByte ⟨#[58, 124, 59, 40, 41, 63, 42, 43, 46, 126]⟩ (c : Int) w).mono fun _ _ h => ⟨h.1, h.2.symm⟩
def nextX (s : ByteArray) (a : Nat) : Nx :=
  if letterN ((txt s).b a) = true then nameX s a
  else if (txt s).b a = 39 then litX s a
  else if (txt s).b a = 91 then classX s a
  else if a + 1 < s.size ∧ (txt s).b a = 45 ∧ (txt s).b (a + 1) = 62 then .tok 15 (a + 2) ⟨#[]⟩ none
  else if 0 ≤ signI ((txt s).b a) then .tok (5 + signI ((txt s).b a)) (a + 1) ⟨#[]⟩ none
  else .bad 11 a
theorem SetIs.form {W w' : World} {g : Option (List Rg)} {v : Value} (h : SetIs W w' g v) : ∃ A n cap, v = .slice A n cap := by
  cases g with
  | none => exact ⟨none, 0, 0, h⟩
  | some l =>
    obtain ⟨O, hr, _⟩ := h
    obtain ⟨A, cap, e⟩ := hr.form
    exact ⟨_, _, _, e⟩
theorem SetIs.put {W W2 w1 : World} {g : Option (List Rg)} {v : Value} (h : SetIs W2 w1 g v) (hs : W.heap.size + 2 ≤ W2.heap.size) (v0 v1 v2 v3 v4 p q : Value) : SetIs W (put7 w1 W.heap.size v0 v1 v2 v3 v4 p q) g v := by
  cases g with
  | none => exact h
  | some l =>
    obtain ⟨O, hr, h2⟩ := h
    exact ⟨O, (put7_row hr (fun e => by have := (hr.lt _ e).1; omega) (fun e => by have := (hr.lt _ e).1; omega) v0 v1 v2 v3 v4 p q).low (by omega), h2⟩

set_option maxHeartbeats 400000 in
set_option maxRecDepth 100000 in
theorem nextX_any (s : ByteArray) (hs : s.size ≤ 50000) (a : Nat) (ha : a < s.size) (W : World) (T : U8 W) : Calls Tryd.prog 61 #[.string s, .int .i64 (a : Int)] W fun e w' => NextP W a (nextX s a) e w' := by
  have hba : (s[a]'ha).toNat = (txt s).b a := by rw [get_bang]; rfl
  have hbl : (txt s).b a < 256 := UInt8.toNat_lt _
  have g0 : (0 : Int) ≤ (a : Int) := by omega
  have g1 : (a : Int) < (s.size : Int) := by omega
  have g2 : (a : Int) ≤ (s.size : Int) := by omega
  obtain ⟨N, hN⟩ : ∃ N, nextX s a = N := ⟨_, rfl⟩
  rw [hN]
  unfold nextX at hN
  have T2 : U8 ((W.alloc T0).alloc S0) := T.stay (two_allocs W T0 S0)
  have HLE := Lib.hid (fun w => letter_any ((txt s).b a) w)
  have HLT := Lib.hid (fun w => two_any s a 45 62 w)
  have hsi := signI_in ⟨(txt s).b a, hbl⟩
  have HIX := Lib.hid (fun w => idx_any ((txt s).b a) w)
  obtain ⟨c, hc⟩ : ∃ c, (txt s).b a = c := ⟨_, rfl⟩
  rw [hc] at hba hN HLE HLT HIX
  simp only [hc] at hsi
  clear T hbl hc
  cases hl : letterN c with
  | true =>
    rw [hl] at HLE hN
    rw [if_pos rfl] at hN
    · subst hN
      have hX : ∃ N, nameX s a = N := ⟨_, rfl⟩
      have HC0 := nameX_any s (by omega) a ha ((W.alloc T0).alloc S0)
      obtain ⟨N, hN⟩ := hX
      rw [hN] at HC0 ⊢
      clear hN T2 HIX hsi hl
      have HC := Lib.hid HC0
      have hsz0 : W.heap.size + 2 ≤ ((W.alloc T0).alloc S0).heap.size := by simp
      clear HLT
      go_enter Tryd.func61, Tryd.ntmps61
      go_wp2_with (first
        | (go_at_call 86; refine (HLE.out _).mono ?_; rintro e w' ⟨rfl, rfl⟩))
      refine HC.out.mono ?_
      intro e w1 hnx
      clear HC
      cases N with
      | bad cc pp =>
        obtain ⟨rfl, hb⟩ := hnx
        obtain ⟨b0, b1⟩ := tok_blocks (W := W) (by simpa using hb)
        obtain ⟨⟨c0, c1, c2, c3, c4, c5, c6⟩, f0, f1, f2, f3, f4, f5, f6⟩ := tok_cells b0 b1
        have HF := Lib.hid (put7_below ((two_allocs W T0 S0).trans (hb.mono (by omega))))
        clear hb b0 b1
        unfold tokV stopV
        go_wp2
        refine bodyPost_ret (v := .tuple #[tokV 0 0 0 ⟨#[]⟩ (.slice none 0 0), stopV cc pp]) (by simp [results, Tryd.results61, go_sem, tokV, stopV, c0, c1, c2, c3, c4, c5, c6]) rfl ?_
        exact ⟨rfl, HF.out _ _ _ _ _ _ _⟩
      | tok kk zz tt gg =>
        obtain ⟨v, rfl, hset, hb⟩ := hnx
        obtain ⟨A, n, cap, rfl⟩ := hset.form
        obtain ⟨b0, b1⟩ := tok_blocks (W := W) (by simpa using hb)
        obtain ⟨⟨c0, c1, c2, c3, c4, c5, c6⟩, f0, f1, f2, f3, f4, f5, f6⟩ := tok_cells b0 b1
        have HF := Lib.hid (put7_below ((two_allocs W T0 S0).trans (hb.mono (by omega))))
        have HSET := Lib.hid (hset.put hsz0)
        clear hb b0 b1 hset
        unfold tokV stopV
        go_wp2
        refine bodyPost_ret (v := .tuple #[tokV kk a zz tt (.slice A n cap), stopV 0 0]) (by simp [results, Tryd.results61, go_sem, tokV, stopV, c0, c1, c2, c3, c4, c5, c6]) rfl ?_
        exact ⟨_, rfl, HSET.out _ _ _ _ _ _ _, HF.out _ _ _ _ _ _ _⟩
  | false =>
    rw [hl] at HLE hN
    rw [if_neg (by simp)] at hN
    by_cases h39 : c = 39
    · rw [if_pos h39] at hN
      subst hN
      have hX : ∃ N, litX s a = N := ⟨_, rfl⟩
      have HC0 := litX_any s hs a ha ((W.alloc T0).alloc S0) T2
      obtain ⟨N, hN⟩ := hX
      rw [hN] at HC0 ⊢
      subst h39
      clear hN T2 HIX hsi hl
      have HC := Lib.hid HC0
      have hsz0 : W.heap.size + 2 ≤ ((W.alloc T0).alloc S0).heap.size := by simp
      clear HLT
      go_enter Tryd.func61, Tryd.ntmps61
      go_wp2_with (first
        | (go_at_call 86; refine (HLE.out _).mono ?_; rintro e w' ⟨rfl, rfl⟩))
      refine HC.out.mono ?_
      intro e w1 hnx
      clear HC
      cases N with
      | bad cc pp =>
        obtain ⟨rfl, hb⟩ := hnx
        obtain ⟨b0, b1⟩ := tok_blocks (W := W) (by simpa using hb)
        obtain ⟨⟨c0, c1, c2, c3, c4, c5, c6⟩, f0, f1, f2, f3, f4, f5, f6⟩ := tok_cells b0 b1
        have HF := Lib.hid (put7_below ((two_allocs W T0 S0).trans (hb.mono (by omega))))
        clear hb b0 b1
        unfold tokV stopV
        go_wp2
        refine bodyPost_ret (v := .tuple #[tokV 0 0 0 ⟨#[]⟩ (.slice none 0 0), stopV cc pp]) (by simp [results, Tryd.results61, go_sem, tokV, stopV, c0, c1, c2, c3, c4, c5, c6]) rfl ?_
        exact ⟨rfl, HF.out _ _ _ _ _ _ _⟩
      | tok kk zz tt gg =>
        obtain ⟨v, rfl, hset, hb⟩ := hnx
        obtain ⟨A, n, cap, rfl⟩ := hset.form
        obtain ⟨b0, b1⟩ := tok_blocks (W := W) (by simpa using hb)
        obtain ⟨⟨c0, c1, c2, c3, c4, c5, c6⟩, f0, f1, f2, f3, f4, f5, f6⟩ := tok_cells b0 b1
        have HF := Lib.hid (put7_below ((two_allocs W T0 S0).trans (hb.mono (by omega))))
        have HSET := Lib.hid (hset.put hsz0)
        clear hb b0 b1 hset
        unfold tokV stopV
        go_wp2
        refine bodyPost_ret (v := .tuple #[tokV kk a zz tt (.slice A n cap), stopV 0 0]) (by simp [results, Tryd.results61, go_sem, tokV, stopV, c0, c1, c2, c3, c4, c5, c6]) rfl ?_
        exact ⟨_, rfl, HSET.out _ _ _ _ _ _ _, HF.out _ _ _ _ _ _ _⟩
    rw [if_neg h39] at hN
    have p1 : ((c : Int) == 39) = false := by simpa using (by omega : ¬ (c : Int) = 39)
    by_cases h91 : c = 91
    · rw [if_pos h91] at hN
      subst hN
      have hX : ∃ N, classX s a = N := ⟨_, rfl⟩
      have HC0 := classX_any s hs a ha ((W.alloc T0).alloc S0) T2
      obtain ⟨N, hN⟩ := hX
      rw [hN] at HC0 ⊢
      subst h91
      clear hN T2 HIX hsi hl p1 h39
      have HC := Lib.hid HC0
      have hsz0 : W.heap.size + 2 ≤ ((W.alloc T0).alloc S0).heap.size := by simp
      clear HLT
      go_enter Tryd.func61, Tryd.ntmps61
      go_wp2_with (first
        | (go_at_call 86; refine (HLE.out _).mono ?_; rintro e w' ⟨rfl, rfl⟩))
      refine HC.out.mono ?_
      intro e w1 hnx
      clear HC
      cases N with
      | bad cc pp =>
        obtain ⟨rfl, hb⟩ := hnx
        obtain ⟨b0, b1⟩ := tok_blocks (W := W) (by simpa using hb)
        obtain ⟨⟨c0, c1, c2, c3, c4, c5, c6⟩, f0, f1, f2, f3, f4, f5, f6⟩ := tok_cells b0 b1
        have HF := Lib.hid (put7_below ((two_allocs W T0 S0).trans (hb.mono (by omega))))
        clear hb b0 b1
        unfold tokV stopV
        go_wp2
        refine bodyPost_ret (v := .tuple #[tokV 0 0 0 ⟨#[]⟩ (.slice none 0 0), stopV cc pp]) (by simp [results, Tryd.results61, go_sem, tokV, stopV, c0, c1, c2, c3, c4, c5, c6]) rfl ?_
        exact ⟨rfl, HF.out _ _ _ _ _ _ _⟩
      | tok kk zz tt gg =>
        obtain ⟨v, rfl, hset, hb⟩ := hnx
        obtain ⟨A, n, cap, rfl⟩ := hset.form
        obtain ⟨b0, b1⟩ := tok_blocks (W := W) (by simpa using hb)
        obtain ⟨⟨c0, c1, c2, c3, c4, c5, c6⟩, f0, f1, f2, f3, f4, f5, f6⟩ := tok_cells b0 b1
        have HF := Lib.hid (put7_below ((two_allocs W T0 S0).trans (hb.mono (by omega))))
        have HSET := Lib.hid (hset.put hsz0)
        clear hb b0 b1 hset
        unfold tokV stopV
        go_wp2
        refine bodyPost_ret (v := .tuple #[tokV kk a zz tt (.slice A n cap), stopV 0 0]) (by simp [results, Tryd.results61, go_sem, tokV, stopV, c0, c1, c2, c3, c4, c5, c6]) rfl ?_
        exact ⟨_, rfl, HSET.out _ _ _ _ _ _ _, HF.out _ _ _ _ _ _ _⟩
    rw [if_neg h91] at hN
    have p2 : ((c : Int) == 91) = false := by simpa using (by omega : ¬ (c : Int) = 91)
    have HTA := Lib.hid (two_allocs W)
    clear T2
    by_cases har : a + 1 < s.size ∧ c = 45 ∧ (txt s).b (a + 1) = 62
    · rw [if_pos har] at hN
      subst hN
      have HL1 : Hid (∀ w, Calls Tryd.prog 88 #[.string (s.extract a s.size), .string ⟨#[45, 62]⟩] w fun e w' => e = .returned (.bool true) ∧ w = w') := Lib.hid fun w => by
        have h := HLT.out w
        rw [show decide (a + 1 < s.size ∧ c = UInt8.toNat 45 ∧ (txt s).b (a + 1) = UInt8.toNat 62) = true from decide_eq_true har] at h
        exact h
      obtain ⟨_, h45, _⟩ := har
      subst h45
      clear HLT HIX hsi hl h39 h91 p1 p2
      have q1 : (a : Int) + 2 ≤ 9223372036854775807 := by omega
      go_enter Tryd.func61, Tryd.ntmps61
      go_wp2_with (first
        | (go_at_call 86; refine (HLE.out _).mono ?_; rintro e w' ⟨rfl, rfl⟩)
        | (go_at_call 88; refine (HL1.out _).mono ?_; rintro e w' ⟨rfl, rfl⟩))
      refine bodyPost_ret (v := .tuple #[tokV 15 a (a + 2) ⟨#[]⟩ (.slice none 0 0), stopV 0 0]) (by rw [show tokV 15 a (a + 2) ⟨#[]⟩ (.slice none 0 0) = .agg #[.int .i64 15, .int .i64 (a : Int), .int .i64 ((a : Int) + 2), .string ⟨#[]⟩, .slice none 0 0] by simp only [tokV]; rw [show ((a + 2 : Nat) : Int) = (a : Int) + 2 by omega]]; simp [results, Tryd.results61, go_sem, stopV]) rfl ?_
      exact ⟨_, rfl, rfl, HTA.out _ _⟩
    · rw [if_neg har] at hN
      have HL1 : Hid (∀ w, Calls Tryd.prog 88 #[.string (s.extract a s.size), .string ⟨#[45, 62]⟩] w fun e w' => e = .returned (.bool false) ∧ w = w') := Lib.hid fun w => by
        have h := HLT.out w
        rw [show decide (a + 1 < s.size ∧ c = UInt8.toNat 45 ∧ (txt s).b (a + 1) = UInt8.toNat 62) = false from decide_eq_false har] at h
        exact h
      obtain ⟨d, hd⟩ : ∃ d, signI c = d := ⟨_, rfl⟩
      rw [hd] at hN HIX hsi
      clear har HLT hl hd
      have q1 : (a : Int) + 1 ≤ 9223372036854775807 := by omega
      by_cases hd0 : 0 ≤ d
      · rw [if_pos hd0] at hN
        subst hN
        have q2 : decide (0 ≤ d) = true := decide_eq_true hd0
        have q3 : (5 : Int) + d ≤ 9223372036854775807 := by omega
        go_enter Tryd.func61, Tryd.ntmps61
        go_wp2_with (first
          | (go_at_call 86; refine (HLE.out _).mono ?_; rintro e w' ⟨rfl, rfl⟩)
          | (go_at_call 88; refine (HL1.out _).mono ?_; rintro e w' ⟨rfl, rfl⟩)
          | (go_at_call 87; refine (HIX.out _).mono ?_; rintro e w' ⟨rfl, rfl⟩))
        refine bodyPost_ret (v := .tuple #[tokV (5 + d) a (a + 1) ⟨#[]⟩ (.slice none 0 0), stopV 0 0]) (by rw [show tokV (5 + d) a (a + 1) ⟨#[]⟩ (.slice none 0 0) = .agg #[.int .i64 (5 + d), .int .i64 (a : Int), .int .i64 ((a : Int) + 1), .string ⟨#[]⟩, .slice none 0 0] by simp only [tokV]; rw [show ((a + 1 : Nat) : Int) = (a : Int) + 1 by omega]]; simp [results, Tryd.results61, go_sem, stopV]) rfl ?_
        exact ⟨_, rfl, rfl, HTA.out _ _⟩
      · rw [if_neg hd0] at hN
        subst hN
        have q2 : decide (0 ≤ d) = false := decide_eq_false hd0
        go_enter Tryd.func61, Tryd.ntmps61
        go_wp2_with (first
          | (go_at_call 86; refine (HLE.out _).mono ?_; rintro e w' ⟨rfl, rfl⟩)
          | (go_at_call 88; refine (HL1.out _).mono ?_; rintro e w' ⟨rfl, rfl⟩)
          | (go_at_call 87; refine (HIX.out _).mono ?_; rintro e w' ⟨rfl, rfl⟩))
        refine bodyPost_ret (v := .tuple #[tokV 0 0 0 ⟨#[]⟩ (.slice none 0 0), stopV 11 a]) (by simp [results, Tryd.results61, go_sem, tokV, stopV]) rfl ?_
        exact ⟨rfl, HTA.out _ _⟩

end Go.Proofs.YtfjlhfalnciamaaDoor.Lex

namespace Go.Proofs.YtfjlhfalnciamaaDoor.Lex
open Go Go.RowKit Go.Proofs.Chars
open Go.Proofs.YtfjlhfalnciamaaDoor.Utf Go.Proofs.YtfjlhfalnciamaaDoor.Chars

/-- A part, its set as the value that stands for it. -/
structure Tk where
  k : Int
  a : Nat
  e : Nat
  t : ByteArray
  v : Value
def tokC (x : Tk) : List Value := [.int .i64 x.k, .int .i64 (x.a : Int), .int .i64 (x.e : Int), .string x.t, x.v]
def tcells (L : List Tk) : List Value := L.flatMap tokC
theorem tcells_snoc (L : List Tk) (x : Tk) : tcells (L ++ [x]) = tcells L ++ tokC x := by simp [tcells]
/-- A row of parts that the call made. -/
def Toks (w : World) (S : Nat) (v : Value) (L : List Tk) : Prop := w.ownsRow S 62 5 v L.length (tcells L)
theorem Toks.stay {w w' : World} {S : Nat} {v : Value} {L : List Tk} (h : Toks w S v L) (hb : Below w.heap.size w w') : Toks w' S v L := by
  refine ⟨h.1, ?_⟩
  rcases h.2 with h0 | ⟨g, cap, cur, e1, e2, e3, e4⟩
  · exact .inl h0
  · exact .inr ⟨g, cap, cur, e1, e2, (hb.block g (Array.getElem?_eq_some_iff.1 e3).1).trans e3, e4⟩
theorem Toks.low {w : World} {S S' : Nat} {v : Value} {L : List Tk} (h : Toks w S v L) (hS : S' ≤ S) : Toks w S' v L := by
  refine ⟨h.1, ?_⟩
  rcases h.2 with h0 | ⟨g, cap, cur, e1, e2, e3⟩
  · exact .inl h0
  · exact .inr ⟨g, cap, cur, e1, Nat.le_trans hS e2, e3⟩
theorem Toks.form {w : World} {S : Nat} {v : Value} {L : List Tk} (h : Toks w S v L) : ∃ A cap, v = .slice A L.length cap := by
  rcases h.2 with ⟨rfl, h0⟩ | ⟨g, cap, cur, rfl, _⟩
  · exact ⟨none, 0, by rw [h0]⟩
  · exact ⟨_, cap, rfl⟩
theorem Toks.lt {w : World} {S : Nat} {v : Value} {L : List Tk} (h : Toks w S v L) {g : Nat} (hg : v.ownBlock = some g) : S ≤ g := (World.ownsRow.lt h g hg).1
theorem Toks.setFar {w : World} {S : Nat} {v : Value} {L : List Tk} (h : Toks w S v L) {p : Addr} (hne : v.ownBlock ≠ some p.block) (u : Value) : Toks (w.setCell p u) S v L := by
  refine ⟨h.1, ?_⟩
  rcases h.2 with h0 | ⟨g, cap, cur, e1, e2, e3, e4⟩
  · exact .inl h0
  · refine .inr ⟨g, cap, cur, e1, e2, ?_, e4⟩
    rw [World.setCell, Array.getElem?_modify, if_neg (fun e => hne (by rw [e1]; simp [Value.ownBlock, e]))]
    exact e3
theorem Toks.block_lt {w : World} {S : Nat} {v : Value} {L : List Tk} (h : Toks w S v L) {g : Nat} (hg : v.ownBlock = some g) : g < w.heap.size := by
  rcases h.2 with ⟨rfl, _⟩ | ⟨g', cap, cur, rfl, _, e3, _⟩
  · cases hg
  · cases hg
    exact (Array.getElem?_eq_some_iff.1 e3).1
/-- A part without its set. -/
def keyT (x : Tk) : Int × Nat × Nat × ByteArray := (x.k, x.a, x.e, x.t)
inductive Al where
  | bad (c : Int) (p : Nat) : Al
  | good (l : List (Int × Nat × Nat × ByteArray)) : Al
def allGo (s : ByteArray) : Nat → Nat → List (Int × Nat × Nat × ByteArray) → Al
  | 0, _, l => .good l
  | f + 1, a, l =>
    if a < s.size then
      match nextX s a with
      | .bad c p => .bad c p
      | .tok k e t _ => allGo s f (blankE (txt s).b s.size (s.size + 1) e) (l ++ [(k, a, e, t)])
    else .good (l ++ [(0, s.size, s.size, ⟨#[]⟩)])
def allE (s : ByteArray) : Al := if 20000 < s.size then .bad 3 0 else allGo s (s.size + 1) (blankE (txt s).b s.size (s.size + 1) 0) []
def AllP (W : World) (o : Al) (e : Ending) (w' : World) : Prop :=
  match o with
  | .bad c p => e = .returned (.tuple #[.slice none 0 0, stopV c p]) ∧ Below W.heap.size W w'
  | .good l => ∃ v L, e = .returned (.tuple #[v, stopV 0 0]) ∧ Toks w' W.heap.size v L ∧ L.map keyT = l ∧ Below W.heap.size W w'
theorem info62 : (Tryd.prog.info? 62).map (fun i => (i.zero, i.size, i.bytes)) = some (some (.agg #[.int .i64 0, .int .i64 0, .int .i64 0, .string ⟨#[]⟩, .slice none 0 0]), 5, 64) := by kernel_rfl

theorem runP_pos (b : Nat → Nat) (n f i : Nat) (h : i ≤ n) : i ≤ runP b n f i := (runP_in b n f i h).1
theorem nextX_in {s : ByteArray} {a : Nat} (ha : a < s.size) {k : Int} {e : Nat} {t : ByteArray} {g : Option (List Rg)} (h : nextX s a = .tok k e t g) : a < e ∧ e ≤ s.size := by
  have hsz : (s.extract a s.size).size = s.size - a := ext_size s (Nat.le_refl _)
  unfold nextX at h
  split at h
  · rename_i hl
    have hb0 : (txt (s.extract a s.size)).b 0 = (txt s).b a := by rw [ext_b, Nat.add_zero]
    have hin := namedE_in (txt (s.extract a s.size)).b (s.extract a s.size).size
    have hpos : 1 ≤ namedE (txt (s.extract a s.size)).b (s.extract a s.size).size := by
      unfold namedE
      rw [if_neg (by omega), hb0, if_pos hl]
      exact runP_pos _ _ _ _ (by omega)
    unfold nameX at h
    simp only [] at h
    split at h
    · cases h
    · cases h
      omega
  split at h
  · unfold litX at h
    cases hu : untilE (txt s).b s.size 39 (s.size + 1) (a + 1) with
    | none => rw [hu] at h; cases h
    | some z =>
      rw [hu] at h
      have hin := untilE_in _ _ _ _ _ _ hu
      simp only [] at h
      cases hg : litGo s z (s.size + 1) (a + 1) [] with
      | bad c p => rw [hg] at h; cases h
      | good l =>
        rw [hg] at h
        simp only [] at h
        split at h
        · cases h
        · cases h; omega
  split at h
  · unfold classX at h
    cases hu : untilE (txt s).b s.size 93 (s.size + 1) (a + 1) with
    | none => rw [hu] at h; cases h
    | some z =>
      rw [hu] at h
      have hin := untilE_in _ _ _ _ _ _ hu
      simp only [] at h
      cases hg : readE (s.extract (a + 1) z) with
      | bad c p => rw [hg] at h; cases h
      | good l => rw [hg] at h; cases h; omega
  split at h
  · rename_i h4
    cases h
    omega
  split at h
  · cases h; omega
  · cases h

theorem litGo_code {s : ByteArray} {z : Nat} : ∀ (f p : Nat) (l : List UInt8) (c : Int) (q : Nat), litGo s z f p l = .bad c q → c ≠ 0
  | 0, p, l, c, q, h => by rw [litGo] at h; cases h
  | f + 1, p, l, c, q, h => by
    rw [litGo] at h
    split at h
    · split at h
      · cases h; decide
      · split at h
        · exact litGo_code f _ _ c q h
        · split at h
          · cases h; decide
          · exact litGo_code f _ _ c q h
    · cases h
theorem nextX_code {s : ByteArray} {a : Nat} {c : Int} {q : Nat} (h : nextX s a = .bad c q) : c ≠ 0 := by
  unfold nextX at h
  split at h
  · unfold nameX at h
    simp only [] at h
    split at h
    · cases h; decide
    · cases h
  split at h
  · unfold litX at h
    cases hu : untilE (txt s).b s.size 39 (s.size + 1) (a + 1) with
    | none => rw [hu] at h; cases h; decide
    | some z =>
      rw [hu] at h
      simp only [] at h
      cases hg : litGo s z (s.size + 1) (a + 1) [] with
      | bad c' p => rw [hg] at h; cases h; exact litGo_code _ _ _ _ _ hg
      | good l =>
        rw [hg] at h
        simp only [] at h
        split at h
        · cases h; decide
        · cases h
  split at h
  · unfold classX at h
    cases hu : untilE (txt s).b s.size 93 (s.size + 1) (a + 1) with
    | none => rw [hu] at h; cases h; decide
    | some z =>
      rw [hu] at h
      simp only [] at h
      cases hg : readE (s.extract (a + 1) z) with
      | bad c' p => rw [hg] at h; cases h; exact bad_code hg
      | good l => rw [hg] at h; cases h
  split at h
  · cases h
  split at h
  · cases h
  · cases h; decide

theorem allGo_end {s : ByteArray} {f a : Nat} {l : List (Int × Nat × Nat × ByteArray)} (h : ¬ a < s.size) (hf : 0 < f) : allGo s f a l = .good (l ++ [(0, s.size, s.size, ⟨#[]⟩)]) := by
  obtain ⟨f, rfl⟩ : ∃ g, f = g + 1 := ⟨f - 1, by omega⟩
  rw [allGo, if_neg h]

set_option maxHeartbeats 2000000 in
set_option maxRecDepth 100000 in
theorem all_any (s : ByteArray) (W : World) (T : U8 W) : Calls Tryd.prog 35 #[.string s] W fun e w' => AllP W (allE s) e w' := by
  obtain ⟨i0, hi, hz0, hz1, hz2⟩ := info_parts info62
  obtain ⟨E, hE⟩ : ∃ E, allE s = E := ⟨_, rfl⟩
  rw [hE]
  unfold allE at hE
  have hbS : Below W.heap.size W (W.alloc S0) := (Below.refl _ _).alloc (Nat.le_refl _) _
  by_cases hbig : 20000 < s.size
  · rw [if_pos hbig] at hE
    subst hE
    have d1 : (20000 : Int) < (s.size : Int) := by omega
    have d2 : decide ((20000 : Int) < (s.size : Int)) = true := decide_eq_true d1
    have HBS := Lib.hid hbS
    clear T hbS
    go_enter Tryd.func35, Tryd.ntmps35
    go_wp2
    refine bodyPost_ret (v := .tuple #[.slice none 0 0, stopV 3 0]) (by simp [results, Tryd.results35, go_sem, stopV]) rfl ?_
    exact ⟨rfl, (Below.refl _ _).alloc (Nat.le_refl _) _⟩
  · rw [if_neg hbig] at hE
    have d1 : ¬ (20000 : Int) < (s.size : Int) := by omega
    have d2 : decide ((20000 : Int) < (s.size : Int)) = false := decide_eq_false d1
    have hbk := blankE_in (txt s).b s.size (s.size + 1) 0 (Nat.zero_le _)
    have HB0 := Lib.hid (fun w => blank_any s (by omega) 0 (Nat.zero_le _) w)
    obtain ⟨p0, hp0⟩ : ∃ p0, blankE (txt s).b s.size (s.size + 1) 0 = p0 := ⟨_, rfl⟩
    rw [hp0] at hE hbk HB0
    have HE := Lib.hid hE
    have HT := Lib.hid T
    have HBS := Lib.hid hbS
    clear T hbS hE hp0 hbig
    go_enter Tryd.func35, Tryd.ntmps35
    go_wp2_with (go_at_call 60; refine (HB0.out _).mono ?_; rintro e w' ⟨rfl, rfl⟩)
    go_loopw [4, 5, 6, 7] (fun x4 x5 x6 x7 wx => ∃ (p f : Nat) (L : List Tk), p ≤ s.size ∧ s.size < p + f ∧ x5 = .int .i64 (p : Int) ∧ L.length ≤ p ∧ allGo s f p (L.map keyT) = E ∧ Toks wx (W.heap.size + 1) x4 L ∧ Below (W.heap.size + 1) (W.alloc S0) wx) (fun _ x5 _ _ _ => s.size - (intOf x5).toNat)
    case atStart => exact ⟨p0, s.size + 1, [], hbk.2, by omega, rfl, Nat.zero_le _, HE.out, ⟨rfl, .inl ⟨rfl, rfl⟩⟩, Below.refl _ _⟩
    case round =>
      obtain ⟨p, f, L, hp, hf, rfl, hLp, hgo, htk, hB⟩ := hrel
      have HG := Lib.hid hgo
      have HK := Lib.hid htk
      have HB := Lib.hid hB
      have hszr : W.heap.size + 1 ≤ wr.heap.size := by have := hB.size; simpa using this
      have hbl : wr.heap[W.heap.size]? = some (.cells #[.int .i64 0, .int .i64 0] 48 (0, 0)) := (hB.block _ (by omega)).trans (heap_alloc_new W S0)
      have HBL := Lib.hid hbl
      clear hgo htk hB hbl
      by_cases hlt : p < s.size
      · have g1 : (p : Int) < (s.size : Int) := by omega
        have g2 : decide ((p : Int) < (s.size : Int)) = true := decide_eq_true g1
        obtain ⟨f, rfl⟩ : ∃ g, f = g + 1 := ⟨f - 1, by omega⟩
        have hWr : Below W.heap.size W wr := HBS.out.trans (HB.out.mono (by omega))
        have HN := Lib.hid (nextX_any s (by omega) p hlt wr (HT.out.stay hWr))
        have hgo := HG.out
        rw [allGo, if_pos hlt] at hgo
        cases hnx : nextX s p with
        | bad c q =>
          simp only [hnx] at hgo
          rw [hnx] at HN
          have EQ := Lib.hid hgo.symm
          have hnx2 := Lib.hid hnx
          clear hgo HG hnx hWr
          go_wp2_with fail
          refine HN.out.mono ?_
          rintro e w1 ⟨rfl, hb⟩
          have hb2 : Below wr.heap.size wr ((w1.alloc T0).alloc (.cells #[.int .i64 c, .int .i64 (q : Int)] 48)) := (hb.alloc hb.size _).alloc (by have := hb.size; simp; omega) _
          have hB2 := HBS.out.trans ((HB.out.trans (hb2.mono hszr)).mono (by omega))
          have hy : ((w1.alloc T0).alloc (.cells #[.int .i64 c, .int .i64 (q : Int)] 48)).heap[w1.heap.size + 1]? = some (.cells #[.int .i64 c, .int .i64 (q : Int)] 48 (0, 0)) := by
            have h := (MapKept.heap_alloc (w1.alloc T0) (.cells #[.int .i64 c, .int .i64 (q : Int)] 48)).1
            rw [show (w1.alloc T0).heap.size = w1.heap.size + 1 by simp] at h
            exact h
          have hbl2 := (hb2.block W.heap.size (by omega)).trans HBL.out
          have hc0 : (c != 0) = true := by simpa using nextX_code hnx2.out
          have HF := Lib.hid (fun p q => ((hB2.setCell (p := ⟨W.heap.size, 0, none⟩) (Nat.le_refl _) p).setCell (p := ⟨W.heap.size, 1, none⟩) (Nat.le_refl _) q).drew)
          have hne : w1.heap.size + 1 ≠ W.heap.size := by have := hb.size; omega
          clear hb hb2 hB2 HN HK HB hnx2
          unfold tokV stopV
          go_upto_region 8 with fail
          generalize ((w1.alloc T0).alloc (.cells #[.int .i64 c, .int .i64 (q : Int)] 48)) = w2 at *
          have y0 : w2.cell? ⟨w1.heap.size + 1, 0, none⟩ = some (.int .i64 c) := by rw [Lib.cell_of_heap hy]; rfl
          have y1 : w2.cell? ⟨w1.heap.size + 1, 1, none⟩ = some (.int .i64 (q : Int)) := by rw [Lib.cell_of_heap hy]; rfl
          have c0 : w2.cell? ⟨W.heap.size, 0, none⟩ = some (.int .i64 0) := by rw [Lib.cell_of_heap hbl2]; rfl
          have c1 : w2.cell? ⟨W.heap.size, 1, none⟩ = some (.int .i64 0) := by rw [Lib.cell_of_heap hbl2]; rfl
          have f0 := Lib.frozen_of_heap hbl2 0
          have f1 := Lib.frozen_of_heap hbl2 1
          clear hy hbl2
          go_region
          go_wp2
          refine bodyPost_ret (v := .tuple #[.slice none 0 0, stopV c q]) (by simp [results, Tryd.results35, go_sem, stopV, c0, c1]) rfl ?_
          rw [EQ.out]
          exact ⟨rfl, HF.out _ _⟩
        | tok k z t g =>
          simp only [hnx] at hgo
          rw [hnx] at HN
          have hin := nextX_in hlt hnx
          have hbz := blankE_in (txt s).b s.size (s.size + 1) z hin.2
          have HBK := Lib.hid (fun w => blank_any s (by omega) z hin.2 w)
          obtain ⟨p', hp'⟩ : ∃ p', blankE (txt s).b s.size (s.size + 1) z = p' := ⟨_, rfl⟩
          rw [hp'] at hgo hbz HBK
          have HGO := Lib.hid hgo
          clear hgo HG hnx hWr hp'
          go_wp2_with fail
          refine HN.out.mono ?_
          rintro e w1 ⟨v, rfl, hset, hb⟩
          obtain ⟨A, m, cap, rfl⟩ := hset.form
          have hb2 : Below wr.heap.size wr ((w1.alloc (.cells #[.int .i64 k, .int .i64 (p : Int), .int .i64 (z : Int), .string t, .slice A m cap] 62)).alloc S0) := (hb.alloc hb.size _).alloc (by have := hb.size; simp; omega) _
          have HK2 := Lib.hid (HK.out.stay hb2)
          have HB2 := Lib.hid (HB.out.trans (hb2.mono hszr))
          have hx : ((w1.alloc (.cells #[.int .i64 k, .int .i64 (p : Int), .int .i64 (z : Int), .string t, .slice A m cap] 62)).alloc S0).heap[w1.heap.size]? = some (.cells #[.int .i64 k, .int .i64 (p : Int), .int .i64 (z : Int), .string t, .slice A m cap] 62 (0, 0)) := (((MapKept.heap_alloc _ _).2 _ (by simp))).trans (heap_alloc_new _ _)
          have hy : ((w1.alloc (.cells #[.int .i64 k, .int .i64 (p : Int), .int .i64 (z : Int), .string t, .slice A m cap] 62)).alloc S0).heap[w1.heap.size + 1]? = some (.cells #[.int .i64 0, .int .i64 0] 48 (0, 0)) := by
            have h := (MapKept.heap_alloc (w1.alloc (.cells #[.int .i64 k, .int .i64 (p : Int), .int .i64 (z : Int), .string t, .slice A m cap] 62)) S0).1
            rw [show (w1.alloc (.cells #[.int .i64 k, .int .i64 (p : Int), .int .i64 (z : Int), .string t, .slice A m cap] 62)).heap.size = w1.heap.size + 1 by simp] at h
            exact h
          have hsz1 := hb.size
          have hszx : ((w1.alloc (.cells #[.int .i64 k, .int .i64 (p : Int), .int .i64 (z : Int), .string t, .slice A m cap] 62)).alloc S0).heap.size = w1.heap.size + 2 := by simp
          have HNE : Hid (∀ g, u4.ownBlock = some g → g ≠ w1.heap.size) := Lib.hid fun g hg => by have := HK.out.block_lt hg; have := hb.size; omega
          clear hb hb2 hset HN HK HB
          unfold tokV stopV
          go_upto_region 7 with fail
          generalize ((w1.alloc (.cells #[.int .i64 k, .int .i64 (p : Int), .int .i64 (z : Int), .string t, .slice A m cap] 62)).alloc S0) = w2 at *
          have x0 : w2.cell? ⟨w1.heap.size, 0, none⟩ = some (.int .i64 k) := by rw [Lib.cell_of_heap hx]; rfl
          have x1 : w2.cell? ⟨w1.heap.size, 1, none⟩ = some (.int .i64 (p : Int)) := by rw [Lib.cell_of_heap hx]; rfl
          have x2 : w2.cell? ⟨w1.heap.size, 2, none⟩ = some (.int .i64 (z : Int)) := by rw [Lib.cell_of_heap hx]; rfl
          have x3 : w2.cell? ⟨w1.heap.size, 3, none⟩ = some (.string t) := by rw [Lib.cell_of_heap hx]; rfl
          have x4 : w2.cell? ⟨w1.heap.size, 4, none⟩ = some (.slice A m cap) := by rw [Lib.cell_of_heap hx]; rfl
          have y0 : w2.cell? ⟨w1.heap.size + 1, 0, none⟩ = some (.int .i64 0) := by rw [Lib.cell_of_heap hy]; rfl
          have hne : some w1.heap.size ≠ u4.ownBlock := fun e => HNE.out _ e.symm rfl
          have hown := Lib.hid (show w2.ownsRow (W.heap.size + 1) 62 5 u4 L.length (tcells L) from HK2.out)
          have hlt1 : w1.heap.size + 1 < w2.heap.size := by omega
          clear hx hy HK2 hszx
          go_wp2_with (at_builtin; refine wpList_append_own _ rfl _ _ 58 rfl (W.heap.size + 1) 62 i0 (.agg #[.int .i64 0, .int .i64 0, .int .i64 0, .string ⟨#[]⟩, .slice none 0 0]) 5 64 Tryd.underlying58 hi hz0 hz1 hz2 rfl (by decide) _ _ _ rfl (hown.out.alloc _) ⟨w2.heap.size, 0, none⟩ 1 1 [.int .i64 k, .int .i64 (p : Int), .int .i64 (z : Int), .string t, .slice A m cap] rfl rfl ?c1 ?c2 ?c3 ?c4 ?c5 ?_)
          case c1 => exact news1 _ #[_, _, _, _, _] _
          case c2 => intro u hu; simp at hu; rcases hu with rfl | rfl | rfl | rfl | rfl <;> rfl
          case c3 => unfold maxLen; omega
          case c4 => omega
          case c5 => simp; omega
          intro v' w5 hown2 hgrow _
          have HR2 : Hid (Toks w5 (W.heap.size + 1) v' (L ++ [⟨k, p, z, t, .slice A m cap⟩])) := by
            unfold Toks
            rw [tcells_snoc, List.length_append]
            exact Lib.hid hown2
          have HB5 : Hid (Below (W.heap.size + 1) (W.alloc S0) w5) := ((HB2.out.alloc (by omega) _).grown hgrow (by simp; omega) fun k hk => (hown.out.lt k hk).1)
          have x2' : w5.cell? ⟨w1.heap.size, 2, none⟩ = some (.int .i64 (z : Int)) := (hgrow.cell_far ⟨w1.heap.size, 2, none⟩ (by simp; omega) hne).trans (((Below.refl w2.heap.size w2).alloc (Nat.le_refl _) _).cell (p := ⟨w1.heap.size, 2, none⟩) (by show w1.heap.size < _; omega) |>.trans x2)
          have HGO2 : Hid (allGo s f p' ((L ++ [(⟨k, p, z, t, .slice A m cap⟩ : Tk)]).map keyT) = E) := Lib.hid (by rw [List.map_append]; exact HGO.out)
          have hll : (L ++ [(⟨k, p, z, t, .slice A m cap⟩ : Tk)]).length ≤ p' := by simp; omega
          clear hown2 hgrow hown x0 x1 x2 x3 x4 y0
          go_wp2_with (go_at_call 60; refine (HBK.out _).mono ?_; rintro e w' ⟨rfl, rfl⟩)
          go_roundw
          case rel => exact ⟨p', f, _, by omega, by omega, rfl, hll, HGO2.out, HR2.out, HB5.out⟩
          case measure => simp [intOf]; omega
      · have g1 : ¬ (p : Int) < (s.size : Int) := by omega
        have g2 : decide ((p : Int) < (s.size : Int)) = false := decide_eq_false g1
        have hgo := HG.out
        rw [allGo_end hlt (by omega)] at hgo
        have EQ := Lib.hid hgo.symm
        have hown := Lib.hid (show wr.ownsRow (W.heap.size + 1) 62 5 u4 L.length (tcells L) from HK.out)
        have hne : some W.heap.size ≠ u4.ownBlock := fun e => by have := HK.out.lt e.symm; omega
        clear hgo HG HK
        go_wp2_with (at_builtin; refine wpList_append_own _ rfl _ _ 58 rfl (W.heap.size + 1) 62 i0 (.agg #[.int .i64 0, .int .i64 0, .int .i64 0, .string ⟨#[]⟩, .slice none 0 0]) 5 64 Tryd.underlying58 hi hz0 hz1 hz2 rfl (by decide) _ _ _ rfl (hown.out.alloc _) ⟨wr.heap.size, 0, none⟩ 1 1 [.int .i64 0, .int .i64 (s.size : Int), .int .i64 (s.size : Int), .string ⟨#[]⟩, .slice none 0 0] rfl rfl ?e1 ?e2 ?e3 ?e4 ?e5 ?_)
        case e2 => exact ⟨rfl, rfl, rfl, rfl⟩
        case e3 => unfold maxLen; omega
        case e4 => omega
        case e5 => omega
        intro v' w5 hown2 hgrow _
        have HR2 : Toks w5 (W.heap.size + 1) v' (L ++ [⟨0, s.size, s.size, ⟨#[]⟩, .slice none 0 0⟩]) := by
          unfold Toks
          rw [tcells_snoc, List.length_append]
          exact hown2
        obtain ⟨A, cap, rfl⟩ := HR2.form
        have hbl5 : w5.heap[W.heap.size]? = some (.cells #[.int .i64 0, .int .i64 0] 48 (0, 0)) := by
          rw [hgrow.block W.heap.size (by simp; omega) hne]
          exact (Below.heap_alloc wr _ _ (by omega)).trans HBL.out
        have c0 : w5.cell? ⟨W.heap.size, 0, none⟩ = some (.int .i64 0) := by rw [Lib.cell_of_heap hbl5]; rfl
        have c1 : w5.cell? ⟨W.heap.size, 1, none⟩ = some (.int .i64 0) := by rw [Lib.cell_of_heap hbl5]; rfl
        have f0 := Lib.frozen_of_heap hbl5 0
        have f1 := Lib.frozen_of_heap hbl5 1
        have hB5 : Below W.heap.size W w5 := HBS.out.trans (((HB.out.alloc (by omega) _).grown hgrow (by simp; omega) fun k hk => (hown.out.lt k hk).1).mono (by omega))
        have HF := Lib.hid (fun p q => (hB5.setCell (p := ⟨W.heap.size, 0, none⟩) (Nat.le_refl _) p).setCell (p := ⟨W.heap.size, 1, none⟩) (Nat.le_refl _) q)
        have hn5 : (Value.slice A (L ++ [(⟨0, s.size, s.size, ⟨#[]⟩, .slice none 0 0⟩ : Tk)]).length cap).ownBlock ≠ some W.heap.size := fun e => by have := HR2.lt e; omega
        have HRR := Lib.hid (fun p q => (((HR2.setFar (p := ⟨W.heap.size, 0, none⟩) hn5 p).setFar (p := ⟨W.heap.size, 1, none⟩) hn5 q).low (Nat.le_succ W.heap.size)))
        obtain ⟨nn, hnn⟩ : ∃ nn, (L ++ [(⟨0, s.size, s.size, ⟨#[]⟩, .slice none 0 0⟩ : Tk)]).length = nn := ⟨_, rfl⟩
        rw [hnn] at HRR ⊢
        clear hown2 hgrow hown hbl5 hB5 HR2 hn5 hnn
        go_wp2
        refine bodyPost_ret (v := .tuple #[.slice A nn cap, stopV 0 0]) (by simp [results, Tryd.results35, go_sem, stopV, c0, c1]) rfl ?_
        rw [EQ.out]
        refine ⟨_, _, rfl, HRR.out _ _, ?_, HF.out _ _⟩
        rw [List.map_append]
        rfl

end Go.Proofs.YtfjlhfalnciamaaDoor.Lex
