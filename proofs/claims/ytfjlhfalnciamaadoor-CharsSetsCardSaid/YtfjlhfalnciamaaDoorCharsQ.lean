/- What stands between brackets (Read), walked: the loop. -/
import Derived.Test.YtfjlhfalnciamaaDoorCharsP
namespace Go.Proofs.YtfjlhfalnciamaaDoor.Chars
open Go Go.RowKit Go.Proofs.Chars
open Go.Proofs.YtfjlhfalnciamaaDoor.Utf

theorem stop_block {W wx : World} (hB : Below (W.heap.size + 1) (W.alloc (.cells #[.int .i64 0, .int .i64 0] 48)) wx) : wx.heap[W.heap.size]? = some (.cells #[.int .i64 0, .int .i64 0] 48 (0, 0)) :=
  (hB.block _ (by omega)).trans (heap_alloc_new W _)
theorem bad_ret {W wx : World} (hB : Below (W.heap.size + 1) (W.alloc (.cells #[.int .i64 0, .int .i64 0] 48)) wx) (p q : Value) :
    Below W.heap.size W ((wx.setCell ⟨W.heap.size, 0, none⟩ p).setCell ⟨W.heap.size, 1, none⟩ q) :=
  (((((RowKit.Below.refl _ W).alloc (Nat.le_refl _) _).trans (hB.mono (by omega))).setCell (p := ⟨W.heap.size, 0, none⟩) (Nat.le_refl _) _).setCell (p := ⟨W.heap.size, 1, none⟩) (Nat.le_refl _) _)

set_option maxHeartbeats 1000000 in
set_option maxRecDepth 100000 in
theorem read_any (s : ByteArray) (hs : s.size ≤ 50000) (W : World) (T : U8 W) :
    Calls Tryd.prog 29 #[.string s] W fun e w' => ReadP W (readE s) e w' := by
  obtain ⟨i0, hi, hz0, hz1, hz2⟩ := info_parts info44
  obtain ⟨E, hE⟩ : ∃ E, readE s = E := ⟨_, rfl⟩
  rw [hE]
  unfold readE at hE
  by_cases h0 : s.size = 0
  · rw [if_pos h0] at hE
    subst hE
    have hs0 : s = ⟨#[]⟩ := by
      have : s.data.toList.length = 0 := by rw [← Lib.size_eq]; exact h0
      cases s with
      | mk d => congr 1; apply Array.toList_inj.1; simpa using this
    subst hs0
    clear h0
    go_enter Tryd.func29, Tryd.ntmps29
    go_wp2_with fail
    refine bodyPost_ret (v := .tuple #[.slice none 0 0, stopV 14 0]) (by simp [results, Tryd.results29, go_sem, stopV]) rfl ?_
    exact ⟨rfl, (RowKit.Below.refl _ W).alloc (Nat.le_refl _) _⟩
  · rw [if_neg h0] at hE
    have HE := Lib.hid hE
    have hne : s.toList ≠ [] := by
      intro h
      have : s.data.toList.length = 0 := by
        have h2 : s.toList = s.data.toList := Lib.toList_data s
        rw [← h2, h]; rfl
      rw [← Lib.size_eq] at this
      omega
    have n1 : (s.toList == []) = false := by simpa using hne
    have hby : ∀ i (h : i < s.size), (s[i]'h).toNat = (txt s).b i := fun i h => by rw [get_bang]; rfl
    have HBY := Lib.hid hby
    have HT := Lib.hid (T.stay ((RowKit.Below.refl _ W).alloc (Nat.le_refl _) (.cells #[.int .i64 0, .int .i64 0] 48)))
    have hTB := T
    clear hE hby hne T hTB
    go_enter Tryd.func29, Tryd.ntmps29
    go_wp2_with fail
    go_loopw [4, 5, 6, 7, 8, 9, 10] (fun v i x6 x7 x8 x9 x10 wx => ∃ (a f : Nat) (l : List Rg), a ≤ s.size ∧ s.size - a ≤ f ∧ i = .int .i64 (a : Int) ∧ l.length ≤ a ∧ (∀ x ∈ l, in32 x) ∧ readGo s f a l = E ∧ Rowed wx (W.heap.size + 1) v l ∧ Below (W.heap.size + 1) (W.alloc (.cells #[.int .i64 0, .int .i64 0] 48)) wx) (fun _ i _ _ _ _ _ _ => s.size - (intOf i).toNat)
    case atStart => exact ⟨0, s.size, [], Nat.zero_le _, by omega, rfl, Nat.le_refl _, by simp, HE.out, ⟨rfl, .inl ⟨rfl, rfl⟩⟩, Below.refl _ _⟩
    case round =>
      obtain ⟨a, f, l, ha, hf, rfl, hll, hin, hgo, hrow, hB⟩ := hrel
      have HG := Lib.hid hgo
      have HIN := Lib.hid hin
      have HW := Lib.hid hrow
      have HB := Lib.hid hB
      have hbl := stop_block hB
      have hsz := hB.size
      simp at hsz
      have HBL := Lib.hid hbl
      have HTr := Lib.hid (HT.out.stay (by simpa using hB))
      clear hgo hin hrow hB hbl
      by_cases hlt : a < s.size
      · have g1 : (a : Int) < (s.size : Int) := by omega
        obtain ⟨f', rfl⟩ : ∃ f', f = f' + 1 := ⟨f - 1, by omega⟩
        have HS := Lib.hid (sign_at s (by omega) a hlt wr HTr.out)
        cases hsg : sgnE s a with
        | err c =>
          have hce := sgnE_err hsg
          have hEc : E = .bad c a := by have := HG.out; rw [readGo, if_pos hlt, hsg] at this; exact this.symm
          rw [hsg] at HS
          unfold sgnV at HS
          have hc0 : (c != 0) = true := by rcases hce with rfl | rfl <;> rfl
          have EQ := Lib.hid hEc
          clear hsg hEc hce
          go_wp2_with fail
          refine HS.out.mono ?_
          rintro e w2 ⟨rfl, hb2⟩
          have bl2 := (hb2.block W.heap.size (by omega)).trans HBL.out
          have HB2 : Hid (Below (W.heap.size + 1) (W.alloc (.cells #[.int .i64 0, .int .i64 0] 48)) w2) := HB.out.trans (hb2.mono hsz)
          clear hb2 HS
          have c0 : w2.cell? ⟨W.heap.size, 0, none⟩ = some (.int .i64 0) := by rw [Lib.cell_of_heap bl2]; rfl
          have c1 : w2.cell? ⟨W.heap.size, 1, none⟩ = some (.int .i64 0) := by rw [Lib.cell_of_heap bl2]; rfl
          have f0 := Lib.frozen_of_heap bl2 0
          have f1 := Lib.frozen_of_heap bl2 1
          have HF := Lib.hid (fun p q => bad_ret HB2.out p q)
          clear bl2
          go_wp2
          refine bodyPost_ret (v := .tuple #[.slice none 0 0, stopV c a]) (by simp [results, Tryd.results29, go_sem, stopV, c0, c1]) rfl ?_
          rw [EQ.out]
          exact ⟨rfl, HF.out _ _⟩
        | sgn lo nx =>
          obtain ⟨hv, hnx1, hnx2⟩ := sgnE_in hlt hsg
          have hlo := (valid_iff lo).1 hv
          rw [hsg] at HS
          unfold sgnV at HS
          have hgo2 := HG.out
          rw [readGo, if_pos hlt, hsg] at hgo2
          simp only [] at hgo2
          have HG2 := Lib.hid hgo2
          clear hsg hv hgo2
          go_wp2_with fail
          refine HS.out.mono ?_
          rintro e w2 ⟨rfl, hb2⟩
          have bl2 := (hb2.block W.heap.size (by omega)).trans HBL.out
          have HB2 : Hid (Below (W.heap.size + 1) (W.alloc (.cells #[.int .i64 0, .int .i64 0] 48)) w2) := HB.out.trans (hb2.mono hsz)
          have HW2 := Lib.hid (HW.out.stay hb2)
          have HT2 := Lib.hid (HTr.out.stay hb2)
          have hsz2 : W.heap.size + 1 ≤ w2.heap.size := by have := hb2.size; omega
          clear hb2 HS
          by_cases hd1 : nx + 1 < s.size
          · have g2 : (nx : Int) + 1 < (s.size : Int) := by omega
            have g2' : decide ((nx : Int) + 1 < (s.size : Int)) = true := decide_eq_true g2
            have g3 : (nx : Int) < (s.size : Int) := by omega
            have hlb : nx < s.size := by omega
            have hby := HBY.out nx hlb
            by_cases hd2 : (txt s).b nx = 45
            · have d3 : (((s[nx]'hlb).toNat : Int) == 45) = true := by rw [hby, hd2]; rfl
              have hE2 := HG2.out
              rw [if_pos ⟨hd1, hd2⟩] at hE2
              have HS2 := Lib.hid (sign_at s (by omega) (nx + 1) hd1 w2 HT2.out)
              rw [show ((nx + 1 : Nat) : Int) = (nx : Int) + 1 by omega] at HS2
              cases hsg : sgnE s (nx + 1) with
              | err c =>
                have hce := sgnE_err hsg
                rw [hsg] at hE2
                have EQ : Hid (E = .bad c (nx + 1)) := hE2.symm
                rw [hsg] at HS2
                unfold sgnV at HS2
                have hc0 : (c != 0) = true := by rcases hce with rfl | rfl <;> rfl
                have HBL2 := Lib.hid bl2
                clear hsg hE2 hce hby hd2 bl2
                go_wp2_with fail
                refine HS2.out.mono ?_
                rintro e w3 ⟨rfl, hb3⟩
                have bl2 := (hb3.block W.heap.size (by omega)).trans HBL2.out
                have HB3 : Hid (Below (W.heap.size + 1) (W.alloc (.cells #[.int .i64 0, .int .i64 0] 48)) w3) := HB2.out.trans (hb3.mono hsz2)
                clear hb3 HS2
                have c0 : w3.cell? ⟨W.heap.size, 0, none⟩ = some (.int .i64 0) := by rw [Lib.cell_of_heap bl2]; rfl
                have c1 : w3.cell? ⟨W.heap.size, 1, none⟩ = some (.int .i64 0) := by rw [Lib.cell_of_heap bl2]; rfl
                have f0 := Lib.frozen_of_heap bl2 0
                have f1 := Lib.frozen_of_heap bl2 1
                have HF := Lib.hid (fun p q => bad_ret HB3.out p q)
                clear bl2
                go_wp2
                refine bodyPost_ret (v := .tuple #[.slice none 0 0, stopV c (nx + 1)]) (by rw [show stopV c (nx + 1) = .agg #[.int .i64 c, .int .i64 ((nx : Int) + 1)] by simp only [stopV]; rw [show ((nx + 1 : Nat) : Int) = (nx : Int) + 1 by omega]]; simp [results, Tryd.results29, go_sem, c0, c1]) rfl ?_
                rw [EQ.out]
                exact ⟨by simp only [stopV], HF.out _ _⟩
              | sgn hi' n2 =>
                obtain ⟨hv2, hn21, hn22⟩ := sgnE_in hd1 hsg
                have hhi := (valid_iff hi').1 hv2
                rw [hsg] at hE2
                simp only [] at hE2
                rw [hsg] at HS2
                unfold sgnV at HS2
                have HE2 := Lib.hid hE2
                have HBL2 := Lib.hid bl2
                clear hsg hE2 hby hd2 bl2 hv2
                go_wp2_with fail
                refine HS2.out.mono ?_
                rintro e w3 ⟨rfl, hb3⟩
                have bl2 := (hb3.block W.heap.size (by omega)).trans HBL2.out
                have HB3 : Hid (Below (W.heap.size + 1) (W.alloc (.cells #[.int .i64 0, .int .i64 0] 48)) w3) := HB2.out.trans (hb3.mono hsz2)
                have HW3 := Lib.hid (HW2.out.stay hb3)
                have hsz3 : W.heap.size + 1 ≤ w3.heap.size := by have := hb3.size; omega
                clear hb3 HS2
                by_cases hlt2 : hi' < lo
                · have dlt : decide (hi' < lo) = true := decide_eq_true hlt2
                  have EQ : Hid (E = .bad 13 a) := by have := HE2.out; rw [if_pos hlt2] at this; exact this.symm
                  have c0 : w3.cell? ⟨W.heap.size, 0, none⟩ = some (.int .i64 0) := by rw [Lib.cell_of_heap bl2]; rfl
                  have c1 : w3.cell? ⟨W.heap.size, 1, none⟩ = some (.int .i64 0) := by rw [Lib.cell_of_heap bl2]; rfl
                  have f0 := Lib.frozen_of_heap bl2 0
                  have f1 := Lib.frozen_of_heap bl2 1
                  have HF := Lib.hid (fun p q => bad_ret HB3.out p q)
                  clear bl2
                  go_wp2
                  refine bodyPost_ret (v := .tuple #[.slice none 0 0, stopV 13 a]) (by simp [results, Tryd.results29, go_sem, stopV, c0, c1]) rfl ?_
                  rw [EQ.out]
                  exact ⟨rfl, HF.out _ _⟩
                · have dlt : decide (hi' < lo) = false := decide_eq_false hlt2
                  have hEn : readGo s f' n2 (l ++ [(lo, hi')]) = E := by have := HE2.out; rw [if_neg hlt2] at this; exact this
                  have HEN := Lib.hid hEn
                  have HRG : Hid (in32 (lo, hi')) := ⟨⟨by show -2147483648 ≤ lo; omega, by show lo ≤ 2147483647; omega⟩, by show -2147483648 ≤ hi'; omega, by show hi' ≤ 2147483647; omega⟩
                  have hown := Lib.hid (show w3.ownsRow (W.heap.size + 1) 44 2 u4 l.length (rcells l) from HW3.out)
                  clear hEn bl2
                  go_wp2_with (at_builtin; refine wpList_append_own _ rfl _ _ 22 rfl (W.heap.size + 1) 44 i0 (.agg #[.int .i32 0, .int .i32 0]) 2 8 Tryd.underlying22 hi hz0 hz1 hz2 rfl (by decide) _ _ _ rfl (hown.out.alloc _) ⟨w3.heap.size, 0, none⟩ 1 1 [.int .i32 lo, .int .i32 hi'] rfl rfl ?c1 ?c2 ?c3 ?c4 ?c5 ?_)
                  case c1 => exact news1 _ #[_, _] _
                  case c2 => intro u hu; simp at hu; rcases hu with rfl | rfl <;> rfl
                  case c3 => unfold maxLen; omega
                  case c4 => omega
                  case c5 => simp; omega
                  intro v' w5 hown2 hgrow _
                  have HR2 : Hid (Rowed w5 (W.heap.size + 1) v' (l ++ [(lo, hi')])) := by
                    unfold Rowed
                    rw [rcells_append, List.length_append]
                    exact Lib.hid hown2
                  have HB5 : Hid (Below (W.heap.size + 1) (W.alloc (.cells #[.int .i64 0, .int .i64 0] 48)) w5) := ((HB3.out.alloc (by omega) _).grown hgrow (by simp; omega) fun k hk => (hown.out.lt k hk).1)
                  have hin2 : ∀ x ∈ l ++ [(lo, hi')], in32 x := fun x hx => by
                    rcases List.mem_append.1 hx with h | h
                    · exact HIN.out x h
                    · simp at h; subst h; exact HRG.out
                  have HIN2 := Lib.hid hin2
                  have hll2 : (l ++ [(lo, hi')]).length ≤ a + 1 := by simp; omega
                  clear hown2 hgrow hown hin2
                  go_wp2
                  go_roundw
                  case rel => exact ⟨n2, f', _, hn22, by omega, rfl, by omega, HIN2.out, HEN.out, HR2.out, HB5.out⟩
                  case measure => simp [intOf]; omega
            · have d3 : (((s[nx]'hlb).toNat : Int) == 45) = false := by rw [hby]; simp; omega
              have hEn : readGo s f' nx (l ++ [(lo, lo)]) = E := by have := HG2.out; rw [if_neg (by omega)] at this; exact this
              have HEN := Lib.hid hEn
              have HRG : Hid (in32 (lo, lo)) := ⟨⟨by show -2147483648 ≤ lo; omega, by show lo ≤ 2147483647; omega⟩, by show -2147483648 ≤ lo; omega, by show lo ≤ 2147483647; omega⟩
              have hown := Lib.hid (show w2.ownsRow (W.heap.size + 1) 44 2 u4 l.length (rcells l) from HW2.out)
              have dlt : decide (lo < lo) = false := decide_eq_false (by omega)
              clear hEn hby hd2 bl2
              go_wp2_with (at_builtin; refine wpList_append_own _ rfl _ _ 22 rfl (W.heap.size + 1) 44 i0 (.agg #[.int .i32 0, .int .i32 0]) 2 8 Tryd.underlying22 hi hz0 hz1 hz2 rfl (by decide) _ _ _ rfl (hown.out.alloc _) ⟨w2.heap.size, 0, none⟩ 1 1 [.int .i32 lo, .int .i32 lo] rfl rfl ?c1 ?c2 ?c3 ?c4 ?c5 ?_)
              case c1 => exact news1 _ #[_, _] _
              case c2 => intro u hu; simp at hu; rcases hu with rfl | rfl <;> rfl
              case c3 => unfold maxLen; omega
              case c4 => omega
              case c5 => simp; omega
              intro v' w5 hown2 hgrow _
              have HR2 : Hid (Rowed w5 (W.heap.size + 1) v' (l ++ [(lo, lo)])) := by
                unfold Rowed
                rw [rcells_append, List.length_append]
                exact Lib.hid hown2
              have HB5 : Hid (Below (W.heap.size + 1) (W.alloc (.cells #[.int .i64 0, .int .i64 0] 48)) w5) := ((HB2.out.alloc (by omega) _).grown hgrow (by simp; omega) fun k hk => (hown.out.lt k hk).1)
              have hin2 : ∀ x ∈ l ++ [(lo, lo)], in32 x := fun x hx => by
                rcases List.mem_append.1 hx with h | h
                · exact HIN.out x h
                · simp at h; subst h; exact HRG.out
              have HIN2 := Lib.hid hin2
              have hll2 : (l ++ [(lo, lo)]).length ≤ a + 1 := by simp; omega
              clear hown2 hgrow hown hin2
              go_wp2
              go_roundw
              case rel => exact ⟨nx, f', _, hnx2, by omega, rfl, by omega, HIN2.out, HEN.out, HR2.out, HB5.out⟩
              case measure => simp [intOf]; omega
          · have g2 : ¬ (nx : Int) + 1 < (s.size : Int) := by omega
            have g2' : decide ((nx : Int) + 1 < (s.size : Int)) = false := decide_eq_false g2
            have hEn : readGo s f' nx (l ++ [(lo, lo)]) = E := by have := HG2.out; rw [if_neg (by omega)] at this; exact this
            have HEN := Lib.hid hEn
            have HRG : Hid (in32 (lo, lo)) := ⟨⟨by show -2147483648 ≤ lo; omega, by show lo ≤ 2147483647; omega⟩, by show -2147483648 ≤ lo; omega, by show lo ≤ 2147483647; omega⟩
            have hown := Lib.hid (show w2.ownsRow (W.heap.size + 1) 44 2 u4 l.length (rcells l) from HW2.out)
            have dlt : decide (lo < lo) = false := decide_eq_false (by omega)
            clear hEn bl2
            go_wp2_with (at_builtin; refine wpList_append_own _ rfl _ _ 22 rfl (W.heap.size + 1) 44 i0 (.agg #[.int .i32 0, .int .i32 0]) 2 8 Tryd.underlying22 hi hz0 hz1 hz2 rfl (by decide) _ _ _ rfl (hown.out.alloc _) ⟨w2.heap.size, 0, none⟩ 1 1 [.int .i32 lo, .int .i32 lo] rfl rfl ?c1 ?c2 ?c3 ?c4 ?c5 ?_)
            case c1 => exact news1 _ #[_, _] _
            case c2 => intro u hu; simp at hu; rcases hu with rfl | rfl <;> rfl
            case c3 => unfold maxLen; omega
            case c4 => omega
            case c5 => simp; omega
            intro v' w5 hown2 hgrow _
            have HR2 : Hid (Rowed w5 (W.heap.size + 1) v' (l ++ [(lo, lo)])) := by
              unfold Rowed
              rw [rcells_append, List.length_append]
              exact Lib.hid hown2
            have HB5 : Hid (Below (W.heap.size + 1) (W.alloc (.cells #[.int .i64 0, .int .i64 0] 48)) w5) := ((HB2.out.alloc (by omega) _).grown hgrow (by simp; omega) fun k hk => (hown.out.lt k hk).1)
            have hin2 : ∀ x ∈ l ++ [(lo, lo)], in32 x := fun x hx => by
              rcases List.mem_append.1 hx with h | h
              · exact HIN.out x h
              · simp at h; subst h; exact HRG.out
            have HIN2 := Lib.hid hin2
            have hll2 : (l ++ [(lo, lo)]).length ≤ a + 1 := by simp; omega
            clear hown2 hgrow hown hin2
            go_wp2
            go_roundw
            case rel => exact ⟨nx, f', _, hnx2, by omega, rfl, by omega, HIN2.out, HEN.out, HR2.out, HB5.out⟩
            case measure => simp [intOf]; omega
      · have g1 : ¬ (a : Int) < (s.size : Int) := by omega
        have EQ : Hid (E = .good l) := by
          have := HG.out
          cases f with
          | zero => rw [readGo] at this; exact this.symm
          | succ f => rw [readGo, if_neg hlt] at this; exact this.symm
        have HO := Lib.hid (of_any (HW.out.rgs HIN.out) (by omega))
        clear hlt
        go_wp2_with fail
        refine HO.out.mono ?_
        rintro e w2 ⟨v2, O, rfl, hr2, hof, hol, hb2⟩
        have bl2 := (hb2.block W.heap.size (by omega)).trans HBL.out
        have HB2 : Hid (Below (W.heap.size + 1) (W.alloc (.cells #[.int .i64 0, .int .i64 0] 48)) w2) := HB.out.trans (hb2.mono hsz)
        have HR2 := Lib.hid hr2
        have HOF := Lib.hid hof
        have hne2 : v2.ownBlock ≠ some W.heap.size := fun e => by
          rcases hr2.2 with ⟨rfl, _⟩ | ⟨g, cap, cur, rfl, h1, _⟩
          · cases e
          · have : g = W.heap.size := by simpa [Value.ownBlock] using e
            omega
        have HNE := Lib.hid hne2
        obtain ⟨A2, cap2, rfl⟩ := hr2.form
        clear hr2 hof hb2 HO hne2
        have c0 : w2.cell? ⟨W.heap.size, 0, none⟩ = some (.int .i64 0) := by rw [Lib.cell_of_heap bl2]; rfl
        have c1 : w2.cell? ⟨W.heap.size, 1, none⟩ = some (.int .i64 0) := by rw [Lib.cell_of_heap bl2]; rfl
        have f0 := Lib.frozen_of_heap bl2 0
        have f1 := Lib.frozen_of_heap bl2 1
        have HF := Lib.hid (fun p q => bad_ret HB2.out p q)
        have HRR : Hid (∀ p q, Rowed ((w2.setCell ⟨W.heap.size, 0, none⟩ p).setCell ⟨W.heap.size, 1, none⟩ q) W.heap.size (.slice A2 O.length cap2) O) := fun p q =>
          ((HR2.out.setFar (p := ⟨W.heap.size, 0, none⟩) HNE.out p).setFar (p := ⟨W.heap.size, 1, none⟩) HNE.out q).low (by omega)
        clear bl2
        go_wp2
        refine bodyPost_ret (v := .tuple #[.slice A2 O.length cap2, stopV 0 0]) (by simp [results, Tryd.results29, go_sem, stopV, c0, c1]) rfl ?_
        rw [EQ.out]
        exact ⟨_, O, rfl, HRR.out _ _, HOF.out, hol, HF.out _ _⟩

end Go.Proofs.YtfjlhfalnciamaaDoor.Chars
