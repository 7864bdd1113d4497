/- Sets as rows of words: And, Less, walked. -/
import Derived.Test.YtfcdmkfbkkogbaaDoorBitsC
namespace Go.Proofs.YtfcdmkfbkkogbaaDoor.Bits
open Go Go.RowKit

def andF (o : List Nat) (i x : Nat) : Nat := x &&& wd o i
def lessF (o : List Nat) (i x : Nat) : Nat := lessW x (wd o i)
theorem andF_zero (o : List Nat) (i : Nat) : andF o i 0 = 0 := Nat.zero_and _
theorem lessF_zero (o : List Nat) (i : Nat) : lessF o i 0 = 0 := Nat.zero_and _
theorem andF_lt (o : List Nat) (i : Nat) {x : Nat} (h : x < 18446744073709551616) : andF o i x < 18446744073709551616 := Nat.lt_of_le_of_lt Nat.and_le_left h
theorem lessF_lt (o : List Nat) (i : Nat) {x : Nat} (h : x < 18446744073709551616) : lessF o i x < 18446744073709551616 := lessW_lt _ h

theorem Words.len {w : World} {v : Value} {l : List Nat} (h : Words w v l) (ty : TypeId) (w' : World) : (Builtin.len_ #[64] ty #[v]).run Tryd.prog w' = .ok (.int .i64 (l.length : Int)) w' := by
  rcases h.1 with ⟨rfl, rfl⟩ | ⟨x, cap, rfl, rfl⟩ | ⟨b, off, cap, rfl, _⟩
  · simp [Builtin.len_, run_underlying Tryd.underlying64, goInt, Result.andThen]
  · simp [Builtin.len_, run_underlying Tryd.underlying64, goInt, Result.andThen]
  · simp [Builtin.len_, run_underlying Tryd.underlying64, goInt, Result.andThen]

set_option maxRecDepth 100000 in
theorem less_any {w : World} {vs vo : Value} {s o : List Nat} (Hs : Words w vs s) (Ho : Words w vo o) :
    Calls Tryd.prog 72 #[vs, vo] w fun e w' => ∃ v' l', e = .returned v' ∧ Own w' w.heap.size v' l' ∧ tl l' = l'.length ∧ (∀ i, wd l' i = lessF o i (wd s i)) ∧ Below w.heap.size w w' := by
  have htl := tl_le s
  have HT := Lib.hid (tidied_any Hs)
  have HS := Lib.hid Hs
  have HO := Lib.hid Ho
  obtain ⟨S, hS⟩ : ∃ S, S = w.heap.size := ⟨_, rfl⟩
  have HSS := Lib.hid hS
  obtain ⟨no, hno⟩ : ∃ no, no = o.length := ⟨_, rfl⟩
  have HNO := Lib.hid hno
  have hlenO : ∀ ty w', (Builtin.len_ #[64] ty #[vo]).run Tryd.prog w' = .ok (.int .i64 (no : Int)) w' := fun ty w' => by rw [hno]; exact Ho.len ty w'
  have hnomax : no ≤ 9223372036854775807 := by have := Ho.2.2; unfold maxLen at this; omega
  have hshape : no = 0 ∨ ∃ bo oo co, vo = .slice (some ⟨bo, oo, none⟩) no co := by
    by_cases h0 : o.length = 0
    · exact .inl (by omega)
    · obtain ⟨bo, oo, co, e, _⟩ := Ho.at (by omega)
      exact .inr ⟨bo, oo, co, by rw [hno]; exact e⟩
  have hlt2 : ∀ i x, o[i]? = some x → x < 18446744073709551616 := fun i x h => Ho.2.1 x (List.mem_of_getElem? h)
  have HL2 := Lib.hid hlt2
  clear hno Hs Ho htl hlt2
  rw [← hS]
  clear hS
  go_enter Tryd.func72, Tryd.ntmps72
  go_wp2_with fail
  refine HT.out.mono ?_
  rintro e w1 ⟨v1, rfl, hown, hB⟩
  rw [← HSS.out] at hown hB
  obtain ⟨l, hl⟩ : ∃ l, l = s.take (tl s) := ⟨_, rfl⟩
  rw [← hl] at hown
  have HL := Lib.hid hl
  have hl1024 : l.length ≤ 1024 := by rw [hl, List.length_take]; have := tl_le s; omega
  have hlen1 : ∀ ty w', (Builtin.len_ #[64] ty #[v1]).run Tryd.prog w' = .ok (.int .i64 (l.length : Int)) w' := fun ty w' => hown.words.len ty w'
  have HOwn := Lib.hid hown
  have HB := Lib.hid hB
  by_cases hl0 : l.length = 0
  · have hv1 : v1 = .slice none 0 0 ∨ ∃ x cap, v1 = .slice (some x) 0 cap := by
      rcases hown.words.1 with ⟨h, _⟩ | ⟨x, cap, h, _⟩ | ⟨b, off, cap, h, hne, _⟩
      · exact .inl h
      · exact .inr ⟨x, cap, h⟩
      · exact absurd (List.length_eq_zero_iff.1 hl0) hne
    have hnil : l = [] := List.length_eq_zero_iff.1 hl0
    have HTL := Lib.hid (tidyLong_any hown.words)
    have hres : Own w1 S v1 [] ∧ tl [] = ([] : List Nat).length ∧ ∀ i, wd [] i = lessF o i (wd s i) := by
      rw [hnil] at hown
      refine ⟨hown, rfl, fun i => ?_⟩
      have h0 : tl s = 0 := by
        have h1 : (s.take (tl s)).length = 0 := by rw [← hl]; exact hl0
        rw [List.length_take] at h1
        have := (tl_le s).1
        omega
      rw [wd_ge (l := s) (by omega), lessF_zero]
      unfold wd; split <;> simp
    have HR := Lib.hid hres
    rw [hnil] at hlen1 HTL
    clear hown hB hl hl1024 hl0 hnil hres
    rcases hv1 with rfl | ⟨x, cap, rfl⟩
    all_goals
      go_wp2_with fail
      go_loopw [11] (fun i wx => i = .int .i64 0 ∧ w1 = wx) (fun _ _ => 0)
      case atStart => exact ⟨rfl, rfl⟩
      case round =>
        obtain ⟨rfl, rfl⟩ := hrel
        go_wp2_with fail
        refine HTL.out.mono ?_
        rintro e w2 ⟨rfl, rfl⟩
        have htl0 : tl ([] : List Nat) = 0 := rfl
        go_wp2
        go_ret
        exact ⟨_, [], rfl, HR.out.1, HR.out.2.1, HR.out.2.2, HB.out⟩
  · obtain ⟨g, cap, rfl⟩ : ∃ g cap, v1 = .slice (some ⟨g, 0, none⟩) l.length cap := by
      rcases hown.1.2 with ⟨_, h⟩ | ⟨g, cap, _, rfl, _⟩
      · exact absurd h hl0
      · exact ⟨g, cap, rfl⟩
    have hcap : l.length ≤ cap := by
      rcases hown.1.2 with ⟨e, _⟩ | ⟨g', cap', _, e, _, _, h, _⟩
      · cases e
      · simp only [Value.slice.injEq] at e; omega
    have HR0 : Hid (Row w S g cap l (fun i x => lessF o i x) 0 w1) := ⟨by rw [stepL_zero]; exact hown.1, hB⟩
    clear hown hB hl hl0
    go_wp2_with fail
    go_loopw [11] (fun i wx => ∃ j : Nat, j ≤ l.length ∧ i = .int .i64 j ∧ Row w S g cap l (fun i x => lessF o i x) j wx) (fun i _ => l.length - (intOf i).toNat)
    case atStart => exact ⟨0, Nat.zero_le _, rfl, HR0.out⟩
    case round =>
      obtain ⟨j, hj, rfl, hR⟩ := hrel
      by_cases hlt : j < l.length
      · obtain ⟨x, hx⟩ : ∃ x, l[j]? = some x := ⟨l[j], List.getElem?_eq_getElem _⟩
        have hcx := hR.cell hx
        have hfx := hR.1.frozenAt j
        have hxlt := HOwn.out.2.1 x (List.mem_of_getElem? hx)
        have HR := Lib.hid hR
        have HX := Lib.hid hx
        by_cases hjo : j < no
        · obtain ⟨bo, oo, co, rfl⟩ : ∃ bo oo co, vo = .slice (some ⟨bo, oo, none⟩) no co := by
            rcases hshape with h | h
            · omega
            · exact h
          obtain ⟨y, hy⟩ : ∃ y, o[j]? = some y := ⟨o[j]'(by rw [← HNO.out]; exact hjo), List.getElem?_eq_getElem _⟩
          have hcy : wr.cell? ⟨bo, oo + j, none⟩ = some (wordV y) := by
            obtain ⟨b2, o2, c2, e, _, _, hb, hc⟩ := HO.out.at (by rw [← HNO.out]; omega)
            simp only [Value.slice.injEq, Option.some.injEq, Addr.mk.injEq, and_true] at e
            obtain ⟨⟨rfl, rfl⟩, -⟩ := e
            exact (hR.2.cell (p := ⟨bo, oo + j, none⟩) (by rw [HSS.out]; exact hb)).trans (hc j y hy)
          have HBT := Lib.hid (u64_andNot_nat x y hxlt (HL2.out j y hy))
          have hfy : lessF o j x = lessW x y := by unfold lessF wd; rw [if_pos (by omega), List.getD_eq_getElem?_getD, hy]; rfl
          have HF := Lib.hid hfy
          clear hR hx hy hfy
          go_wp2_with fail
          go_region
          all_goals go_wp2
          all_goals
            go_roundw
            case rel => exact ⟨j + 1, by omega, by go_num, HR.out.set HX.out (by rw [HF.out]; show Like _ (wr.setCell _ (.int .u64 ((x &&& (18446744073709551615 - y) : Nat) : Int))); rw [← HBT.out]; exact ⟨rfl, rfl, rfl, rfl⟩)⟩
            case measure => simp [intOf]; omega
        · have hfy : lessF o j x = x := by
            unfold lessF wd
            rw [if_pos (by omega), getD_ge (by rw [← HNO.out]; omega)]
            exact lessW_zero hxlt
          have HF := Lib.hid hfy
          clear hR hx hfy
          go_wp2
          go_roundw
          case rel => exact ⟨j + 1, by omega, by go_num, HR.out.skip HX.out HF.out⟩
          case measure => simp [intOf]; omega
      · obtain rfl : j = l.length := by omega
        have hw : Words wr (.slice (some ⟨g, 0, none⟩) l.length cap) (stepL (fun i x => lessF o i x) l l.length) := by
          have ho : Own wr S (.slice (some ⟨g, 0, none⟩) l.length cap) (stepL (fun i x => lessF o i x) l l.length) := by
            refine ⟨by rw [stepL_length]; exact hR.1, fun z hz => ?_, by rw [stepL_length]; unfold maxLen; omega⟩
            obtain ⟨q, hq⟩ := List.getElem?_of_mem hz
            rw [stepL_get] at hq
            simp only [Option.map_eq_some_iff] at hq
            obtain ⟨u, hu, rfl⟩ := hq
            have hul := HOwn.out.2.1 u (List.mem_of_getElem? hu)
            split
            · exact lessF_lt o q hul
            · exact hul
          exact ho.words
        have HTL := Lib.hid (tidyLong_any hw)
        have hk := tl_le (stepL (fun i x => lessF o i x) l l.length)
        rw [stepL_length] at hk
        obtain ⟨k, hkk⟩ : ∃ k, k = tl (stepL (fun i x => lessF o i x) l l.length) := ⟨_, rfl⟩
        rw [← hkk] at HTL hk
        obtain ⟨hk1, hk2⟩ := hk
        have HR := Lib.hid hR
        have HK := Lib.hid hkk
        have HW := Lib.hid hw
        clear hR hlt hw hkk
        go_wp2_with fail
        refine HTL.out.mono ?_
        rintro e w2 ⟨rfl, rfl⟩
        go_wp2
        go_ret
        refine ⟨_, (stepL (fun i x => lessF o i x) l l.length).take k, rfl, ⟨?_, fun z hz => HW.out.2.1 z (List.mem_of_mem_take hz), ?_⟩, ?_, ?_, HR.out.2⟩
        · rw [List.length_take, stepL_length, Nat.min_eq_left hk1, words_take]
          exact own_take HR.out.1 hk1
        · rw [List.length_take]; unfold maxLen; omega
        · rw [HK.out]; exact tl_of_take
        · intro i
          rw [HK.out, HL.out]
          exact wd_step (f := fun i x => lessF o i x) (fun i => lessF_zero o i) i

end Go.Proofs.YtfcdmkfbkkogbaaDoor.Bits
