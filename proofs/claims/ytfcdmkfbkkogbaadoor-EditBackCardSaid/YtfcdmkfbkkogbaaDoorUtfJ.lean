/- How an item is shown; the builder; Show. -/
import Derived.Test.YtfcdmkfbkkogbaaDoorUtfI
import Derived.Lib.OthersKept
namespace Go.Proofs.YtfcdmkfbkkogbaaDoor.Utf
open Go Go.RowKit

theorem drop_b (s : ByteArray) (k : Nat) : ((s.data.toList.drop k).getD 0 0).toNat = (txt s).b k := by
  rw [List.getD_eq_getElem?_getD, List.getElem?_drop, Nat.add_zero, ← List.getD_eq_getElem?_getD, Lib.getD_get!']; rfl
theorem ext_take (s : ByteArray) (k w : Nat) : s.extract k (k + w) = ⟨((s.data.toList.drop k).take w).toArray⟩ := by
  apply ByteArray.ext
  apply Array.toList_inj.1
  rw [ext_list, show k + w - k = w by omega]

set_option maxRecDepth 100000 in
theorem shown_any (s : ByteArray) (k : Nat) (W : World) (h : Z16 W) (hk : k < s.size) (hs : s.size ≤ 1000000) :
    Calls Tryd.prog 56 #[.string s, itemV (txt s) k] W fun e w' => e = .returned (.string ⟨(piece (s.data.toList.drop k)).toArray⟩) ∧ Below W.heap.size W w' := by
  have hdd := drop_decode s k
  have hb := drop_b s k
  have hp : piece (s.data.toList.drop k) = if (txt s).r k = 65533 ∧ (txt s).w k = 1 then numb ((txt s).b k)
    else if (txt s).r k = 92 then [92, 92]
    else if (txt s).r k < 32 ∨ (txt s).r k = 127 then numb ((txt s).r k)
    else (s.data.toList.drop k).take ((txt s).w k) := by
      unfold piece
      rw [hdd, hb]; rfl
  have hok : (txt s).ok k = (decide ((txt s).r k ≠ 65533) || decide (1 < (txt s).w k)) := rfl
  have hw1 := (txt s).w_pos k
  have hw4 := (txt s).w_le k
  have hwn : k + (txt s).w k ≤ s.size := (txt s).w_in k hk
  have hr := (txt s).r_lt k
  have hbl := (txt s).lt k
  have hx : ∀ h, ((s[k]'h)).toNat = (txt s).b k := fun h => by rw [get_bang]; rfl
  unfold itemV
  obtain ⟨r, hr0⟩ : ∃ x, (txt s).r k = x := ⟨_, rfl⟩
  obtain ⟨w, hw0⟩ : ∃ x, (txt s).w k = x := ⟨_, rfl⟩
  obtain ⟨b, hb0⟩ : ∃ x, (txt s).b k = x := ⟨_, rfl⟩
  obtain ⟨o, ho0⟩ : ∃ x, (txt s).ok k = x := ⟨_, rfl⟩
  rw [hr0, hw0, hb0] at hp
  rw [hr0, hw0, ho0] at hok
  rw [hw0] at hw1 hw4 hwn
  rw [hr0] at hr
  rw [hb0] at hbl hx
  rw [hr0, hw0, ho0, hp]
  have HEX := Lib.hid (ext_take s k w)
  have hB0 : Below W.heap.size W (W.alloc (.cells #[.int .i64 (k : Int), .int .i64 (w : Int), .int .i32 (r : Int), .bool o] 27)) := (Below.refl _ _).alloc (Nat.le_refl _) _
  have HZ := Lib.hid (h.stay hB0)
  have HB0 := Lib.hid hB0
  have hk64 : (k : Int) ≤ 1000000 := by omega
  clear hdd hb hp hr0 hw0 hb0 ho0 h hB0
  cases o with
  | false =>
    rw [if_pos (by
      have := hok.symm
      rw [Bool.or_eq_false_iff, decide_eq_false_iff_not, decide_eq_false_iff_not] at this
      omega)]
    have HN := Lib.hid (numbered_any b hbl _ HZ.out)
    clear hok
    go_enter Tryd.func56, Tryd.ntmps56
    go_wp2_with fail
    refine HN.out.mono ?_
    rintro e w1 ⟨rfl, hb⟩
    have HB := Lib.hid (HB0.out.trans (hb.mono (by simp)))
    clear hb
    go_wp2
    go_ret
    exact ⟨rfl, HB.out⟩
  | true =>
    rw [if_neg (by
      have := hok.symm
      rw [Bool.or_eq_true, decide_eq_true_eq, decide_eq_true_eq] at this
      omega)]
    clear hok
    by_cases h92 : r = 92
    · have e1 : ((r : Int) == 92) = true := by rw [h92]; rfl
      rw [if_pos h92]
      clear h92
      go_enter Tryd.func56, Tryd.ntmps56
      go_wp2
      go_ret
      exact ⟨rfl, HB0.out⟩
    · have e1 : ((r : Int) == 92) = false := beq_eq_false_iff_ne.2 (by omega)
      rw [if_neg h92]
      by_cases h32 : r < 32
      · have e2 : decide ((r : Int) < 32) = true := decide_eq_true (by omega)
        rw [if_pos (.inl h32)]
        have HN := Lib.hid (numbered_any r (by omega) _ HZ.out)
        clear h92
        go_enter Tryd.func56, Tryd.ntmps56
        go_wp2_with fail
        refine HN.out.mono ?_
        rintro e w1 ⟨rfl, hb⟩
        have HB := Lib.hid (HB0.out.trans (hb.mono (by simp)))
        clear hb
        go_wp2
        go_ret
        exact ⟨rfl, HB.out⟩
      · have e2 : decide ((r : Int) < 32) = false := decide_eq_false (by omega)
        by_cases h127 : r = 127
        · have e3 : ((r : Int) == 127) = true := by rw [h127]; rfl
          rw [if_pos (.inr h127)]
          have HN := Lib.hid (numbered_any r (by omega) _ HZ.out)
          clear h92 h127
          go_enter Tryd.func56, Tryd.ntmps56
          go_wp2_with fail
          refine HN.out.mono ?_
          rintro e w1 ⟨rfl, hb⟩
          have HB := Lib.hid (HB0.out.trans (hb.mono (by simp)))
          clear hb
          go_wp2
          go_ret
          exact ⟨rfl, HB.out⟩
        · have e3 : ((r : Int) == 127) = false := beq_eq_false_iff_ne.2 (by omega)
          rw [if_neg (by omega), ← HEX.out]
          clear h92 h127
          go_enter Tryd.func56, Tryd.ntmps56
          go_wp2
          go_ret
          exact ⟨rfl, HB0.out⟩

/-! ### The builder: what it holds, written on -/
theorem sizeB : (Tryd.prog.info? 81).map (·.size) = some 2 := by kernel_rfl
theorem liesB : liesAt Tryd.prog Tryd.prog.depth 81 (2 / Tryd.prog.cellsOf 81) 0 81 1 = true := by kernel_rfl
theorem infoU8 : (Tryd.prog.info? 5).map (fun i => (i.zero, i.size, i.bytes)) = some (some (.int .u8 0), 1, 1) := by kernel_rfl

set_option maxRecDepth 100000 in
theorem check_used (b : Nat) (w : World) (h0 : w.cell? ⟨b, 0, none⟩ = some (.pointer (some ⟨b, 0, none⟩))) :
    Calls Tryd.prog 76 #[.pointer (some ⟨b, 0, none⟩)] w fun e w' => e = .returned (.tuple #[]) ∧ w = w' := by
  obtain ⟨j, hj, _⟩ := Option.map_eq_some_iff.1 sizeB
  go_enter Tryd.func76, Tryd.ntmps76
  go_wp2
  rw [Lib.run_neq_ptr_same w _ Tryd.underlying79 hj]
  go_wp2
  go_end0
  exact ⟨rfl, rfl⟩
set_option maxRecDepth 100000 in
theorem check_fresh (b : Nat) (w : World) (h0 : w.cell? ⟨b, 0, none⟩ = some (.pointer none)) (hsh : w.shape? b = some (81, 2)) (hfz : w.frozen? ⟨b, 0, none⟩ = false) :
    Calls Tryd.prog 76 #[.pointer (some ⟨b, 0, none⟩)] w fun e w' => e = .returned (.tuple #[]) ∧ w' = w.setCell ⟨b, 0, none⟩ (.pointer (some ⟨b, 0, none⟩)) := by
  obtain ⟨j, hj, hjs⟩ := Option.map_eq_some_iff.1 sizeB
  go_enter Tryd.func76, Tryd.ntmps76
  go_wp2
  rw [Lib.run_to_unsafe w ⟨b, 0, none⟩ Tryd.underlying79 Tryd.underlying107 hj (by rw [hjs]; decide) hsh (Nat.zero_lt_succ 1)]
  simp only [Result.andThen]
  rw [Oper.upon_value]
  go_wp2
  rw [run_callFunc_extern Tryd.func85 (by kernel_rfl) (by kernel_rfl) (by kernel_rfl) (e := Extern.AbiNoEscape.same) (by kernel_rfl)]
  rw [Lib.run_noEscape]
  simp only [Result.andThen]
  rw [Oper.upon_value]
  go_wp2
  rw [Lib.run_from_unsafe w ⟨b, 0, none⟩ Tryd.underlying107 Tryd.underlying79 hj hsh liesB]
  simp only [Result.andThen]
  rw [Oper.upon_value]
  go_wp2
  go_end0
  exact ⟨rfl, rfl⟩
theorem check_any (B b : Nat) (bs : List Value) (w : World) (h : Lib.IsBuilder 81 5 B b bs w) :
    Calls Tryd.prog 76 #[.pointer (some ⟨b, 0, none⟩)] w fun e w' => e = .returned (.tuple #[]) ∧ (Lib.BuilderAt 81 5 B b (.pointer (some ⟨b, 0, none⟩)) bs w' ∧ Below B w w') ∧ Lib.OthersKept 5 (some b) w w' := by
  rcases h with h | h
  · refine (check_fresh b w h.cell0 h.shape h.frozen0).mono ?_
    rintro e w' ⟨rfl, rfl⟩
    exact ⟨rfl, ⟨h.used _, (Below.refl B w).setCell (p := ⟨b, 0, none⟩) h.1 _⟩, (Lib.OthersKept.refl 5 (some b) w).setCell ⟨b, 0, none⟩ rfl _⟩
  · refine (check_used b w h.cell0).mono ?_
    rintro e w' ⟨rfl, rfl⟩
    exact ⟨rfl, ⟨h, Below.refl B _⟩, Lib.OthersKept.refl _ _ _⟩

set_option maxRecDepth 100000 in
theorem write_any (B b : Nat) (bs : List Value) (s : ByteArray) (w : World) (h : Lib.IsBuilder 81 5 B b bs w) (hlen : bs.length + s.size ≤ 100000000) (hBw : B ≤ w.heap.size) :
    Calls Tryd.prog 55 #[.pointer (some ⟨b, 0, none⟩), .string s] w fun e w' => e = .returned (.tuple #[.int .i64 s.size, .nilIface]) ∧ (Lib.BuilderAt 81 5 B b (.pointer (some ⟨b, 0, none⟩)) (bs ++ Lib.strCells s) w' ∧ Below B w w') ∧ Lib.OthersKept 5 (some b) w w' := by
  obtain ⟨i0, hi, hz0, hz1, hz2⟩ := info_parts infoU8
  have HC := Lib.hid (check_any B b bs w h)
  have nb5 : (81 : TypeId) ≠ 5 := by decide
  clear h
  go_enter Tryd.func55, Tryd.ntmps55
  go_wp2_with fail
  refine HC.out.mono ?_
  rintro e w1 ⟨rfl, ⟨⟨hB, v, hbk, hown, hne⟩, hb1⟩, hok⟩
  have c0 : w1.cell? ⟨b, 0, none⟩ = some (.pointer (some ⟨b, 0, none⟩)) := by rw [Lib.cell_of_heap hbk]; rfl
  have c1 : w1.cell? ⟨b, 1, none⟩ = some v := by rw [Lib.cell_of_heap hbk]; rfl
  have hlt : b < w1.heap.size := by
    rcases Nat.lt_or_ge b w1.heap.size with h' | h'
    · exact h'
    · simp [Array.getElem?_eq_none h'] at hbk
  have hsz1 := hb1.size
  have HBK := Lib.hid hbk
  have HNE := Lib.hid hne
  have HB1 := Lib.hid hb1
  have HOK := Lib.hid hok
  clear hbk hne hb1 hok
  go_wp2_with (at_builtin; refine Lib.wpList_append_own_string _ rfl _ _ 76 9 rfl B 5 i0 Tryd.underlying76 Tryd.underlying9 hi hz0 hz1 hz2 _ _ _ rfl hown s rfl (by unfold maxLen; omega) (by omega) (by omega) ?_)
  intro v' w2 hown' hgrow _
  have hb2 : w2.heap[b]? = some (.cells #[.pointer (some ⟨b, 0, none⟩), v] 81 (0, 0)) := by
    rw [hgrow.block b hlt (fun e => HNE.out e.symm)]
    exact HBK.out
  have d0 : w2.cell? ⟨b, 0, none⟩ = some (.pointer (some ⟨b, 0, none⟩)) := by rw [Lib.cell_of_heap hb2]; rfl
  have d1 : w2.cell? ⟨b, 1, none⟩ = some v := by rw [Lib.cell_of_heap hb2]; rfl
  have f1 : w2.frozen? ⟨b, 1, none⟩ = false := Lib.frozen_of_heap hb2 1
  obtain ⟨ao, n', cap, rfl⟩ : ∃ ao n' cap, v' = .slice ao n' cap := by
    rcases hown'.2 with ⟨hv, _⟩ | ⟨g, cap, cur, hv, _⟩
    · exact ⟨_, _, _, hv⟩
    · exact ⟨_, _, _, hv⟩
  have P1 := Lib.hid (Lib.BuilderAt.put (T := 81) (e := 5) hB hb2 (bs' := bs ++ Lib.strCells s) (by simpa [Lib.strCells_length] using hown') nb5)
  have P2 := Lib.hid ((HB1.out.grown hgrow (by omega) (fun k hk => (hown.lt k hk).1)).setCell (p := ⟨b, 1, none⟩) hB (.slice ao n' cap))
  have P3 := Lib.hid ((HOK.out.grown hgrow (fun g hg => by
    rcases hown.2 with ⟨hv, _⟩ | ⟨g', cap', cur, hv, _, h3, _⟩
    · rw [hv] at hg; cases hg
    · rw [hv] at hg; cases hg; exact ⟨_, _, h3⟩)).setCell ⟨b, 1, none⟩ rfl (.slice ao n' cap))
  clear hb2 hown' hgrow hown
  go_wp2
  go_ret2
  exact ⟨rfl, ⟨P1.out, P2.out⟩, P3.out⟩

/-- A builder stays while only new memory is made. -/
theorem builder_stay {B b : Nat} {bs : List Value} {w w' : World} (h : Lib.IsBuilder 81 5 B b bs w) (hb : Below w.heap.size w w') : Lib.IsBuilder 81 5 B b bs w' := by
  have key : ∀ p, Lib.BuilderAt 81 5 B b p bs w → Lib.BuilderAt 81 5 B b p bs w' := by
    rintro p ⟨hB, v, hbk, hown, hne⟩
    have hlt : b < w.heap.size := (Array.getElem?_eq_some_iff.1 hbk).1
    refine ⟨hB, v, (hb.block b hlt).trans hbk, ⟨hown.1, ?_⟩, hne⟩
    rcases hown.2 with h0 | ⟨g, cap, cur, e1, e2, e3, e4⟩
    · exact .inl h0
    · exact .inr ⟨g, cap, cur, e1, e2, (hb.block g (Array.getElem?_eq_some_iff.1 e3).1).trans e3, e4⟩
  exact h.imp (key _) (key _)

end Go.Proofs.YtfcdmkfbkkogbaaDoor.Utf
