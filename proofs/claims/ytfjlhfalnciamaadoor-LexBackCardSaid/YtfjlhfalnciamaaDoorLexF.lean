/- A sign is written behind a text (WriteRune), walked. -/
import Derived.Shelf.Utf8.AppendRunePlain
import Derived.Test.YtfjlhfalnciamaaDoorUtfI
import Derived.Test.YtfjlhfalnciamaaDoorUtfJ
import Derived.Lib.QuoteLoop
namespace Go.Proofs.YtfjlhfalnciamaaDoor.Utf
open Go Go.RowKit Go.Shelf

def lays242_ren : Go.Shelf.Ren := ⟨fun | 242 => 149 | 278 => 161 | n => n, fun | 4 => 4 | 5 => 5 | 21 => 21 | 37 => 97 | 46 => 130 | 51 => 164 | n => n, fun | n => n⟩
set_option maxRecDepth 100000 in
theorem lays242 : Go.Proofs.Lays.n242 Tryd.prog lays242_ren := {
  mixed := by kernel_rfl
  f242 := Tryd.func149.trans (congrArg some (by kernel_rfl))
  f278 := Tryd.func161.trans (congrArg some (by kernel_rfl))
  t4 := Tryd.underlying4
  a4 := Tryd.isAgg4
  z4 := Tryd.sizeOf4
  v4 := Tryd.zeroValue4
  t5 := Tryd.underlying5
  a5 := Tryd.isAgg5
  z5 := Tryd.sizeOf5
  v5 := Tryd.zeroValue5
  t21 := Tryd.underlying21
  a21 := Tryd.isAgg21
  z21 := Tryd.sizeOf21
  v21 := Tryd.zeroValue21
  t37 := Tryd.underlying97
  a37 := Tryd.isAgg97
  z37 := Tryd.sizeOf97
  v37 := Tryd.zeroValue97
  t46 := Tryd.underlying130
  a46 := Tryd.isAgg130
  z46 := Tryd.sizeOf130
  v46 := Tryd.zeroValue130
  t51 := Tryd.underlying164
  a51 := Tryd.isAgg164
  z51 := Tryd.sizeOf164
  v51 := Tryd.zeroValue164 }
theorem append_rune (B : Nat) (v : Value) (n : Nat) (xs : List Value) (r : Int) (hr0 : -2147483648 ≤ r) (hr1 : r ≤ 2147483647) (w : World) (hown : w.ownsRow B 5 1 v n xs) (hlen : n + 4 ≤ 140737488355328) (hBw : B ≤ w.heap.size) :
    Calls Tryd.prog 149 #[v, .int .i32 r] w fun e w' => ∃ v', e = .returned v' ∧ w'.ownsRow B 5 1 v' (n + (Lib.runeCells r).length) (xs ++ Lib.runeCells r) ∧ ∃ o, (w.alloc o).grownBy w' v.ownBlock :=
  Any.utf8_AppendRune_plain lays242 infoU8 B v n xs r hr0 hr1 w hown hlen hBw

theorem enc_rune (r : Int) (hv : Lib.validRune r = true) : (encB r).data.toList = Lib.encodeRune r := by
  have h := (valid_iff r).1 hv
  obtain ⟨n, rfl⟩ := Int.eq_ofNat_of_zero_le (show 0 ≤ r by omega)
  have hinj : ∀ x y : UInt8, x.toNat = y.toNat → x = y := fun x y => UInt8.toNat_inj.1
  rw [← List.map_inj_right (f := UInt8.toNat) hinj, encB_nat]
  unfold encN Lib.encodeRune Lib.encodeRuneZ
  repeat' split
  all_goals first | omega | skip
  all_goals simp
  all_goals omega

set_option maxRecDepth 100000 in
/-- A sign's bytes are written behind what a builder holds. -/
theorem rune_any (B b : Nat) (l : List UInt8) (r : Int) (hv : Lib.validRune r = true) (w : World) (h : Lib.IsBuilder 99 5 B b (Lib.byteCells l) w) (hlen : l.length ≤ 100000000) (hBw : B ≤ w.heap.size) :
    Calls Tryd.prog 127 #[.pointer (some ⟨b, 0, none⟩), .int .i32 r] w fun e w' => ∃ x, e = .returned x ∧ (Lib.BuilderAt 99 5 B b (.pointer (some ⟨b, 0, none⟩)) (Lib.byteCells (l ++ (encB r).data.toList)) w' ∧ Below B w w') ∧ Lib.OthersKept 5 (some b) w w' := by
  have hvi := (valid_iff r).1 hv
  have hcells : Lib.byteCells (l ++ (encB r).data.toList) = Lib.byteCells l ++ Lib.runeCells r := by
    rw [enc_rune r hv, ← Lib.byteCells_encodeRune]; simp [Lib.byteCells]
  have hbl : (Lib.byteCells l).length = l.length := by simp [Lib.byteCells]
  have hrl := Lib.encodeRuneZ_length_le r
  have hrl2 : (Lib.runeCells r).length = (Lib.encodeRuneZ r).length := by simp [Lib.runeCells]
  rw [hcells]
  clear hcells
  generalize Lib.byteCells l = bs at h hbl ⊢
  have hlen2 : bs.length ≤ 100000000 := by omega
  clear hbl hlen
  have HC := Lib.hid (check_any B b bs w h)
  have nb5 : (99 : TypeId) ≠ 5 := by decide
  clear h
  go_enter Tryd.func127, Tryd.ntmps127
  go_wp2_with fail
  refine HC.out.mono ?_
  rintro e w1 ⟨rfl, ⟨⟨hB, v, hbk, hown, hne⟩, hb1⟩, hok⟩
  have c0 : w1.cell? ⟨b, 0, none⟩ = some (.pointer (some ⟨b, 0, none⟩)) := by rw [Lib.cell_of_heap hbk]; rfl
  obtain ⟨A, cap, rfl⟩ : ∃ A cap, v = .slice A bs.length cap := by
    rcases hown.2 with ⟨hv, hn⟩ | ⟨g, cap, cur, hv, _⟩
    · exact ⟨none, 0, by rw [hv, hn]⟩
    · exact ⟨_, _, hv⟩
  have c1 : w1.cell? ⟨b, 1, none⟩ = some (.slice A bs.length cap) := by rw [Lib.cell_of_heap hbk]; rfl
  have hlt : b < w1.heap.size := by
    rcases Nat.lt_or_ge b w1.heap.size with h' | h'
    · exact h'
    · simp [Array.getElem?_eq_none h'] at hbk
  have hsz1 := hb1.size
  have HBK := Lib.hid hbk
  have HNE := Lib.hid hne
  have HB1 := Lib.hid hb1
  have HOK := Lib.hid hok
  have HOW := Lib.hid hown
  have HA := Lib.hid (append_rune B (.slice A bs.length cap) bs.length bs r (by omega) (by omega) w1 hown (by omega) (by omega))
  clear hbk hne hb1 hok hown HC
  go_wp2_with fail
  refine HA.out.mono ?_
  rintro e w2 ⟨v', rfl, hown', o, hgrow⟩
  have hb2 : w2.heap[b]? = some (.cells #[.pointer (some ⟨b, 0, none⟩), .slice A bs.length cap] 99 (0, 0)) := by
    rw [hgrow.block b (by simp; omega) (fun e => HNE.out e.symm)]
    exact (Below.heap_alloc w1 _ b hlt).trans HBK.out
  have d0 : w2.cell? ⟨b, 0, none⟩ = some (.pointer (some ⟨b, 0, none⟩)) := by rw [Lib.cell_of_heap hb2]; rfl
  have d1 : w2.cell? ⟨b, 1, none⟩ = some (.slice A bs.length cap) := by rw [Lib.cell_of_heap hb2]; rfl
  have f1 : w2.frozen? ⟨b, 1, none⟩ = false := Lib.frozen_of_heap hb2 1
  obtain ⟨ao, cap', rfl⟩ : ∃ ao cap', v' = .slice ao (bs.length + (Lib.runeCells r).length) cap' := by
    rcases hown'.2 with ⟨hv, hn⟩ | ⟨g, cap, cur, hv, _⟩
    · exact ⟨none, 0, by rw [hv, hn]⟩
    · exact ⟨_, _, hv⟩
  obtain ⟨m, hm⟩ : ∃ m, bs.length + (Lib.runeCells r).length = m := ⟨_, rfl⟩
  have hml : (bs ++ Lib.runeCells r).length = m := by rw [List.length_append, hm]
  rw [hm] at hown' ⊢
  have P1 := Lib.hid (Lib.BuilderAt.put (T := 99) (e := 5) hB hb2 (bs' := bs ++ Lib.runeCells r) (by rw [hml]; exact hown') nb5)
  have P2 := Lib.hid (((HB1.out.alloc (by omega) _).grown hgrow (by simp; omega) (fun k hk => (HOW.out.lt k hk).1)).setCell (p := ⟨b, 1, none⟩) hB (.slice ao m cap'))
  have P3 := Lib.hid (((HOK.out.alloc _).grown hgrow (fun g hg => by
    rcases HOW.out.2 with ⟨hv, _⟩ | ⟨g', cap'', cur, hv, _, h3, _⟩
    · rw [hv] at hg; cases hg
    · rw [hv] at hg; cases hg; exact ⟨_, _, (Below.heap_alloc w1 _ g' (Array.getElem?_eq_some_iff.1 h3).1).trans h3⟩)).setCell ⟨b, 1, none⟩ rfl (.slice ao m cap'))
  clear hb2 hown' hgrow HA
  go_wp2
  go_ret2
  exact ⟨_, rfl, ⟨P1.out, P2.out⟩, P3.out⟩

end Go.Proofs.YtfjlhfalnciamaaDoor.Utf
