/- Contracts of the package utf: Encode, and the document's. -/
import Derived.Test.YtfjlhfalnciamaaDoorRows
import Derived.Test.YtfjlhfalnciamaaDoorUtfD
import Derived.Test.YtfjlhfalnciamaaDoorShelf
import Derived.Deep.CutBlock
import Derived.Deep.DeepCutAuto
import Derived.WalkKit
import Derived.BigRegion
import Derived.WalkSpells
import Derived.Lib.Hide
import Derived.Deep.QuietTactic
import Derived.BigQuiet
import Derived.Deep.LoopGhost
namespace Go.Proofs.YtfjlhfalnciamaaDoor.Utf
open Go Go.RowKit

def U8 (w : World) : Prop := Lib.Utf8Tabs 0 1 w
theorem U8.stay {w w' : World} (h : U8 w) (hb : Below w.heap.size w w') : U8 w' := Utf8Tabs_below h hb

/-- An item, as a value. -/
def itemV (t : Txt) (k : Nat) : Value := .agg #[.int .i64 (k : Int), .int .i64 (t.w k : Int), .int .i32 (t.r k : Int), .bool (t.ok k)]
def noItem : Value := .agg #[.int .i64 0, .int .i64 0, .int .i32 0, .bool false]

theorem Txt.r_lt (t : Txt) (i : Nat) : t.r i < 1114112 := by
  have h := t.kind i; have h0 := t.lt i; unfold Txt.r; generalize t.dc i = d at h
  cases h <;> simp <;> omega

theorem go_dec (s : ByteArray) (k : Nat) (hk : k < s.size) : Lib.decodeGo (s.extract k s.size) = ((txt s).r k, (txt s).w k) := by
  unfold Lib.decodeGo
  have hz : (s.extract k s.size).size = s.size - k := Lib.tail_size s k
  rw [if_neg (by omega), Lib.tail_decode, Nat.add_zero, decode_txt]; rfl

set_option maxRecDepth 100000 in
theorem at_in (s : ByteArray) (k : Nat) (W : World) (T : U8 W) (hk : k < s.size) :
    Calls Tryd.prog 84 #[.string s, .int .i64 (k : Int)] W fun e W' => e = .returned (itemV (txt s) k) ∧ Below W.heap.size W W' := by
  have hr := (txt s).r_lt k
  have hw := (txt s).w_pos k
  have hw4 := (txt s).w_le k
  have hok : (txt s).ok k = (decide ((txt s).r k ≠ 65533) || decide (1 < (txt s).w k)) := rfl
  have hd := go_dec s k hk
  unfold itemV
  obtain ⟨R, hR⟩ : ∃ R, (txt s).r k = R := ⟨_, rfl⟩
  obtain ⟨K, hK⟩ : ∃ K, (txt s).w k = K := ⟨_, rfl⟩
  obtain ⟨O, hO⟩ : ∃ O, (txt s).ok k = O := ⟨_, rfl⟩
  rw [hR, hK] at hok hd
  rw [hR] at hr
  rw [hK] at hw hw4
  rw [hR, hK, hO]
  rw [hO] at hok
  have HO := Lib.hid hok
  have HD := Lib.hid hd
  have hB0 : Below W.heap.size W (W.alloc (.cells #[.int .i64 0, .int .i64 0, .int .i32 0, .bool false] 110)) := (Below.refl _ _).alloc (Nat.le_refl _) _
  have HC := Lib.hid (Tryd.utf8_DecodeRuneInString (s.extract k s.size) _ (T.stay hB0))
  rw [HD.out] at HC
  have h0 : ¬ (k : Int) < 0 := by omega
  have h0d : decide ((k : Int) < 0) = false := decide_eq_false h0
  have h1 : ¬ (s.size : Int) ≤ k := by omega
  have h1d : decide ((s.size : Int) ≤ (k : Int)) = false := decide_eq_false h1
  clear hR hK hO hok hd hB0 T
  go_enter Tryd.func84, Tryd.ntmps84
  go_wp2_with fail
  refine HC.out.mono ?_
  rintro e w1 ⟨rfl, hb⟩
  have hc : w1.cell? ⟨W.heap.size, 0, none⟩ = some (.int .i64 0) := (hb.cell (p := ⟨W.heap.size, 0, none⟩) (by simp)).trans (by simp)
  have hB0 : Below W.heap.size W (W.alloc (.cells #[.int .i64 0, .int .i64 0, .int .i32 0, .bool false] 110)) := (Below.refl _ _).alloc (Nat.le_refl _) _
  have hbl : w1.heap[W.heap.size]? = some (.cells #[.int .i64 0, .int .i64 0, .int .i32 0, .bool false] 110 (0, 0)) := (hb.block _ (by simp)).trans (heap_alloc_new W _)
  have hl1 : W.heap.size < w1.heap.size := Nat.lt_of_lt_of_le (by simp) hb.size
  have c0 : w1.cell? ⟨W.heap.size, 0, none⟩ = some (.int .i64 0) := by rw [Lib.cell_of_heap hbl]; rfl
  have c1 : w1.cell? ⟨W.heap.size, 1, none⟩ = some (.int .i64 0) := by rw [Lib.cell_of_heap hbl]; rfl
  have c2 : w1.cell? ⟨W.heap.size, 2, none⟩ = some (.int .i32 0) := by rw [Lib.cell_of_heap hbl]; rfl
  have c3 : w1.cell? ⟨W.heap.size, 3, none⟩ = some (.bool false) := by rw [Lib.cell_of_heap hbl]; rfl
  have f0 := Lib.frozen_of_heap hbl 0
  have f1 := Lib.frozen_of_heap hbl 1
  have f2 := Lib.frozen_of_heap hbl 2
  have f3 := Lib.frozen_of_heap hbl 3
  have hB1 := Lib.hid (hB0.trans (hb.mono (by simp)))
  have key : ∀ v0 v1 v2 v3, Below W.heap.size W ((((w1.setCell ⟨W.heap.size, 0, none⟩ v0).setCell ⟨W.heap.size, 1, none⟩ v1).setCell ⟨W.heap.size, 2, none⟩ v2).setCell ⟨W.heap.size, 3, none⟩ v3) := fun v0 v1 v2 v3 =>
    (((hB1.out.setCell (p := ⟨W.heap.size, 0, none⟩) (Nat.le_refl _) _).setCell (p := ⟨W.heap.size, 1, none⟩) (Nat.le_refl _) _).setCell (p := ⟨W.heap.size, 2, none⟩) (Nat.le_refl _) _).setCell (p := ⟨W.heap.size, 3, none⟩) (Nat.le_refl _) _
  have KEY := Lib.hid key
  clear hb HD HC hbl hB0 hc key
  by_cases hr1 : R = 65533
  · have e1 : ((R : Int) != 65533) = false := by rw [hr1]; rfl
    by_cases hk1 : 1 < K
    · have e2 : decide ((1 : Int) < K) = true := decide_eq_true (by omega)
      have HT : Hid (O = true) := by rw [HO.out, decide_eq_true hk1, Bool.or_true]; exact rfl
      clear hr1
      go_wp2
      refine bodyPost_ret (v := .agg #[.int .i64 (k : Int), .int .i64 (K : Int), .int .i32 (R : Int), .bool true]) (by simp [results, Tryd.results84, go_sem, c0, c1, c2, c3]) rfl ⟨by rw [HT.out], KEY.out _ _ _ _⟩
    · have e2 : decide ((1 : Int) < K) = false := decide_eq_false (by omega)
      have HT : Hid (O = false) := by rw [HO.out, decide_eq_false hk1, decide_eq_false (by omega)]; exact rfl
      clear hr1
      go_wp2
      refine bodyPost_ret (v := .agg #[.int .i64 (k : Int), .int .i64 (K : Int), .int .i32 (R : Int), .bool false]) (by simp [results, Tryd.results84, go_sem, c0, c1, c2, c3]) rfl ⟨by rw [HT.out], KEY.out _ _ _ _⟩
  · have e1 : ((R : Int) != 65533) = true := by rw [bne_iff_ne]; omega
    have HT : Hid (O = true) := by rw [HO.out, decide_eq_true hr1]; exact rfl
    clear hr1
    go_wp2
    refine bodyPost_ret (v := .agg #[.int .i64 (k : Int), .int .i64 (K : Int), .int .i32 (R : Int), .bool true]) (by simp [results, Tryd.results84, go_sem, c0, c1, c2, c3]) rfl ⟨by rw [HT.out], KEY.out _ _ _ _⟩

set_option maxRecDepth 100000 in
theorem at_out (s : ByteArray) (a : Int) (W : World) (h : a < 0 ∨ (s.size : Int) ≤ a) :
    Calls Tryd.prog 84 #[.string s, .int .i64 a] W fun e W' => e = .returned noItem ∧ Below W.heap.size W W' := by
  unfold noItem
  have hB0 : Below W.heap.size W (W.alloc (.cells #[.int .i64 0, .int .i64 0, .int .i32 0, .bool false] 110)) := (Below.refl _ _).alloc (Nat.le_refl _) _
  have key : ∀ v0 v1 v2 v3, Below W.heap.size W (((((W.alloc (.cells #[.int .i64 0, .int .i64 0, .int .i32 0, .bool false] 110)).setCell ⟨W.heap.size, 0, none⟩ v0).setCell ⟨W.heap.size, 1, none⟩ v1).setCell ⟨W.heap.size, 2, none⟩ v2).setCell ⟨W.heap.size, 3, none⟩ v3) := fun v0 v1 v2 v3 =>
    (((hB0.setCell (p := ⟨W.heap.size, 0, none⟩) (Nat.le_refl _) _).setCell (p := ⟨W.heap.size, 1, none⟩) (Nat.le_refl _) _).setCell (p := ⟨W.heap.size, 2, none⟩) (Nat.le_refl _) _).setCell (p := ⟨W.heap.size, 3, none⟩) (Nat.le_refl _) _
  have KEY := Lib.hid key
  have HB := Lib.hid hB0
  clear hB0 key
  by_cases h0 : a < 0
  · have e1 : decide (a < 0) = true := decide_eq_true h0
    clear h
    go_enter Tryd.func84, Tryd.ntmps84
    go_wp2
    refine bodyPost_ret (v := .agg #[.int .i64 0, .int .i64 0, .int .i32 0, .bool false]) (by simp [results, Tryd.results84, go_sem]) rfl ⟨rfl, ?_⟩
    first | exact KEY.out _ _ _ _ | exact HB.out
  · have e1 : decide (a < 0) = false := decide_eq_false h0
    have h1 : (s.size : Int) ≤ a := by omega
    have e2 : decide ((s.size : Int) ≤ a) = true := decide_eq_true h1
    clear h
    go_enter Tryd.func84, Tryd.ntmps84
    go_wp2
    refine bodyPost_ret (v := .agg #[.int .i64 0, .int .i64 0, .int .i32 0, .bool false]) (by simp [results, Tryd.results84, go_sem]) rfl ⟨rfl, ?_⟩
    first | exact KEY.out _ _ _ _ | exact HB.out

end Go.Proofs.YtfjlhfalnciamaaDoor.Utf
