/- The calls of a cache that nobody made: nothing is done. -/
import Derived.Test.YtfcdmkfbkkogbabCacheI
namespace Go.Proofs.Ytfcdmkfbkkogbab.Cache
open Go Go.RowKit

/-- nil, or one without a map. -/
def Plain (w : World) (v : Value) : Prop := v = .pointer none ∨ ∃ c : Nat, v = ptr c ∧ w.cell? ⟨c, 1, none⟩ = some (.map none)

theorem plain_yes {w : World} {v : Value} (h : Plain w v) : Calls Try.prog 46 #[v] w fun k w' => k = .returned (.bool true) ∧ w = w' := by
  rcases h with rfl | ⟨c, rfl, h⟩
  · exact plain_nil w
  · exact plain_not c w h

theorem put_plain {w : World} {v : Value} (h : Plain w v) (k : ByteArray) (n : Int) : Calls Try.prog 21 #[v, .string k, .int .i64 n] w fun e w' => e = .returned (.tuple #[]) ∧ w = w' := by
  have HP := Lib.hid h
  clear h
  go_enter Try.func21, Try.ntmps21
  go_wp2_with fail
  refine (plain_yes HP.out).mono ?_
  rintro e w1 ⟨rfl, rfl⟩
  go_wp2
  exact bodyPost_ret (results_none Try.results21 _ _ _) rfl ⟨rfl, rfl⟩

theorem clear_plain {w : World} {v : Value} (h : Plain w v) : Calls Try.prog 22 #[v] w fun e w' => e = .returned (.tuple #[]) ∧ w = w' := by
  have HP := Lib.hid h
  clear h
  go_enter Try.func22, Try.ntmps22
  go_wp2_with fail
  refine (plain_yes HP.out).mono ?_
  rintro e w1 ⟨rfl, rfl⟩
  go_wp2
  exact bodyPost_ret (results_none Try.results22 _ _ _) rfl ⟨rfl, rfl⟩

theorem resize_plain {w : World} {v : Value} (h : Plain w v) (n : Int) : Calls Try.prog 27 #[v, .int .i64 n] w fun e w' => e = .returned (.tuple #[]) ∧ w = w' := by
  have HP := Lib.hid h
  clear h
  go_enter Try.func27, Try.ntmps27
  go_wp2_with fail
  refine (plain_yes HP.out).mono ?_
  rintro e w1 ⟨rfl, rfl⟩
  go_wp2
  exact bodyPost_ret (results_none Try.results27 _ _ _) rfl ⟨rfl, rfl⟩

theorem get_plain {w : World} {v : Value} (h : Plain w v) (k : ByteArray) : Calls Try.prog 23 #[v, .string k] w fun e w' => e = .returned (.tuple #[.int .i64 0, .bool false]) ∧ w = w' := by
  have HP := Lib.hid h
  clear h
  go_enter Try.func23, Try.ntmps23
  go_wp2_with fail
  refine (plain_yes HP.out).mono ?_
  rintro e w1 ⟨rfl, rfl⟩
  go_wp2
  go_ret2
  exact ⟨rfl, rfl⟩

theorem long_plain {w : World} {v : Value} (h : Plain w v) : Calls Try.prog 24 #[v] w fun e w' => e = .returned (.int .i64 0) ∧ w = w' := by
  have HP := Lib.hid h
  clear h
  go_enter Try.func24, Try.ntmps24
  go_wp2_with fail
  refine (plain_yes HP.out).mono ?_
  rintro e w1 ⟨rfl, rfl⟩
  go_wp2
  go_ret
  exact ⟨rfl, rfl⟩

theorem room_plain {w : World} {v : Value} (h : Plain w v) : Calls Try.prog 25 #[v] w fun e w' => e = .returned (.int .i64 0) ∧ w = w' := by
  have HP := Lib.hid h
  clear h
  go_enter Try.func25, Try.ntmps25
  go_wp2_with fail
  refine (plain_yes HP.out).mono ?_
  rintro e w1 ⟨rfl, rfl⟩
  go_wp2
  go_ret
  exact ⟨rfl, rfl⟩

theorem keys_plain {w : World} {v : Value} (h : Plain w v) : Calls Try.prog 26 #[v] w fun e w' => e = .returned (.slice none 0 0) ∧ w = w' := by
  have HP := Lib.hid h
  clear h
  go_enter Try.func26, Try.ntmps26
  go_wp2_with fail
  refine (plain_yes HP.out).mono ?_
  rintro e w1 ⟨rfl, rfl⟩
  go_wp2
  go_ret
  exact ⟨rfl, rfl⟩

set_option maxRecDepth 100000 in
theorem nobody_walk (k : ByteArray) (n : Int) (hk : k.size ≤ maxLen) (w : World) :
    Calls Try.prog 5 #[.string k, .int .i64 n] w fun e w' => e = .returned (.bool true) ∧ Below w.heap.size w w' := by
  obtain ⟨S, hS⟩ : ∃ S, S = w.heap.size := ⟨_, rfl⟩
  rw [← hS]
  have HS := Lib.hid hS
  clear hS
  go_enter Try.func5, Try.ntmps5
  go_wp2_with fail
  go_loopw [5] (fun i wr => ∃ j : Nat, j ≤ 4 ∧ i = .int .i64 j ∧ Below S w wr) (fun i _ => (4 - intOf i).toNat)
  case atStart => exact ⟨0, by omega, rfl, Below.refl _ _⟩
  case round =>
    obtain ⟨j, hj, rfl, hB⟩ := hrel
    have HB := Lib.hid hB
    clear hB
    have hsz : S ≤ wr.heap.size := by have := HB.out.size; rw [← HS.out] at this; exact this
    match j, hj with
    | 4, _ =>
      go_wp2_with fail
      refine (works_any _).mono ?_
      rintro e w1 ⟨rfl, hB1⟩
      have HB1 := Lib.hid (HB.out.trans (hB1.mono hsz))
      clear hB1
      go_wp2
      go_ret
      exact ⟨rfl, HB1.out⟩
    | 0, _ =>
      go_wp2_with fail
      have HP := Lib.hid (show Plain (wr.alloc (.cells #[.int .i64 0, .map none, .pointer none, .int .i64 0, .int .i64 0, .int .i64 0] 49)) (ptr wr.heap.size) from .inr ⟨_, rfl, by simp⟩)
      refine (put_plain HP.out _ _).mono ?_
      rintro e w1 ⟨rfl, rfl⟩
      go_wp2_with fail
      refine (clear_plain HP.out).mono ?_
      rintro e w1 ⟨rfl, rfl⟩
      go_wp2_with fail
      refine (put_plain HP.out _ _).mono ?_
      rintro e w1 ⟨rfl, rfl⟩
      go_wp2_with fail
      refine (get_plain HP.out _).mono ?_
      rintro e w1 ⟨rfl, rfl⟩
      go_wp2_with fail
      refine (long_plain HP.out).mono ?_
      rintro e w1 ⟨rfl, rfl⟩
      go_wp2_with fail
      refine (room_plain HP.out).mono ?_
      rintro e w1 ⟨rfl, rfl⟩
      go_wp2_with fail
      refine (keys_plain HP.out).mono ?_
      rintro e w1 ⟨rfl, rfl⟩
      go_wp2_with fail
      refine (resize_plain HP.out _).mono ?_
      rintro e w1 ⟨rfl, rfl⟩
      go_wp2_with fail
      refine (put_plain HP.out _ _).mono ?_
      rintro e w1 ⟨rfl, rfl⟩
      go_wp2_with fail
      refine (get_plain HP.out _).mono ?_
      rintro e w1 ⟨rfl, rfl⟩
      go_wp2
      go_roundw
      case rel => exact ⟨1, by omega, rfl, HB.out.alloc hsz _⟩
      case measure => simp [intOf]
    | 1, _ =>
      go_wp2_with fail
      have HP := fun w => Lib.hid (show Plain w (.pointer none) from .inl rfl)
      refine (put_plain (HP _).out _ _).mono ?_
      rintro e w1 ⟨rfl, rfl⟩
      go_wp2_with fail
      refine (clear_plain (HP _).out).mono ?_
      rintro e w1 ⟨rfl, rfl⟩
      go_wp2_with fail
      refine (put_plain (HP _).out _ _).mono ?_
      rintro e w1 ⟨rfl, rfl⟩
      go_wp2_with fail
      refine (get_plain (HP _).out _).mono ?_
      rintro e w1 ⟨rfl, rfl⟩
      go_wp2_with fail
      refine (long_plain (HP _).out).mono ?_
      rintro e w1 ⟨rfl, rfl⟩
      go_wp2_with fail
      refine (room_plain (HP _).out).mono ?_
      rintro e w1 ⟨rfl, rfl⟩
      go_wp2_with fail
      refine (keys_plain (HP _).out).mono ?_
      rintro e w1 ⟨rfl, rfl⟩
      go_wp2_with fail
      refine (resize_plain (HP _).out _).mono ?_
      rintro e w1 ⟨rfl, rfl⟩
      go_wp2_with fail
      refine (put_plain (HP _).out _ _).mono ?_
      rintro e w1 ⟨rfl, rfl⟩
      go_wp2_with fail
      refine (get_plain (HP _).out _).mono ?_
      rintro e w1 ⟨rfl, rfl⟩
      go_wp2
      go_roundw
      case rel => exact ⟨2, by omega, rfl, HB.out.alloc hsz _⟩
      case measure => simp [intOf]
    | 2, _ =>
      go_wp2_with fail
      refine (new_any 0 _).mono ?_
      rintro e w1 ⟨c, m, r, rfl, hK, hB1⟩
      have hBn : Below S wr w1 := ((Below.refl S wr).alloc hsz _).trans (hB1.mono (by simp; omega))
      obtain ⟨B, hBB⟩ : ∃ B, B = (wr.alloc (.cells #[.int .i64 0, .map none, .pointer none, .int .i64 0, .int .i64 0, .int .i64 0] 49)).heap.size := ⟨_, rfl⟩
      have hSB : S ≤ B := by rw [hBB]; simp; omega
      have hK1 : Kept w1 B c m r 0 (0, 0, 0) [] := by rw [hBB]; exact hK
      have HK1 := Lib.hid hK1
      have HB1 := Lib.hid (HB.out.trans hBn)
      clear hK hB1 hBn hK1 hBB
      go_wp2_with fail
      refine (put_none HK1.out _ _).mono ?_
      rintro e w2 ⟨rfl, rfl⟩
      go_wp2_with fail
      refine (clear_any HK1.out).mono ?_
      rintro e w2 ⟨rfl, hK, hB2⟩
      have HK2 := Lib.hid hK
      have HB2 := Lib.hid (HB1.out.trans (hB2.mono hSB))
      clear hK hB2 HK1 HB1
      go_wp2_with fail
      refine (put_none HK2.out _ _).mono ?_
      rintro e w3 ⟨rfl, rfl⟩
      go_wp2_with fail
      refine (get_miss HK2.out hk rfl (by decide) (by decide)).mono ?_
      rintro e w3 ⟨rfl, hK, hB3⟩
      have hK1 : Kept w3 B c m r 0 (0, 1, 0) [] := hK
      have HK3 := Lib.hid hK1
      have HB3 := Lib.hid (HB2.out.trans (hB3.mono hSB))
      clear hK hK1 hB3 HK2 HB2
      go_wp2_with fail
      refine (long_any HK3.out).mono ?_
      rintro e w4 ⟨rfl, rfl⟩
      go_wp2_with fail
      refine (room_any HK3.out).mono ?_
      rintro e w4 ⟨rfl, rfl⟩
      go_wp2_with fail
      refine (keys_none HK3.out).mono ?_
      rintro e w4 ⟨rfl, rfl⟩
      go_wp2_with fail
      refine (resize_any HK3.out (by decide) (by decide) (by decide) 3).mono ?_
      rintro e w4 ⟨rfl, hK, hB4⟩
      have hK1 : Kept w4 B c m r 3 (0, 1, 0) [] := hK
      have HK4 := Lib.hid hK1
      have HB4 := Lib.hid (HB3.out.trans (hB4.mono hSB))
      clear hK hK1 hB4 HK3 HB3
      go_wp2_with fail
      refine (put_miss HK4.out (by decide) (by decide) (by decide) (by decide) (by decide) n hk rfl).mono ?_
      rintro e w5 ⟨rfl, b, hK, hB5⟩
      have hK1 : Kept w5 B c m r 3 (0, 1, 0) [(k, n, b)] := hK
      have HK5 := Lib.hid hK1
      have HB5 := Lib.hid (HB4.out.trans (hB5.mono hSB))
      clear hK hK1 hB5 HK4 HB4
      go_wp2_with fail
      refine (get_hit HK5.out (x := (k, n, b)) hk (by simp [look]) (by decide) (by decide)).mono ?_
      rintro e w6 ⟨rfl, hK, hB6⟩
      have HB6 := Lib.hid (HB5.out.trans (hB6.mono hSB))
      clear hK hB6 HK5 HB5
      go_wp2
      go_roundw
      case rel => exact ⟨3, by omega, rfl, HB6.out⟩
      case measure => simp [intOf]
    | 3, _ =>
      go_wp2_with fail
      refine (new_any (-1) _).mono ?_
      rintro e w1 ⟨c, m, r, rfl, hK, hB1⟩
      have hBn : Below S wr w1 := ((Below.refl S wr).alloc hsz _).trans (hB1.mono (by simp; omega))
      obtain ⟨B, hBB⟩ : ∃ B, B = (wr.alloc (.cells #[.int .i64 0, .map none, .pointer none, .int .i64 0, .int .i64 0, .int .i64 0] 49)).heap.size := ⟨_, rfl⟩
      have hSB : S ≤ B := by rw [hBB]; simp; omega
      have hK1 : Kept w1 B c m r 0 (0, 0, 0) [] := by rw [hBB]; exact hK
      have HK1 := Lib.hid hK1
      have HB1 := Lib.hid (HB.out.trans hBn)
      clear hK hB1 hBn hK1 hBB
      go_wp2_with fail
      refine (put_none HK1.out _ _).mono ?_
      rintro e w2 ⟨rfl, rfl⟩
      go_wp2_with fail
      refine (clear_any HK1.out).mono ?_
      rintro e w2 ⟨rfl, hK, hB2⟩
      have HK2 := Lib.hid hK
      have HB2 := Lib.hid (HB1.out.trans (hB2.mono hSB))
      clear hK hB2 HK1 HB1
      go_wp2_with fail
      refine (put_none HK2.out _ _).mono ?_
      rintro e w3 ⟨rfl, rfl⟩
      go_wp2_with fail
      refine (get_miss HK2.out hk rfl (by decide) (by decide)).mono ?_
      rintro e w3 ⟨rfl, hK, hB3⟩
      have hK1 : Kept w3 B c m r 0 (0, 1, 0) [] := hK
      have HK3 := Lib.hid hK1
      have HB3 := Lib.hid (HB2.out.trans (hB3.mono hSB))
      clear hK hK1 hB3 HK2 HB2
      go_wp2_with fail
      refine (long_any HK3.out).mono ?_
      rintro e w4 ⟨rfl, rfl⟩
      go_wp2_with fail
      refine (room_any HK3.out).mono ?_
      rintro e w4 ⟨rfl, rfl⟩
      go_wp2_with fail
      refine (keys_none HK3.out).mono ?_
      rintro e w4 ⟨rfl, rfl⟩
      go_wp2_with fail
      refine (resize_any HK3.out (by decide) (by decide) (by decide) 3).mono ?_
      rintro e w4 ⟨rfl, hK, hB4⟩
      have hK1 : Kept w4 B c m r 3 (0, 1, 0) [] := hK
      have HK4 := Lib.hid hK1
      have HB4 := Lib.hid (HB3.out.trans (hB4.mono hSB))
      clear hK hK1 hB4 HK3 HB3
      go_wp2_with fail
      refine (put_miss HK4.out (by decide) (by decide) (by decide) (by decide) (by decide) n hk rfl).mono ?_
      rintro e w5 ⟨rfl, b, hK, hB5⟩
      have hK1 : Kept w5 B c m r 3 (0, 1, 0) [(k, n, b)] := hK
      have HK5 := Lib.hid hK1
      have HB5 := Lib.hid (HB4.out.trans (hB5.mono hSB))
      clear hK hK1 hB5 HK4 HB4
      go_wp2_with fail
      refine (get_hit HK5.out (x := (k, n, b)) hk (by simp [look]) (by decide) (by decide)).mono ?_
      rintro e w6 ⟨rfl, hK, hB6⟩
      have HB6 := Lib.hid (HB5.out.trans (hB6.mono hSB))
      clear hK hB6 HK5 HB5
      go_wp2
      go_roundw
      case rel => exact ⟨4, by omega, rfl, HB6.out⟩
      case measure => simp [intOf]

end Go.Proofs.Ytfcdmkfbkkogbab.Cache
