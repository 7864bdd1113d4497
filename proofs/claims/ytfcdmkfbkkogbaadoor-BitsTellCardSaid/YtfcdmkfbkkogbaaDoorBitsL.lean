/- The set of 64 and 1, walked. -/
import Derived.Test.YtfcdmkfbkkogbaaDoorBitsK
namespace Go.Proofs.YtfcdmkfbkkogbaaDoor.Bits
open Go Go.RowKit

theorem two_ints (w : World) (n m : Int) : Ints (w.alloc (.cells #[.int .i64 n, .int .i64 m] 3)) (.slice (some ⟨w.heap.size, 0, none⟩) 2 2) [n, m] := by
  refine ⟨.inr ⟨w.heap.size, 0, 2, rfl, by simp, fun i x h => ?_⟩, by simp⟩
  cases i with
  | zero => simp at h; subst h; simp
  | succ i =>
    cases i with
    | zero => simp at h; subst h; simp
    | succ i => simp at h

theorem lt_of_cell {w : World} {b o : Nat} {v : Value} (h : w.cell? ⟨b, o, none⟩ = some v) : b < w.heap.size := by
  unfold World.cell? at h
  split at h
  · rename_i e; exact (Array.getElem?_eq_some_iff.1 e).1
  · cases h

theorem of_two : ofL [64, 1] = [2, 1] := by decide +kernel
theorem count_two : count [2, 1] = 2 := by decide +kernel
theorem key_two : keyS [2, 1] = ⟨#[2, 0, 0, 0, 0, 0, 0, 0, 1, 0, 0, 0, 0, 0, 0, 0]⟩ := by decide +kernel

set_option maxRecDepth 100000 in
theorem works_any {w : World} (h : w.cell? ⟨2, 0, none⟩ = some (.int .u8 0)) : Calls Tryd.prog 50 #[] w fun e w' => e = .returned (.bool true) ∧ Below w.heap.size w w' := by
  have h0 : 2 < w.heap.size := lt_of_cell h
  have hB0 : Below w.heap.size w (w.alloc (.cells #[.int .i64 64, .int .i64 1] 3)) := (Below.refl _ _).alloc (Nat.le_refl _) _
  have HO := Lib.hid (of_any (two_ints w 64 1))
  have HH := Lib.hid h
  rw [of_two] at HO
  have HB0 := Lib.hid hB0
  clear hB0 h
  go_enter Tryd.func50, Tryd.ntmps50
  go_wp2_with fail
  refine HO.out.mono ?_
  rintro e w1 ⟨v1, rfl, hown, hB⟩
  have h1 : w.heap.size ≤ (w.alloc (.cells #[.int .i64 64, .int .i64 1] 3)).heap.size := by simp
  have hB1 := HB0.out.trans (hB.mono h1)
  have hc := (hB1.cell (p := ⟨2, 0, none⟩) h0).trans HH.out
  have HL := hown.words.len
  obtain ⟨b, off, cap, rfl, hcap, hcm, hb, hcc⟩ := hown.words.at (by simp)
  have c0 : w1.cell? ⟨b, off, none⟩ = some (wordV 2) := hcc 0 2 rfl
  have c1 : w1.cell? ⟨b, off + 1, none⟩ = some (wordV 1) := hcc 1 1 rfl
  have HW := Lib.hid hown.words
  have HC := Lib.hid hc
  have HB1 := Lib.hid hB1
  clear hown hB hB1 hcc hc h1 HO HB0
  have HN := Lib.hid (next_two HW.out HC.out)
  have HCT := Lib.hid (count_any HW.out)
  rw [count_two] at HCT
  have H1 := Lib.hid (has_one HW.out)
  have H2 := Lib.hid (has_two HW.out)
  have HK := Lib.hid (key_any HW.out)
  rw [key_two] at HK
  go_wp2_with fail
  refine HN.out.mono ?_
  rintro e w2 ⟨rfl, rfl⟩
  go_wp2_with fail
  refine HCT.out.mono ?_
  rintro e w2 ⟨rfl, rfl⟩
  go_wp2_with fail
  refine H1.out.mono ?_
  rintro e w2 ⟨rfl, rfl⟩
  go_wp2_with fail
  refine H2.out.mono ?_
  rintro e w2 ⟨rfl, rfl⟩
  go_wp2_with fail
  refine HK.out.mono ?_
  rintro e w2 ⟨rfl, hB⟩
  have HB2 := Lib.hid (HB1.out.trans (hB.mono HB1.out.size))
  clear hB
  go_wp2
  go_ret
  exact ⟨rfl, HB2.out⟩

end Go.Proofs.YtfcdmkfbkkogbaaDoor.Bits
