/- Show, walked. -/
import Derived.Test.YtfcdmkfbkkogbaaDoorUtfJ
namespace Go.Proofs.YtfcdmkfbkkogbaaDoor.Utf
open Go Go.RowKit

theorem strCells_of (l : List UInt8) : Lib.strCells ⟨l.toArray⟩ = Lib.byteCells l := rfl
theorem byteCells_append (a b : List UInt8) : Lib.byteCells (a ++ b) = Lib.byteCells a ++ Lib.byteCells b := by simp [Lib.byteCells]
theorem piece_len (l : List UInt8) : (piece l).length ≤ 8 := by
  have hh : ∀ n, (numb n).length ≤ 6 := fun n => by unfold numb; have := hexL_len n; simp; omega
  have h4 : (Lib.decodeL l).2 ≤ 4 := by rw [decodeL_txt]; exact (txt _).w_le 0
  unfold piece
  repeat' split
  · have := hh (l.getD 0 0).toNat; omega
  · simp
  · have := hh (Lib.decodeL l).1; omega
  · rw [List.length_take]; omega

/-- What has been shown of a text when the rest from p on is left. -/
def Shown (s : ByteArray) (p : Nat) (l : List UInt8) : Prop := showL s.data.toList = l ++ showL (s.data.toList.drop p) ∧ l.length ≤ 8 * p
theorem Shown.step {s : ByteArray} {p : Nat} {l : List UInt8} (h : Shown s p l) (hp : p < s.size) : Shown s (p + (txt s).w p) (l ++ piece (s.data.toList.drop p)) := by
  have hne : s.data.toList.drop p ≠ [] := fun e => by
    have := congrArg List.length e
    rw [List.length_drop, ← Lib.size_eq] at this
    simp at this; omega
  refine ⟨?_, ?_⟩
  · rw [h.1, showL_step _ hne, List.append_assoc, List.drop_drop, drop_decode]; rfl
  · have := h.2; have h8 := piece_len (s.data.toList.drop p); have hw := (txt s).w_pos p
    rw [List.length_append]; omega
theorem Shown.done {s : ByteArray} {l : List UInt8} (h : Shown s s.size l) : l = showL s.data.toList := by
  have := h.1
  rw [List.drop_eq_nil_of_le (by rw [Lib.size_eq]; exact Nat.le_refl _), showL_nil, List.append_nil] at this
  exact this.symm
def G (w : World) : Prop := U8 w ∧ Z16 w
theorem G.stay {w w' : World} (h : G w) (hb : Below w.heap.size w w') : G w' := ⟨h.1.stay hb, h.2.stay hb⟩

/-- Show's memory while it goes on. -/
def Showing (W : World) (S b : Nat) (s : ByteArray) (p : Nat) (wx : World) : Prop := ∃ l, Shown s p l ∧ Lib.IsBuilder 81 5 S b (Lib.byteCells l) wx ∧ Below S W wx
set_option maxRecDepth 100000 in
theorem show_any (s : ByteArray) (W : World) (h : G W) (hs : s.size ≤ 1000000) :
    Calls Tryd.prog 24 #[.string s] W fun e w' => e = .returned (.string ⟨(showL s.data.toList).toArray⟩) ∧ Below W.heap.size W w' := by
  obtain ⟨S, hS⟩ : ∃ S, S = W.heap.size := ⟨_, rfl⟩
  have HS := Lib.hid hS
  rw [← hS]
  have hsz : S ≤ W.heap.size := by omega
  have HG := Lib.hid h
  have H0 : Hid (Showing W S W.heap.size s 0 (W.alloc (.cells #[.pointer none, .slice none 0 0] 81))) := by
    rw [hS]
    exact ⟨[], ⟨by simp, by simp⟩, Lib.fresh_isBuilder 81 5 W, (Below.refl _ _).alloc (Nat.le_refl _) _⟩
  obtain ⟨X, hX⟩ : ∃ X : ByteArray, ⟨(showL s.data.toList).toArray⟩ = X := ⟨_, rfl⟩
  rw [hX]
  have HX := Lib.hid hX
  clear h hS hX
  go_enter Tryd.func24, Tryd.ntmps24
  go_wp2_with fail
  go_loopw [4, 5] (fun i x wx => ∃ p : Nat, p ≤ s.size ∧ i = .int .i64 (p : Int) ∧ Showing W S W.heap.size s p wx) (fun i _ _ => s.size - (intOf i).toNat)
  case atStart => exact ⟨0, by omega, rfl, H0.out⟩
  case round =>
    obtain ⟨p, hp, rfl, l, hl, hbd, hB⟩ := hrel
    have HL := Lib.hid hl
    have HBD := Lib.hid hbd
    have HB := Lib.hid hB
    clear hl hbd hB
    by_cases hlt : p < s.size
    · have hGr : G wr := HG.out.stay (by rw [← HS.out]; exact HB.out)
      have hszr : S ≤ wr.heap.size := Nat.le_trans hsz HB.out.size
      have HA := Lib.hid (at_in s p wr hGr.1 hlt)
      have HGR := Lib.hid hGr
      have hw1 := (txt s).w_pos p
      have hwn : p + (txt s).w p ≤ s.size := (txt s).w_in p hlt
      have HSH := fun w hz => shown_any s p w hz hlt hs
      have HSH := Lib.hid HSH
      have HST := Lib.hid (HL.out.step hlt)
      have HPL := Lib.hid (piece_len (s.data.toList.drop p))
      have HLL := Lib.hid HL.out.2
      unfold itemV at HA HSH
      obtain ⟨w0, hw0⟩ : ∃ x, (txt s).w p = x := ⟨_, rfl⟩
      obtain ⟨r0, hr0⟩ : ∃ x, (txt s).r p = x := ⟨_, rfl⟩
      obtain ⟨o0, ho0⟩ : ∃ x, (txt s).ok p = x := ⟨_, rfl⟩
      obtain ⟨pc, hpc⟩ : ∃ x, piece (s.data.toList.drop p) = x := ⟨_, rfl⟩
      rw [hw0, hr0, ho0] at HA HSH
      rw [hw0] at HST hw1 hwn
      rw [hpc] at HST HSH HPL
      clear hGr hw0 hr0 ho0 hpc
      go_wp2_with fail
      refine HA.out.mono ?_
      rintro e w1 ⟨rfl, hb1⟩
      have hsz1 : S ≤ w1.heap.size := Nat.le_trans hszr hb1.size
      have hba : Below w1.heap.size w1 (w1.alloc (.cells #[.int .i64 (p : Int), .int .i64 (w0 : Int), .int .i32 (r0 : Int), .bool o0] 27)) := (Below.refl _ _).alloc (Nat.le_refl _) _
      have HB1 := Lib.hid (HB.out.trans (hb1.mono hszr))
      have HG1 := Lib.hid ((HGR.out.stay hb1).stay hba)
      have HBD1 := Lib.hid (builder_stay (builder_stay HBD.out hb1) hba)
      clear hb1 hba HA HBD HB HGR
      go_wp2_with fail
      refine (HSH.out _ HG1.out.2).mono ?_
      rintro e w2 ⟨rfl, hb2⟩
      have hlt2 : w1.heap.size < (w1.alloc (.cells #[.int .i64 (p : Int), .int .i64 (w0 : Int), .int .i32 (r0 : Int), .bool o0] 27)).heap.size := by simp
      have hbl2 : w2.heap[w1.heap.size]? = some (.cells #[.int .i64 (p : Int), .int .i64 (w0 : Int), .int .i32 (r0 : Int), .bool o0] 27 (0, 0)) := (hb2.block _ hlt2).trans (heap_alloc_new w1 _)
      have hs2 : w1.heap.size + 1 ≤ w2.heap.size := by have := hb2.size; simpa using this
      have HB2 := Lib.hid ((HB1.out.alloc hsz1 _).trans (hb2.mono (by simp; omega)))
      have hpl : pc.length ≤ 8 := HPL.out
      have hll : l.length ≤ 8 * p := HLL.out
      have HW := Lib.hid (write_any S W.heap.size (Lib.byteCells l) ⟨pc.toArray⟩ w2 (builder_stay HBD1.out hb2) (by rw [Lib.byteCells_length]; show l.length + pc.length ≤ _; omega) (by omega))
      have HNB : Hid (w1.heap.size ≠ W.heap.size) := by
        intro e
        have := HBD1.out
        rcases this with ⟨_, v, h, _⟩ | ⟨_, v, h, _⟩ <;> (rw [← e, heap_alloc_new] at h; simp at h)
      have HBL2 := Lib.hid hbl2
      clear hb2 hlt2 hbl2 HBD1 HSH HG1
      go_wp2_with fail
      refine HW.out.mono ?_
      rintro e w3 ⟨rfl, ⟨hbd3, hb3⟩, hok⟩
      have hbl3 := hok _ _ HBL2.out (fun e => HNB.out (Option.some.inj e)) (fun c fz e => by cases e)
      have c1 : w3.cell? ⟨w1.heap.size, 1, none⟩ = some (.int .i64 (w0 : Int)) := by rw [Lib.cell_of_heap hbl3]; rfl
      have HR : Hid (Showing W S W.heap.size s (p + w0) w3) := ⟨l ++ pc, HST.out, .inr (by rw [byteCells_append]; exact hbd3), HB2.out.trans hb3⟩
      clear hbd3 hb3 hok hbl3 HW
      go_wp2
      go_roundw
      case rel => exact ⟨p + w0, by omega, by go_num, HR.out⟩
      case measure => simp [intOf]; omega
    · obtain rfl : p = s.size := by omega
      have hD := HL.out.done
      have HST := Lib.hid (Tryd.Builder_String_any S W.heap.size l wr HBD.out (Nat.le_trans hsz HB.out.size))
      rw [hD, HX.out] at HST
      have HB2 := Lib.hid HB.out
      clear hD
      go_wp2_with fail
      refine HST.out.mono ?_
      rintro e w1 ⟨rfl, hb⟩
      have HB3 := Lib.hid (HB2.out.trans hb)
      clear hb
      go_wp2
      go_ret
      exact ⟨rfl, HB3.out⟩

end Go.Proofs.YtfcdmkfbkkogbaaDoor.Utf
