/- slices.Reverse, of bytes; backwards. -/
import Derived.Test.YtfcdmkfbkkogbaaDoorEditK
import Derived.Test.YtfcdmkfbkkogbaaDoorUtfBackW
import Derived.Deep.DeepCutAuto
import Derived.Deep.CutBlock
namespace Go.Proofs.YtfcdmkfbkkogbaaDoor.Edit
open Go Go.RowKit Go.Proofs.YtfcdmkfbkkogbaaDoor.Utf

/-- The row as it is while it is turned: what is ahead of i, and behind n - 1 - i, is turned. -/
def turnAt (l : List Nat) (i p : Nat) : Nat := if p < i ∨ l.length < p + 1 + i then l.getD (l.length - 1 - p) 0 else l.getD p 0
theorem turn_zero {l : List Nat} {p : Nat} (h : p < l.length) : turnAt l 0 p = l.getD p 0 := if_neg (by omega)
theorem turn_done {l : List Nat} {i p : Nat} (hp : p < l.length) (h : l.length ≤ i + 1 + i) : turnAt l i p = l.reverse.getD p 0 := by
  have e : l.reverse.getD p 0 = l.getD (l.length - 1 - p) 0 := by
    rw [List.getD_eq_getElem?_getD, List.getD_eq_getElem?_getD, List.getElem?_reverse hp]
  rw [e]
  unfold turnAt
  by_cases h1 : p < i ∨ l.length < p + 1 + i
  · rw [if_pos h1]
  · rw [if_neg h1, show l.length - 1 - p = p by omega]
theorem turn_step {l : List Nat} {k d p : Nat} (hd : d = l.length - 1 - k) (hk : k < d) : turnAt l (k + 1) p = if p = k then turnAt l k d else if p = d then turnAt l k k else turnAt l k p := by
  unfold turnAt
  by_cases e1 : p = k
  · subst e1
    rw [if_pos rfl, if_pos (by omega), if_neg (by omega), hd]
  · rw [if_neg e1]
    by_cases e2 : p = d
    · subst e2
      rw [if_pos rfl, if_pos (by omega), if_neg (by omega), show l.length - 1 - p = k by omega]
    · rw [if_neg e2]
      by_cases h : p < k ∨ l.length < p + 1 + k
      · rw [if_pos h, if_pos (by omega)]
      · rw [if_neg h, if_neg (by omega)]

set_option maxRecDepth 100000 in
theorem reverse_any (g cap : Nat) (l : List Nat) (W : World) (hl : l.length ≤ 1000000) (hg : g < W.heap.size)
    (hr : ∀ j, j < l.length → W.cell? ⟨g, j, none⟩ = some (.int .u8 (l.getD j 0 : Int)) ∧ W.frozen? ⟨g, j, none⟩ = false) :
    Calls Tryd.prog 78 #[.slice (some ⟨g, 0, none⟩) l.length cap] W fun e w' => e = .returned (.tuple #[]) ∧ Below g W w' ∧ g < w'.heap.size ∧ ∀ j, j < l.length → w'.cell? ⟨g, j, none⟩ = some (.int .u8 (l.reverse.getD j 0 : Int)) := by
  have R := Lib.hid hr
  have TZ := Lib.hid (fun p => @turn_zero l p)
  have TD := Lib.hid (fun i p => @turn_done l i p)
  obtain ⟨n, hn⟩ : ∃ n, l.length = n := ⟨_, rfl⟩
  have HN := Lib.hid hn
  rw [hn] at R hl TZ TD
  rw [hn]
  clear hr hn
  go_enter Tryd.func78, Tryd.ntmps78
  go_wp2_with fail
  go_loopw [2, 3] (fun i j wx => ∃ k : Nat, k ≤ n ∧ i = .int .i64 (k : Int) ∧ j = .int .i64 ((n : Int) - 1 - (k : Int)) ∧ 2 * k ≤ n + 1 ∧ (∀ p, p < n → wx.cell? ⟨g, p, none⟩ = some (.int .u8 (turnAt l k p : Int)) ∧ wx.frozen? ⟨g, p, none⟩ = false) ∧ Below g W wx ∧ g < wx.heap.size) (fun i _ _ => n - (intOf i).toNat)
  case atStart => exact ⟨0, Nat.zero_le _, rfl, by go_num, by omega, fun p hp => by rw [TZ.out p hp]; exact R.out p hp, Below.refl _ _, hg⟩
  case round =>
    obtain ⟨k, hk, rfl, rfl, h2, hcell, hB, hgr⟩ := hrel
    have HC := Lib.hid hcell
    have HB := Lib.hid hB
    clear hcell hB
    by_cases hlt : k < n - 1 - k
    · obtain ⟨d, hd⟩ : ∃ d : Nat, n - 1 - k = d := ⟨_, rfl⟩
      have ej : (n : Int) - 1 - (k : Int) = (d : Int) := by omega
      rw [ej]
      rw [hd] at hlt
      obtain ⟨x1, f1⟩ := HC.out k (by omega)
      obtain ⟨x2, f2⟩ := HC.out d (by omega)
      have d1 : decide (k < d) = true := decide_eq_true hlt
      have hdn : d < n := by omega
      have hkn : k < n := by omega
      have HTU : Hid (∀ p, p < n → turnAt l (k + 1) p = if p = k then turnAt l k d else if p = d then turnAt l k k else turnAt l k p) := fun p hp => turn_step (by rw [HN.out]; omega) hlt
      obtain ⟨x, hx⟩ : ∃ x, turnAt l k k = x := ⟨_, rfl⟩
      obtain ⟨y, hy⟩ : ∃ x, turnAt l k d = x := ⟨_, rfl⟩
      rw [hx] at x1 HTU
      rw [hy] at x2 HTU
      clear hx hy hd
      go_upto_block 1 with fail
      go_cut [] (fun wx => (∀ p, p < n → wx.cell? ⟨g, p, none⟩ = some (.int .u8 (turnAt l (k + 1) p : Int)) ∧ wx.frozen? ⟨g, p, none⟩ = false) ∧ Below g W wx ∧ g < wx.heap.size)
      case first =>
        go_upto_region 3 with fail
        go_region
        go_wp2_with fail
        go_meet
        refine ⟨fun p hp => ⟨?_, ?_⟩, ?_, ?_⟩
        · rw [World.cell?_drew, HTU.out p hp]
          by_cases e1 : p = d
          · subst e1
            rw [World.cell?_setCell_same _ _ _ (by rw [World.cell?_setCell_other _ _ _ _ (by intro h; simp only [Addr.mk.injEq] at h; omega)]; exact x2), if_neg (by omega), if_pos rfl]
          · rw [World.cell?_setCell_other _ _ _ _ (by intro h; simp only [Addr.mk.injEq] at h; omega)]
            by_cases e2 : p = k
            · subst e2
              rw [World.cell?_setCell_same _ _ _ x1, if_pos rfl]
            · rw [World.cell?_setCell_other _ _ _ _ (by intro h; simp only [Addr.mk.injEq] at h; omega), if_neg e2, if_neg e1]
              exact (HC.out p hp).1
        · rw [World.frozen?_drew, World.frozen?_setCell, World.frozen?_setCell]
          exact (HC.out p hp).2
        · exact ((HB.out.setCell (p := ⟨g, k, none⟩) (Nat.le_refl _) _).setCell (p := ⟨g, d, none⟩) (Nat.le_refl _) _).drew
        · have := ((HB.out.setCell (p := ⟨g, k, none⟩) (Nat.le_refl _) (.int .u8 (y : Int))).setCell (p := ⟨g, d, none⟩) (Nat.le_refl _) (.int .u8 (x : Int))).drew.size
          exact Nat.lt_of_lt_of_le hg this
      case rest =>
        obtain ⟨hc2, hb2, hg2⟩ := hcut
        have HC2 := Lib.hid hc2
        have HB2 := Lib.hid hb2
        clear hc2 hb2 x1 f1 x2 f2
        go_wp2
        go_roundw
        case rel => exact ⟨k + 1, hkn, by go_num, by congr 1; omega, by omega, HC2.out, HB2.out, hg2⟩
        case measure => simp [intOf]; omega
    · have d1 : decide ((k : Int) < (n : Int) - 1 - (k : Int)) = false := decide_eq_false (by omega)
      have HFIN : Hid (∀ j, j < n → wr.cell? ⟨g, j, none⟩ = some (.int .u8 (l.reverse.getD j 0 : Int))) := fun j hj => by
        rw [(HC.out j hj).1, TD.out k j hj (by omega)]
      clear hlt h2 hk
      go_wp2
      go_end0
      exact ⟨rfl, HB.out, hgr, HFIN.out⟩

/-- The bytes of a text, as numbers. -/
def bytesL (s : ByteArray) : List Nat := s.data.toList.map UInt8.toNat
theorem bytesL_len (s : ByteArray) : (bytesL s).length = s.size := by unfold bytesL; rw [List.length_map, ← Lib.size_eq]
theorem bytesL_get (s : ByteArray) {j : Nat} (h : j < s.size) : (bytesL s).getD j 0 = (txt s).b j := by
  have h2 : j < s.data.toList.length := by rw [← Lib.size_eq]; exact h
  rw [txt_byte, List.getD_eq_getElem?_getD, List.getD_eq_getElem?_getD]
  unfold bytesL
  rw [List.getElem?_map, List.getElem?_eq_getElem h2]; rfl
theorem bytes_below (W : World) (s : ByteArray) : Below W.heap.size W (Lib.bytesWorld W 5 s) :=
  ⟨rfl, rfl, rfl, by rw [Lib.bytesWorld_size]; exact Nat.le_succ _, fun j hj => Lib.bytesWorld_at_old W 5 s j hj⟩
theorem bytes_cells (W : World) (s : ByteArray) : ∀ j, j < (bytesL s).length → (Lib.bytesWorld W 5 s).cell? ⟨W.heap.size, j, none⟩ = some (.int .u8 ((bytesL s).getD j 0 : Int)) ∧ (Lib.bytesWorld W 5 s).frozen? ⟨W.heap.size, j, none⟩ = false := fun j hj => by
  rw [bytesL_len] at hj
  refine ⟨?_, ?_⟩
  · rw [Lib.bytesWorld_cell W 5 s j hj, bytesL_get s hj, txt_byte]
  · have h := Lib.bytesWorld_at_new W 5 s
    have hsz : s.size ≤ (Lib.bytesCells W 5 s).size := by unfold Lib.bytesCells; simp
    simp [World.frozen?, h]
    omega
theorem bytes_row (W : World) (s : ByteArray) : Brow (Lib.bytesWorld W 5 s) (.slice (some ⟨W.heap.size, 0, none⟩) s.size (grownCap W s.size 0 5)) (bytesL s) :=
  ⟨W.heap.size, _, by rw [bytesL_len], by rw [Lib.bytesWorld_size]; exact Nat.lt_succ_self _, fun j hj => (bytes_cells W s j hj).1⟩

set_option maxRecDepth 100000 in
theorem backwards_any (s : ByteArray) (W : World) (hs : s.size ≤ 1000000) :
    Calls Tryd.prog 61 #[.string s] W fun e w' => ∃ v, e = .returned v ∧ Brow w' v (bytesL s).reverse ∧ Below W.heap.size W w' := by
  have kb := fun (w : World) => Lib.run_convert_string_bytes (P := Tryd.prog) w 9 76 5 s Tryd.underlying9 Tryd.underlying76 Tryd.underlying5
  have H := Lib.hid (reverse_any W.heap.size (grownCap W s.size 0 5) (bytesL s) (Lib.bytesWorld W 5 s) (by rw [bytesL_len]; exact hs) (by rw [Lib.bytesWorld_size]; exact Nat.lt_succ_self _) (bytes_cells W s))
  rw [bytesL_len] at H
  have HB0 := Lib.hid (bytes_below W s)
  go_enter Tryd.func61, Tryd.ntmps61
  go_wp2_with fail
  refine H.out.mono ?_
  rintro e w1 ⟨rfl, hb, hg, hc⟩
  have HB := Lib.hid (HB0.out.trans hb)
  have HROW : Hid (Brow w1 (.slice (some ⟨W.heap.size, 0, none⟩) s.size (grownCap W s.size 0 5)) (bytesL s).reverse) :=
    ⟨W.heap.size, _, by rw [List.length_reverse, bytesL_len], hg, fun j hj => hc j (by rw [List.length_reverse, bytesL_len] at hj; exact hj)⟩
  clear hb hg hc
  go_wp2
  go_ret
  exact ⟨_, rfl, HROW.out, HB.out⟩

end Go.Proofs.YtfcdmkfbkkogbaaDoor.Edit
