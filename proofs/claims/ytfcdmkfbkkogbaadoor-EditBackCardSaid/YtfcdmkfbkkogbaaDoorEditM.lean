/- Diff. -/
import Derived.Test.YtfcdmkfbkkogbaaDoorEditL
import Derived.Deep.RegionHeld3
namespace Go.Proofs.YtfcdmkfbkkogbaaDoor.Edit
open Go Go.RowKit Go.Proofs.YtfcdmkfbkkogbaaDoor.Utf

def bothAt (a b : ByteArray) (i : Nat) : Bool := caretB (txt a) (i : Int) && caretB (txt b) (i : Int)
def bothEnd (a b : ByteArray) (i : Nat) : Bool := caretB (txt a) ((a.size : Int) - (i : Int)) && caretB (txt b) ((b.size : Int) - (i : Int))
/-- Where two texts part. -/
def atN (a b : ByteArray) : Nat := topP (bothAt a b) (preN (bytesL a) (bytesL b))
def sufN (a b : ByteArray) (p : Nat) : Nat := preN (bytesL (a.extract p a.size)).reverse (bytesL (b.extract p b.size)).reverse
/-- How many bytes stay at the end. -/
def endN (a b : ByteArray) : Nat := topP (bothEnd a b) (sufN a b (atN a b))
theorem caret_zero (t : Txt) : caretB t ((0 : Nat) : Int) = true := (caret_iff t 0).2 ⟨Nat.zero_le _, 0, rfl⟩
theorem caret_end (s : ByteArray) : caretB (txt s) (s.size : Int) = true := (caret_iff (txt s) s.size).2 ⟨Nat.le_refl _, (txt s).cnt, (txt s).pos_cnt⟩
theorem bothAt_zero (a b : ByteArray) : bothAt a b 0 = true := by unfold bothAt; rw [caret_zero, caret_zero]; rfl
theorem bothEnd_zero (a b : ByteArray) : bothEnd a b 0 = true := by
  unfold bothEnd
  rw [show (a.size : Int) - ((0 : Nat) : Int) = (a.size : Int) by omega, show (b.size : Int) - ((0 : Nat) : Int) = (b.size : Int) by omega, caret_end, caret_end]; rfl
theorem at_le (a b : ByteArray) : atN a b ≤ a.size ∧ atN a b ≤ b.size := by
  have h1 := topP_le (bothAt a b) (preN (bytesL a) (bytesL b))
  have h2 := preN_le (bytesL a) (bytesL b)
  rw [bytesL_len, bytesL_len] at h2
  unfold atN; omega
theorem suf_le (a b : ByteArray) {p : Nat} (ha : p ≤ a.size) (hb : p ≤ b.size) : p + sufN a b p ≤ a.size ∧ p + sufN a b p ≤ b.size := by
  have h2 := preN_le (bytesL (a.extract p a.size)).reverse (bytesL (b.extract p b.size)).reverse
  rw [List.length_reverse, List.length_reverse, bytesL_len, bytesL_len, ext_size a (Nat.le_refl _), ext_size b (Nat.le_refl _)] at h2
  unfold sufN; omega
theorem end_le (a b : ByteArray) : atN a b + endN a b ≤ a.size ∧ atN a b + endN a b ≤ b.size := by
  have h1 := topP_le (bothEnd a b) (sufN a b (atN a b))
  have h2 := at_le a b
  have h3 := suf_le a b h2.1 h2.2
  unfold endN; omega

set_option maxRecDepth 100000 in
set_option maxHeartbeats 4000000 in
theorem diff_any (a b : ByteArray) (W : World) (T : U8 W) (ha : a.size ≤ 1000000) (hb : b.size ≤ 1000000) :
    Calls Tryd.prog 30 #[.string a, .string b] W fun e w' => e = .returned (editV (atN a b) ((a.size : Int) - (endN a b : Int) - (atN a b : Int)) (b.extract (atN a b) (b.size - endN a b))) ∧ Below W.heap.size W w' := by
  have ka := fun (w : World) => Lib.run_convert_string_bytes (P := Tryd.prog) w 9 76 5 a Tryd.underlying9 Tryd.underlying76 Tryd.underlying5
  have kb := fun (w : World) => Lib.run_convert_string_bytes (P := Tryd.prog) w 9 76 5 b Tryd.underlying9 Tryd.underlying76 Tryd.underlying5
  obtain ⟨Z, hZ⟩ : ∃ Z, W.alloc (.cells #[.int .i64 0, .int .i64 0, .string ⟨#[]⟩] 41) = Z := ⟨_, rfl⟩
  have hB0 : Below W.heap.size W Z := by rw [← hZ]; exact (Below.refl W.heap.size W).alloc (Nat.le_refl _) _
  have hz0 : Z.heap[W.heap.size]? = some (.cells #[.int .i64 0, .int .i64 0, .string ⟨#[]⟩] 41 (0, 0)) := by rw [← hZ]; exact heap_alloc_new W _
  have hzl : W.heap.size < Z.heap.size := (Array.getElem?_eq_some_iff.1 hz0).1
  have hb1 := bytes_below Z a
  have hb2 := bytes_below (Lib.bytesWorld Z 5 a) b
  have r1 := (bytes_row Z a).stay hb2
  have r2 := bytes_row (Lib.bytesWorld Z 5 a) b
  have H1 := Lib.hid (alike_any _ _ _ _ _ r1 r2 (by rw [bytesL_len]; exact ha) (by rw [bytesL_len]; exact hb))
  have hbz := hb1.trans (hb2.mono hb1.size)
  have HZ0 := Lib.hid hz0
  have HBZ := Lib.hid hbz
  have HTZ := Lib.hid ((T.stay hB0).stay hbz)
  have HB0 := Lib.hid hB0
  have hpl := preN_le (bytesL a) (bytesL b)
  rw [bytesL_len, bytesL_len] at hpl
  obtain ⟨n, hn⟩ : ∃ n, preN (bytesL a) (bytesL b) = n := ⟨_, rfl⟩
  rw [hn] at H1 hpl
  have HAT : Hid (topP (bothAt a b) n = atN a b) := by rw [← hn]; exact rfl
  have hHS : Hid (Z.heap.size ≤ (Lib.bytesWorld (Lib.bytesWorld Z 5 a) 5 b).heap.size) := hbz.size
  unfold editV
  clear hB0 hb1 hb2 r1 r2 hbz hz0 hn T
  go_enter Tryd.func30, Tryd.ntmps30
  go_upto_region 1 with fail
  clear hZ
  go_wp2_with fail
  refine H1.out.mono ?_
  rintro e w1 ⟨rfl, hb⟩
  have HT1 := Lib.hid (HTZ.out.stay hb)
  have HB1 := Lib.hid (HBZ.out.trans (hb.mono hHS.out))
  clear hb H1 HTZ
  go_wp2_with fail
  go_loopw [5] (fun i wx => ∃ k : Nat, k ≤ n ∧ i = .int .i64 (k : Int) ∧ topP (bothAt a b) k = atN a b ∧ U8 wx ∧ Below Z.heap.size Z wx) (fun i _ => (intOf i).toNat)
  case atStart => exact ⟨n, Nat.le_refl _, rfl, HAT.out, HT1.out, HB1.out⟩
  case round =>
    obtain ⟨k, hk, rfl, htop, hu, hB⟩ := hrel
    have HU := Lib.hid hu
    have HB := Lib.hid hB
    have HC1 := Lib.hid (caret_any a k wr hu ha)
    have HC2 := Lib.hid (fun w hw => caret_any b k w hw hb)
    have hP : bothAt a b k = (caretB (txt a) (k : Int) && caretB (txt b) (k : Int)) := rfl
    obtain ⟨c1, h1⟩ : ∃ c, caretB (txt a) (k : Int) = c := ⟨_, rfl⟩
    obtain ⟨c2, h2⟩ : ∃ c, caretB (txt b) (k : Int) = c := ⟨_, rfl⟩
    rw [h1] at HC1 hP
    rw [h2] at HC2 hP
    have hzr : Z.heap.size ≤ wr.heap.size := hB.size
    clear hu hB h1 h2
    have step : bothAt a b k = false → ∃ d, k = d + 1 ∧ Hid (topP (bothAt a b) d = atN a b) := fun h => by
      cases k with
      | zero => rw [bothAt_zero] at h; cases h
      | succ d => exact ⟨d, rfl, by rw [← htop]; exact (topP_no h).symm⟩
    cases c1 with
    | false =>
      obtain ⟨d, rfl, ht⟩ := step (by rw [hP]; rfl)
      clear step hP htop
      go_wp2_with fail
      refine HC1.out.mono ?_
      rintro e w2 ⟨rfl, hb2⟩
      have HU2 := Lib.hid (HU.out.stay hb2)
      have HB2 := Lib.hid (HB.out.trans (hb2.mono hzr))
      clear hb2
      go_wp2
      go_roundw
      case rel => exact ⟨d, by omega, by go_num, ht.out, HU2.out, HB2.out⟩
      case measure => simp [intOf]
    | true =>
      cases c2 with
      | false =>
        obtain ⟨d, rfl, ht⟩ := step (by rw [hP]; rfl)
        clear step hP htop
        go_wp2_with fail
        refine HC1.out.mono ?_
        rintro e w2 ⟨rfl, hb2⟩
        have HU2 := Lib.hid (HU.out.stay hb2)
        have HB2 := Lib.hid (HB.out.trans (hb2.mono hzr))
        clear hb2
        go_wp2_with fail
        refine (HC2.out _ HU2.out).mono ?_
        rintro e w3 ⟨rfl, hb2⟩
        have HU3 := Lib.hid (HU2.out.stay hb2)
        have HB3 := Lib.hid (HB2.out.trans (hb2.mono HB2.out.size))
        clear hb2
        go_wp2
        go_roundw
        case rel => exact ⟨d, by omega, by go_num, ht.out, HU3.out, HB3.out⟩
        case measure => simp [intOf]
      | true =>
        have hat : k = atN a b := by rw [← htop, topP_yes (by rw [hP]; rfl)]
        have hle := at_le a b
        have hse := suf_le a b hle.1 hle.2
        have hee := end_le a b
        rw [← hat] at hle hse hee
        have HAT2 := Lib.hid hat
        clear step hP htop hat HAT hpl
        go_wp2_with fail
        refine HC1.out.mono ?_
        rintro e w2 ⟨rfl, hb2⟩
        have HU2 := Lib.hid (HU.out.stay hb2)
        have HB2 := Lib.hid (HB.out.trans (hb2.mono hzr))
        clear hb2
        go_wp2_with fail
        refine (HC2.out _ HU2.out).mono ?_
        rintro e w3 ⟨rfl, hb2⟩
        have HU3 := Lib.hid (HU2.out.stay hb2)
        have HB3 := Lib.hid (HB2.out.trans (hb2.mono HB2.out.size))
        clear hb2 HU HU2 HB HB2 HC1 HC2
        have hki : (k : Int) ≤ (a.size : Int) := by omega
        have hki2 : (k : Int) ≤ (b.size : Int) := by omega
        have HBA := Lib.hid (fun w => backwards_any (a.extract k a.size) w (by rw [ext_size a (Nat.le_refl _)]; omega))
        have HBB := Lib.hid (fun w => backwards_any (b.extract k b.size) w (by rw [ext_size b (Nat.le_refl _)]; omega))
        have la : (bytesL (a.extract k a.size)).reverse.length ≤ 1000000 := by rw [List.length_reverse, bytesL_len, ext_size a (Nat.le_refl _)]; omega
        have lb : (bytesL (b.extract k b.size)).reverse.length ≤ 1000000 := by rw [List.length_reverse, bytesL_len, ext_size b (Nat.le_refl _)]; omega
        obtain ⟨A, hA⟩ : ∃ A, (bytesL (a.extract k a.size)).reverse = A := ⟨_, rfl⟩
        obtain ⟨B, hB2⟩ : ∃ A, (bytesL (b.extract k b.size)).reverse = A := ⟨_, rfl⟩
        have HSUF : Hid (preN A B = sufN a b k) := by rw [← hA, ← hB2]; exact rfl
        rw [hA] at HBA la
        rw [hB2] at HBB lb
        clear hA hB2
        go_upto_region 4 with fail
        go_region_held3 (fun _ => True) (first | trivial | go_keep)
          (first
            | (go_at_call 61; refine (HBA.out _).mono ?_; rintro e w4 ⟨v4, rfl, hr4, hb4⟩)
            | (go_at_call 61; refine (HBB.out _).mono ?_; rintro e w5 ⟨v5, rfl, hr5, hb5⟩)
            | (go_at_call 60; refine (alike_any v4 v5 _ _ _ (hr4.stay hb5) hr5 la lb).mono ?_; rintro e w6 ⟨rfl, hb6⟩))
        have HB6 := Lib.hid (((HB3.out.drew.trans (hb4.mono HB3.out.size)).trans (hb5.mono (Nat.le_trans HB3.out.size hb4.size))).trans (hb6.mono (Nat.le_trans (Nat.le_trans HB3.out.size hb4.size) hb5.size)))
        have HU6 := Lib.hid (((HU3.out.stay (Below.refl _ _).drew).stay hb4).stay hb5 |>.stay hb6)
        have hm1 : k + preN A B ≤ a.size ∧ k + preN A B ≤ b.size := by rw [HSUF.out]; exact hse
        have HEN : Hid (topP (bothEnd a b) (preN A B) = endN a b) := by rw [HSUF.out, HAT2.out]; exact rfl
        obtain ⟨m, hm⟩ : ∃ m, preN A B = m := ⟨_, rfl⟩
        rw [hm] at hm1 HEN ⊢
        clear hb4 hb5 hb6 hr4 hr5 hm HSUF hse la lb HBA HBB HU3 HB3
        go_wp2_with fail
        go_loopw [6] (fun i wx => ∃ j : Nat, j ≤ m ∧ i = .int .i64 (j : Int) ∧ topP (bothEnd a b) j = endN a b ∧ U8 wx ∧ Below Z.heap.size Z wx) (fun i _ => (intOf i).toNat)
        case atStart => exact ⟨m, Nat.le_refl _, rfl, HEN.out, HU6.out, HB6.out⟩
        case round =>
          obtain ⟨j, hj, rfl, htop, hu, hB⟩ := hrel
          have HU := Lib.hid hu
          have HB := Lib.hid hB
          have HC1 := Lib.hid (caret_any a ((a.size : Int) - (j : Int)) wr hu ha)
          have HC2 := Lib.hid (fun w hw => caret_any b ((b.size : Int) - (j : Int)) w hw hb)
          have hP : bothEnd a b j = (caretB (txt a) ((a.size : Int) - (j : Int)) && caretB (txt b) ((b.size : Int) - (j : Int))) := rfl
          obtain ⟨c1, h1⟩ : ∃ c, caretB (txt a) ((a.size : Int) - (j : Int)) = c := ⟨_, rfl⟩
          obtain ⟨c2, h2⟩ : ∃ c, caretB (txt b) ((b.size : Int) - (j : Int)) = c := ⟨_, rfl⟩
          rw [h1] at HC1 hP
          rw [h2] at HC2 hP
          have hzr : Z.heap.size ≤ wr.heap.size := hB.size
          clear hu hB h1 h2
          have step : bothEnd a b j = false → ∃ d, j = d + 1 ∧ Hid (topP (bothEnd a b) d = endN a b) := fun h => by
            cases j with
            | zero => rw [bothEnd_zero] at h; cases h
            | succ d => exact ⟨d, rfl, by rw [← htop]; exact (topP_no h).symm⟩
          cases c1 with
          | false =>
            obtain ⟨d, hd, ht⟩ := step (by rw [hP]; rfl)
            have hjd : (j : Int) - 1 = (d : Int) := by omega
            have HD := Lib.hid hd
            clear step hP htop hd
            go_wp2_with fail
            refine HC1.out.mono ?_
            rintro e w2 ⟨rfl, hb2⟩
            have HU2 := Lib.hid (HU.out.stay hb2)
            have HB2 := Lib.hid (HB.out.trans (hb2.mono hzr))
            clear hb2
            go_wp2
            go_roundw
            case rel => exact ⟨d, by have := HD.out; omega, rfl, ht.out, HU2.out, HB2.out⟩
            case measure => have := HD.out; simp [intOf]; omega
          | true =>
            cases c2 with
            | false =>
              obtain ⟨d, hd, ht⟩ := step (by rw [hP]; rfl)
              have hjd : (j : Int) - 1 = (d : Int) := by omega
              have HD := Lib.hid hd
              clear step hP htop hd
              go_wp2_with fail
              refine HC1.out.mono ?_
              rintro e w2 ⟨rfl, hb2⟩
              have HU2 := Lib.hid (HU.out.stay hb2)
              have HB2 := Lib.hid (HB.out.trans (hb2.mono hzr))
              clear hb2
              go_wp2_with fail
              refine (HC2.out _ HU2.out).mono ?_
              rintro e w3 ⟨rfl, hb2⟩
              have HU3 := Lib.hid (HU2.out.stay hb2)
              have HB3 := Lib.hid (HB2.out.trans (hb2.mono HB2.out.size))
              clear hb2
              go_wp2
              go_roundw
              case rel => exact ⟨d, by have := HD.out; omega, rfl, ht.out, HU3.out, HB3.out⟩
              case measure => have := HD.out; simp [intOf]; omega
            | true =>
              have hen : j = endN a b := by rw [← htop, topP_yes (by rw [hP]; rfl)]
              have HEN2 := Lib.hid hen
              obtain ⟨f, hf⟩ : ∃ f, b.size - j = f := ⟨_, rfl⟩
              have ef : (b.size : Int) - (j : Int) = (f : Int) := by omega
              have hfk : (k : Int) ≤ (f : Int) := by omega
              have hfs : (f : Int) ≤ (b.size : Int) := by omega
              have H62 := Lib.hid (fun w => clone_any (b.extract k f) w (by rw [ext_size b (by omega)]; omega))
              have HF := Lib.hid hf
              rw [ef] at HC2
              clear step hP htop hen hf
              go_wp2_with fail
              refine HC1.out.mono ?_
              rintro e w2 ⟨rfl, hb2⟩
              have HU2 := Lib.hid (HU.out.stay hb2)
              have HB2 := Lib.hid (HB.out.trans (hb2.mono hzr))
              clear hb2
              go_wp2_with fail
              refine (HC2.out _ HU2.out).mono ?_
              rintro e w3 ⟨rfl, hb2⟩
              have HB3 := Lib.hid (HB2.out.trans (hb2.mono HB2.out.size))
              clear hb2
              go_wp2_with fail
              refine (H62.out _).mono ?_
              rintro e w4 ⟨rfl, hb2⟩
              have hB4 := HB3.out.trans (hb2.mono HB3.out.size)
              have hbl := (hB4.block _ hzl).trans HZ0.out
              have c0 : w4.cell? ⟨W.heap.size, 0, none⟩ = some (.int .i64 0) := by rw [Lib.cell_of_heap hbl]; rfl
              have c1 : w4.cell? ⟨W.heap.size, 1, none⟩ = some (.int .i64 0) := by rw [Lib.cell_of_heap hbl]; rfl
              have c2 : w4.cell? ⟨W.heap.size, 2, none⟩ = some (.string ⟨#[]⟩) := by rw [Lib.cell_of_heap hbl]; rfl
              have f0 := Lib.frozen_of_heap hbl 0
              have f1 := Lib.frozen_of_heap hbl 1
              have f2 := Lib.frozen_of_heap hbl 2
              have hB5 := HB0.out.trans (hB4.mono HB0.out.size)
              have hl4 : W.heap.size < w4.heap.size := Nat.lt_of_lt_of_le hzl hB4.size
              have KEY := Lib.hid (fun v0 v1 v2 => ((hB5.setCell (p := ⟨W.heap.size, 0, none⟩) (Nat.le_refl _) v0).setCell (p := ⟨W.heap.size, 1, none⟩) (Nat.le_refl _) v1).setCell (p := ⟨W.heap.size, 2, none⟩) (Nat.le_refl _) v2)
              clear hb2 hbl hB4 hB5
              go_wp2
              refine bodyPost_ret (v := .agg #[.int .i64 (k : Int), .int .i64 ((a.size : Int) - (j : Int) - (k : Int)), .string (b.extract k f)]) (by simp [results, Tryd.results30, go_sem, c0, c1, c2]) rfl ⟨by rw [← HEN2.out, ← HAT2.out, HF.out], ?_⟩
              exact KEY.out _ _ _

end Go.Proofs.YtfcdmkfbkkogbaaDoor.Edit
