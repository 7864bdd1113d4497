/- Contracts of the package utf: Encode, and the document's. -/
import Derived.Test.YtfcdmkfbkkogbaaDoorUtfE
import Derived.Lib.BufferRead
namespace Go.Proofs.YtfcdmkfbkkogbaaDoor.Utf
open Go Go.RowKit

/-- A sign's bytes, as a string; of what is none: the empty one. -/
def encB (r : Int) : ByteArray := if Lib.validRune r then Utf8.encode r else ⟨#[]⟩
theorem valid_iff (r : Int) : Lib.validRune r = true ↔ (0 ≤ r ∧ r < 55296) ∨ (57343 < r ∧ r ≤ 1114111) := by
  unfold Lib.validRune; rw [decide_eq_true_eq]

def u8s (ns : List Int) : List Value := ns.map (Value.int .u8)
def ofInts (ns : List Int) : ByteArray := ⟨(ns.map fun n => UInt8.ofNat n.toNat).toArray⟩
/-- Bytes that were just laid into memory, made a string. -/
theorem conv_lit (W : World) (ns : List Int) (n : Nat) (hl : ns.length = n) : (convert 76 9 (.slice (some ⟨W.heap.size, 0, none⟩) n n)).run Tryd.prog (W.alloc (.cells (u8s ns).toArray 5)) = .ok (.string (ofInts ns)) (W.alloc (.cells (u8s ns).toArray 5)) := by
  subst hl
  rw [run_convert_bytes_string _ 76 9 5 _ _ _ Tryd.underlying76 Tryd.underlying5 Tryd.underlying9]
  have hc : ∀ j u, (u8s ns)[j]? = some u → (W.alloc (.cells (u8s ns).toArray 5)).cell? ((⟨W.heap.size, 0, none⟩ : Addr).add j) = some u := fun j u hu => by
    have e : (⟨W.heap.size, 0, none⟩ : Addr).add j = ⟨W.heap.size, j, none⟩ := by
      by_cases e : j = 0
      · subst e; simp [Addr.add]
      · simp [Addr.add, e]
    rw [e, Lib.cell_of_heap (heap_alloc_new W _)]
    simpa using hu
  have hrun := run_loadCells_list (P := Tryd.prog) (W.alloc (.cells (u8s ns).toArray 5)) ⟨W.heap.size, 0, none⟩ (u8s ns) hc
  rw [show (u8s ns).length = ns.length from List.length_map _] at hrun
  rw [run_bytesToString _ _ ns.length ns.length ns hrun, foldl_push_bytes]
  simp [ofInts]

/-- The bytes of a sign are the document's. -/
theorem enc_bytes (r : Nat) (hv : Lib.validRune (r : Int) = true) : encB (r : Int) = ofInts ((encN r).map Int.ofNat) := by
  have h := (valid_iff _).1 hv
  unfold encB Utf8.encode encN
  rw [hv]
  have : Utf8.valid (r : Int) = true := by unfold Utf8.valid; simp; omega
  simp only [this, if_true, Int.toNat_natCast]
  rw [if_neg (by omega : ¬ ¬ (r < 55296 ∨ (57344 ≤ r ∧ r ≤ 1114111)))]
  repeat' split
  all_goals first | rfl | omega

set_option maxRecDepth 100000 in
theorem enc_any (r : Int) (W : World) : Calls Tryd.prog 21 #[.int .i32 r] W fun e W' => e = .returned (.tuple #[.string (encB r), .bool (Lib.validRune r)]) ∧ W = W' := by
  have HV := Lib.hid (Tryd.utf8_ValidRune r W)
  unfold encB
  cases hv : Lib.validRune r with
  | true =>
    rw [hv] at HV
    clear hv
    go_enter Tryd.func21, Tryd.ntmps21
    go_wp2_with fail
    refine HV.out.mono ?_
    rintro e w1 ⟨rfl, rfl⟩
    go_wp2
    go_ret2
    exact ⟨rfl, rfl⟩
  | false =>
    rw [hv] at HV
    clear hv
    go_enter Tryd.func21, Tryd.ntmps21
    go_wp2_with fail
    refine HV.out.mono ?_
    rintro e w1 ⟨rfl, rfl⟩
    go_wp2
    go_ret2
    exact ⟨rfl, rfl⟩

set_option maxRecDepth 100000 in
theorem refenc_none (r : Int) (W : World) (h : Lib.validRune r = false) : Calls Tryd.prog 22 #[.int .i64 r] W fun e W' => e = .returned (.string (encB r)) ∧ Below W.heap.size W W' := by
  have hE : encB r = ⟨#[]⟩ := by unfold encB; rw [h]; rfl
  rw [hE]
  have hn : ¬ ((0 ≤ r ∧ r < 55296) ∨ (57343 < r ∧ r ≤ 1114111)) := fun hh => by rw [(valid_iff r).2 hh] at h; cases h
  clear h hE
  by_cases h0 : r < 0
  · have e1 : decide (r < 0) = true := decide_eq_true h0
    clear hn
    go_enter Tryd.func22, Tryd.ntmps22
    go_wp2
    go_ret
    exact ⟨rfl, Below.refl _ _⟩
  · have e1 : decide (r < 0) = false := decide_eq_false h0
    by_cases h1 : 1114111 < r
    · have e2 : decide (1114111 < r) = true := decide_eq_true h1
      clear hn
      go_enter Tryd.func22, Tryd.ntmps22
      go_wp2
      go_ret
      exact ⟨rfl, Below.refl _ _⟩
    · have e2 : decide (1114111 < r) = false := decide_eq_false h1
      have h3 : 55296 ≤ r := by omega
      have h4 : r ≤ 57343 := by omega
      have e3 : decide (55296 ≤ r) = true := decide_eq_true h3
      have e4 : decide (r ≤ 57343) = true := decide_eq_true h4
      clear hn
      go_enter Tryd.func22, Tryd.ntmps22
      go_wp2
      go_ret
      exact ⟨rfl, Below.refl _ _⟩

set_option maxRecDepth 100000 in
theorem refenc_one (r : Nat) (W : World) (h : r < 128) : Calls Tryd.prog 22 #[.int .i64 (r : Int)] W fun e W' => e = .returned (.string (encB r)) ∧ Below W.heap.size W W' := by
  have hv : Lib.validRune (r : Int) = true := (valid_iff _).2 (by omega)
  rw [enc_bytes r hv]
  have he : encN r = [r] := by unfold encN; rw [if_neg (by omega), if_pos h]
  rw [he]
  have kc := conv_lit W [(r : Int)] 1 rfl
  obtain ⟨S, hS⟩ : ∃ S, ofInts [(r : Int)] = S := ⟨_, rfl⟩
  have hS2 : ofInts (List.map Int.ofNat [r]) = S := hS
  rw [hS] at kc
  rw [hS2]
  simp only [u8s, List.map_cons, List.map_nil] at kc
  have e1 : decide ((r : Int) < 0) = false := decide_eq_false (by omega)
  have e2 : decide (1114111 < (r : Int)) = false := decide_eq_false (by omega)
  have e3 : decide (55296 ≤ (r : Int)) = false := decide_eq_false (by omega)
  have e5 : decide ((r : Int) < 128) = true := decide_eq_true (by omega)
  clear hv he hS hS2
  go_enter Tryd.func22, Tryd.ntmps22
  go_wp2
  go_ret
  exact ⟨rfl, (Below.refl _ _).alloc (Nat.le_refl _) _⟩

set_option maxRecDepth 100000 in
theorem refenc_two (r : Nat) (W : World) (h : ¬ r < 128) (h' : r < 2048) : Calls Tryd.prog 22 #[.int .i64 (r : Int)] W fun e W' => e = .returned (.string (encB r)) ∧ Below W.heap.size W W' := by
  have hv : Lib.validRune (r : Int) = true := (valid_iff _).2 (by omega)
  rw [enc_bytes r hv]
  have he : encN r = [192 + r / 64, 128 + r % 64] := by unfold encN; rw [if_neg (by omega), if_neg h, if_pos h']
  rw [he]
  have kc := conv_lit W [192 + (r : Int) / 64, 128 + (r : Int) % 64] 2 rfl
  obtain ⟨S, hS⟩ : ∃ S, ofInts [192 + (r : Int) / 64, 128 + (r : Int) % 64] = S := ⟨_, rfl⟩
  have hS2 : ofInts (List.map Int.ofNat [192 + r / 64, 128 + r % 64]) = S := hS
  rw [hS] at kc
  rw [hS2]
  simp only [u8s, List.map_cons, List.map_nil] at kc
  have e1 : decide ((r : Int) < 0) = false := decide_eq_false (by omega)
  have e2 : decide (1114111 < (r : Int)) = false := decide_eq_false (by omega)
  have e3 : decide (55296 ≤ (r : Int)) = false := decide_eq_false (by omega)
  have e5 : decide ((r : Int) < 128) = false := decide_eq_false (by omega)
  have e6 : decide ((r : Int) < 2048) = true := decide_eq_true (by omega)
  clear hv he hS hS2
  go_enter Tryd.func22, Tryd.ntmps22
  go_wp2
  go_ret
  exact ⟨rfl, (Below.refl _ _).alloc (Nat.le_refl _) _⟩

set_option maxRecDepth 100000 in
theorem refenc_three (r : Nat) (W : World) (h : ¬ r < 2048) (h' : r < 65536) (hn : r < 55296 ∨ 57343 < r) : Calls Tryd.prog 22 #[.int .i64 (r : Int)] W fun e W' => e = .returned (.string (encB r)) ∧ Below W.heap.size W W' := by
  have hv : Lib.validRune (r : Int) = true := (valid_iff _).2 (by omega)
  rw [enc_bytes r hv]
  have he : encN r = [224 + r / 4096, 128 + r / 64 % 64, 128 + r % 64] := by unfold encN; rw [if_neg (by omega), if_neg (by omega), if_neg h, if_pos h']
  rw [he]
  have kc := conv_lit W [224 + (r : Int) / 4096, 128 + (r : Int) / 64 % 64, 128 + (r : Int) % 64] 3 rfl
  obtain ⟨S, hS⟩ : ∃ S, ofInts [224 + (r : Int) / 4096, 128 + (r : Int) / 64 % 64, 128 + (r : Int) % 64] = S := ⟨_, rfl⟩
  have hS2 : ofInts (List.map Int.ofNat [224 + r / 4096, 128 + r / 64 % 64, 128 + r % 64]) = S := hS
  rw [hS] at kc
  rw [hS2]
  simp only [u8s, List.map_cons, List.map_nil] at kc
  have e1 : decide ((r : Int) < 0) = false := decide_eq_false (by omega)
  have e2 : decide (1114111 < (r : Int)) = false := decide_eq_false (by omega)
  have e5 : decide ((r : Int) < 128) = false := decide_eq_false (by omega)
  have e6 : decide ((r : Int) < 2048) = false := decide_eq_false (by omega)
  have e7 : decide ((r : Int) < 65536) = true := decide_eq_true (by omega)
  rcases hn with hn | hn
  · have e3 : decide (55296 ≤ (r : Int)) = false := decide_eq_false (by omega)
    clear hv he hS hS2
    go_enter Tryd.func22, Tryd.ntmps22
    go_wp2
    go_ret
    exact ⟨rfl, (Below.refl _ _).alloc (Nat.le_refl _) _⟩
  · have e3 : decide (55296 ≤ (r : Int)) = true := decide_eq_true (by omega)
    have e4 : decide ((r : Int) ≤ 57343) = false := decide_eq_false (by omega)
    clear hv he hS hS2
    go_enter Tryd.func22, Tryd.ntmps22
    go_wp2
    go_ret
    exact ⟨rfl, (Below.refl _ _).alloc (Nat.le_refl _) _⟩

set_option maxRecDepth 100000 in
theorem refenc_four (r : Nat) (W : World) (h : ¬ r < 65536) (h' : r ≤ 1114111) : Calls Tryd.prog 22 #[.int .i64 (r : Int)] W fun e W' => e = .returned (.string (encB r)) ∧ Below W.heap.size W W' := by
  have hv : Lib.validRune (r : Int) = true := (valid_iff _).2 (by omega)
  rw [enc_bytes r hv]
  have he : encN r = [240 + r / 262144, 128 + r / 4096 % 64, 128 + r / 64 % 64, 128 + r % 64] := by unfold encN; rw [if_neg (by omega), if_neg (by omega), if_neg (by omega), if_neg h]
  rw [he]
  have kc := conv_lit W [240 + (r : Int) / 262144, 128 + (r : Int) / 4096 % 64, 128 + (r : Int) / 64 % 64, 128 + (r : Int) % 64] 4 rfl
  obtain ⟨S, hS⟩ : ∃ S, ofInts [240 + (r : Int) / 262144, 128 + (r : Int) / 4096 % 64, 128 + (r : Int) / 64 % 64, 128 + (r : Int) % 64] = S := ⟨_, rfl⟩
  have hS2 : ofInts (List.map Int.ofNat [240 + r / 262144, 128 + r / 4096 % 64, 128 + r / 64 % 64, 128 + r % 64]) = S := hS
  rw [hS] at kc
  rw [hS2]
  simp only [u8s, List.map_cons, List.map_nil] at kc
  have e1 : decide ((r : Int) < 0) = false := decide_eq_false (by omega)
  have e2 : decide (1114111 < (r : Int)) = false := decide_eq_false (by omega)
  have e3 : decide (55296 ≤ (r : Int)) = true := decide_eq_true (by omega)
  have e4 : decide ((r : Int) ≤ 57343) = false := decide_eq_false (by omega)
  have e5 : decide ((r : Int) < 128) = false := decide_eq_false (by omega)
  have e6 : decide ((r : Int) < 2048) = false := decide_eq_false (by omega)
  have e7 : decide ((r : Int) < 65536) = false := decide_eq_false (by omega)
  clear hv he hS hS2
  go_enter Tryd.func22, Tryd.ntmps22
  go_wp2
  go_ret
  exact ⟨rfl, (Below.refl _ _).alloc (Nat.le_refl _) _⟩

/-- The document's Encode, at any number. -/
theorem refenc_any (r : Int) (W : World) : Calls Tryd.prog 22 #[.int .i64 r] W fun e W' => e = .returned (.string (encB r)) ∧ Below W.heap.size W W' := by
  cases hv : Lib.validRune r with
  | false => exact refenc_none r W hv
  | true =>
    have h := (valid_iff _).1 hv
    obtain ⟨k, rfl⟩ := Int.eq_ofNat_of_zero_le (show 0 ≤ r by omega)
    by_cases h1 : k < 128
    · exact refenc_one k W h1
    by_cases h2 : k < 2048
    · exact refenc_two k W h1 h2
    by_cases h3 : k < 65536
    · exact refenc_three k W h2 h3 (by omega)
    · exact refenc_four k W h3 (by omega)

end Go.Proofs.YtfcdmkfbkkogbaaDoor.Utf
