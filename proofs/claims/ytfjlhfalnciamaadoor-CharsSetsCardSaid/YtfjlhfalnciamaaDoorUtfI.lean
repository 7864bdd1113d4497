/- A byte's number in digits of base 16, walked. -/
import Derived.Test.YtfjlhfalnciamaaDoorUtfJ
namespace Go.Proofs.YtfjlhfalnciamaaDoor.Utf
open Go Go.RowKit

theorem ext_list (s : ByteArray) (i j : Nat) : (s.extract i j).data.toList = (s.data.toList.drop i).take (j - i) := Lib.extract_data s i j
theorem ext_size (s : ByteArray) {i j : Nat} (h : j ≤ s.size) : (s.extract i j).size = j - i := by
  rw [Lib.size_eq, ext_list, List.length_take, List.length_drop, ← Lib.size_eq]; omega
theorem ext_byte (s : ByteArray) {i j k : Nat} (hk : i + k < j) : (s.extract i j).get! k = s.get! (i + k) := by
  rw [← Lib.getD_get!', ← Lib.getD_get!', ext_list, List.getD_eq_getElem?_getD, List.getD_eq_getElem?_getD, List.getElem?_take_of_lt (by omega), List.getElem?_drop]
theorem get_bang (s : ByteArray) (k : Nat) (h : k < s.size) : s[k] = s.get! k := by
  rw [← Lib.getD_get!', List.getD_eq_getElem?_getD, List.getElem?_eq_getElem (by rw [← Lib.size_eq]; exact h)]; rfl
theorem ext_at (s : ByteArray) {i j k : Nat} (h : k < (s.extract i j).size) (hk : i + k < j) : ((s.extract i j)[k]'h).toNat = (txt s).b (i + k) := by
  rw [get_bang, ext_byte s hk]; rfl

theorem nat_inj {a b : List UInt8} (h : a.map UInt8.toNat = b.map UInt8.toNat) : a = b := by
  induction a generalizing b with
  | nil => cases b with
    | nil => rfl
    | cons y s => cases h
  | cons x r ih =>
    cases b with
    | nil => cases h
    | cons y s =>
      simp only [List.map_cons, List.cons.injEq] at h
      rw [UInt8.toNat_inj.1 h.1, ih h.2]
theorem encN_lt (r : Nat) : ∀ x ∈ encN r, x < 256 := by
  unfold encN
  intro x hx
  repeat' split at hx
  all_goals (simp at hx; try omega)
theorem encB_nat (r : Nat) : (encB (r : Int)).data.toList.map UInt8.toNat = encN r := by
  cases hv : Lib.validRune (r : Int) with
  | true =>
    rw [enc_bytes r hv]
    unfold ofInts
    have : ∀ l : List Nat, (∀ x ∈ l, x < 256) → (((l.map Int.ofNat).map fun n : Int => UInt8.ofNat n.toNat).map UInt8.toNat) = l := fun l hl => by
      induction l with
      | nil => rfl
      | cons x r ih =>
        simp only [List.map_cons]
        rw [ih fun y hy => hl y (by simp [hy])]
        have hx := hl x (by simp)
        have : (UInt8.ofNat (Int.ofNat x).toNat).toNat = x := by
          rw [show (Int.ofNat x).toNat = x from rfl, UInt8.toNat_ofNat']; omega
        rw [this]
    exact this _ (encN_lt r)
  | false =>
    have hn : ¬ (r < 55296 ∨ (57344 ≤ r ∧ r ≤ 1114111)) := fun h => by
      rw [(valid_iff (r : Int)).2 (by omega)] at hv; cases hv
    unfold encB encN
    rw [hv, if_neg (by simp), if_pos hn]; rfl
theorem drop_getD (l : List UInt8) (k : Nat) (h : k < l.length) : l.drop k = l.getD k 0 :: l.drop (k + 1) := by
  rw [List.drop_eq_getElem_cons h, List.getD_eq_getElem?_getD, List.getElem?_eq_getElem h]; rfl
theorem ext_first (s : ByteArray) (k n : Nat) (h1 : 1 ≤ n) (h4 : n ≤ 4) (hn : k + n ≤ s.size) :
    (s.extract k (k + n)).data.toList.map UInt8.toNat = firstN ((txt s).b k) ((txt s).b (k + 1)) ((txt s).b (k + 2)) ((txt s).b (k + 3)) n := by
  have hb : ∀ i, (txt s).b i = (s.data.toList.getD i 0).toNat := fun i => by rw [Lib.getD_get!']; rfl
  rw [ext_list, show k + n - k = n by omega, hb, hb, hb, hb]
  rw [Lib.size_eq] at hn
  have : n = 1 ∨ n = 2 ∨ n = 3 ∨ n = 4 := by omega
  rcases this with rfl | rfl | rfl | rfl
  · rw [drop_getD _ k (by omega)]; rfl
  · rw [drop_getD _ k (by omega), drop_getD _ (k + 1) (by omega)]; rfl
  · rw [drop_getD _ k (by omega), drop_getD _ (k + 1) (by omega), drop_getD _ (k + 1 + 1) (by omega)]; rfl
  · rw [drop_getD _ k (by omega), drop_getD _ (k + 1) (by omega), drop_getD _ (k + 1 + 1) (by omega), drop_getD _ (k + 1 + 1 + 1) (by omega)]; rfl

def u8s (ns : List Int) : List Value := ns.map (Value.int .u8)
/-- What the number of zeros behind 16 is looked up by. -/
def Z16 (w : World) : Prop := w.cell? ⟨5, 15, none⟩ = some (.int .u8 4)
theorem Z16.stay {w w' : World} (h : Z16 w) (hb : Below w.heap.size w w') : Z16 w' := by
  have hlt : 5 < w.heap.size := by
    rcases Nat.lt_or_ge 5 w.heap.size with h' | h'
    · exact h'
    · unfold Z16 at h; simp [World.cell?, Array.getElem?_eq_none h'] at h
  exact (hb.cell (p := ⟨5, 15, none⟩) hlt).trans h

set_option maxRecDepth 100000 in
theorem tz16 (W : World) (h : Z16 W) : Calls Tryd.prog 165 #[.int .u64 16] W fun e w' => e = .returned (.int .i64 4) ∧ W = w' := by
  unfold Z16 at h
  have e : IntKind.u64.wrap (bits BinOp.and IntKind.u64 16 (IntKind.u64.wrap (-16)) * 285870213051353865) / 288230376151711744 = 15 := by kernel_rfl
  go_enter Tryd.func165, Tryd.ntmps165
  go_wp2
  go_ret
  exact ⟨rfl, rfl⟩

set_option maxRecDepth 100000 in
theorem tzu16 (W : World) (h : Z16 W) : Calls Tryd.prog 159 #[.int .u64 16] W fun e w' => e = .returned (.int .i64 4) ∧ W = w' := by
  have HH := Lib.hid (tz16 W h)
  clear h
  go_enter Tryd.func159, Tryd.ntmps159
  go_wp2_with fail
  refine HH.out.mono ?_
  rintro e w1 ⟨rfl, rfl⟩
  go_wp2
  go_ret
  exact ⟨rfl, rfl⟩

set_option maxRecDepth 100000 in
theorem pow16 (W : World) : Calls Tryd.prog 158 #[.int .i64 16] W fun e w' => e = .returned (.bool true) ∧ W = w' := by
  go_enter Tryd.func158, Tryd.ntmps158
  go_wp2
  go_ret
  exact ⟨rfl, rfl⟩

def digitsC : ByteArray := ⟨#[48, 49, 50, 51, 52, 53, 54, 55, 56, 57, 97, 98, 99, 100, 101, 102, 103, 104, 105, 106, 107, 108, 109, 110, 111, 112, 113, 114, 115, 116, 117, 118, 119, 120, 121, 122]⟩
theorem digit_at : ∀ k : Fin 16, (digitsC.get! k.val).toNat = (digH k.val).toNat := by decide
theorem digit_is (k : Nat) (hk : k < 16) (h : k < digitsC.size) : ((digitsC[k]'h)).toNat = (digH k).toNat := by
  rw [get_bang]; exact digit_at ⟨k, hk⟩
/-- Bytes that lie anywhere, made a string. -/
theorem conv_at (w : World) (b off : Nat) (ns : List Int) (n c : Nat) (hl : ns.length = n) (h : ∀ j u, (u8s ns)[j]? = some u → w.cell? ⟨b, off + j, none⟩ = some u) :
    (convert 97 9 (.slice (some ⟨b, off, none⟩) n c)).run Tryd.prog w = .ok (.string (ofInts ns)) w := by
  subst hl
  rw [run_convert_bytes_string _ 97 9 5 _ _ _ Tryd.underlying97 Tryd.underlying5 Tryd.underlying9]
  have hc : ∀ j u, (u8s ns)[j]? = some u → w.cell? ((⟨b, off, none⟩ : Addr).add j) = some u := fun j u hu => by
    have e : (⟨b, off, none⟩ : Addr).add j = ⟨b, off + j, none⟩ := by
      by_cases e : j = 0
      · subst e; simp [Addr.add]
      · simp [Addr.add, e]
    rw [e]; exact h j u hu
  have hrun := run_loadCells_list (P := Tryd.prog) w ⟨b, off, none⟩ (u8s ns) hc
  rw [show (u8s ns).length = ns.length from List.length_map _] at hrun
  rw [run_bytesToString _ _ ns.length c ns hrun, foldl_push_bytes]
  simp [ofInts]

theorem hex_ofInts (l : List UInt8) : ofInts (l.map fun b => (b.toNat : Int)) = ⟨l.toArray⟩ := by
  unfold ofInts
  congr 1
  rw [List.map_map]
  have : ((fun n : Int => UInt8.ofNat n.toNat) ∘ fun b : UInt8 => (b.toNat : Int)) = id := by
    funext b; simp
  rw [this, List.map_id]

set_option maxRecDepth 100000 in
theorem bits_one (n : Nat) (hn : n < 16) (W : World) (h : Z16 W) : Calls Tryd.prog 143 #[.slice none 0 0, .int .u64 (n : Int), .int .i64 16, .bool false, .bool false] W fun e w' => e = .returned (.tuple #[.slice none 0 0, .string ⟨(hexL n).toArray⟩]) ∧ Below W.heap.size W w' := by
  have HP := Lib.hid (fun w => pow16 w)
  have HZ := Lib.hid h
  have g1 : decide ((16 : Int) ≤ (n : Int)) = false := decide_eq_false (by omega)
  have hd := digit_is n hn
  have hhex : hexL n = [digH n] := by unfold hexL; rw [if_pos hn]
  rw [hhex, ← hex_ofInts]
  simp only [List.map_cons, List.map_nil]
  obtain ⟨d, hdd⟩ : ∃ d, (digH n).toNat = d := ⟨_, rfl⟩
  rw [hdd] at hd ⊢
  unfold digitsC at hd
  have h36 : (n : Int) < 36 := by omega
  have kc := conv_at (W.alloc (.cells (Tryd.zeroCells206.setIfInBounds 64 (.int .u8 (d : Int))) 206)) W.heap.size 64 [(d : Int)] 1 1 rfl (fun j u hu => by
    cases j with
    | zero =>
      simp [u8s] at hu; subst hu
      rw [Lib.cell_of_heap (heap_alloc_new W _)]
      simp
    | succ j => simp [u8s] at hu)
  obtain ⟨X, hX⟩ : ∃ X, ofInts [(d : Int)] = X := ⟨_, rfl⟩
  rw [hX] at kc ⊢
  clear h hdd hhex hX
  go_enter Tryd.func143, Tryd.ntmps143
  go_wp2_with fail
  refine (HP.out _).mono ?_
  rintro e w1 ⟨rfl, rfl⟩
  go_wp2_with fail
  refine (tzu16 _ (HZ.out.stay ((Below.refl _ _).alloc (Nat.le_refl _) _))).mono ?_
  rintro e w2 ⟨rfl, rfl⟩
  go_wp2_with fail
  go_loopw [1, 13] (fun u i wx => u = .int .u64 (n : Int) ∧ i = .int .i64 65 ∧ W.alloc (.cells Tryd.zeroCells206 206) = wx) (fun _ _ _ => 0)
  case atStart => exact ⟨rfl, rfl, rfl⟩
  case round =>
    obtain ⟨rfl, rfl, rfl⟩ := hrel
    go_wp2
    go_ret2
    exact ⟨rfl, (Below.refl _ _).alloc (Nat.le_refl _) _⟩

set_option maxRecDepth 100000 in
theorem and15 : ∀ n : Fin 256, bits .and .u64 ((n.val : Nat) : Int) 15 = ((n.val % 16 : Nat) : Int) := by decide

def TwoAt (W : World) (n q d : Nat) (u i : Value) (wx : World) : Prop := (u = .int .u64 (n : Int) ∧ i = .int .i64 65 ∧ W.alloc (.cells Tryd.zeroCells206 206) = wx) ∨ (u = .int .u64 (q : Int) ∧ i = .int .i64 64 ∧ W.alloc (.cells (Tryd.zeroCells206.setIfInBounds 64 (.int .u8 (d : Int))) 206) = wx)

set_option maxRecDepth 100000 in
theorem bits_two (n : Nat) (hn : ¬ n < 16) (hn2 : n < 256) (W : World) (h : Z16 W) : Calls Tryd.prog 143 #[.slice none 0 0, .int .u64 (n : Int), .int .i64 16, .bool false, .bool false] W fun e w' => e = .returned (.tuple #[.slice none 0 0, .string ⟨(hexL n).toArray⟩]) ∧ Below W.heap.size W w' := by
  have HP := Lib.hid (fun w => pow16 w)
  have HZ := Lib.hid h
  have hd := digit_is (n % 16) (by omega)
  have hd2 := digit_is (n / 16) (by omega)
  have hhex : hexL n = [digH (n / 16), digH (n % 16)] := by unfold hexL; rw [if_neg hn]
  rw [hhex, ← hex_ofInts]
  simp only [List.map_cons, List.map_nil]
  have ha : bits .and .u64 (n : Int) 15 = ((n % 16 : Nat) : Int) := and15 ⟨n, hn2⟩
  obtain ⟨d, hdd⟩ : ∃ d, (digH (n % 16)).toNat = d := ⟨_, rfl⟩
  obtain ⟨d2, hdd2⟩ : ∃ d, (digH (n / 16)).toNat = d := ⟨_, rfl⟩
  rw [hdd] at hd ⊢
  rw [hdd2] at hd2 ⊢
  obtain ⟨m, hm⟩ : ∃ m, n % 16 = m := ⟨_, rfl⟩
  obtain ⟨q, hq⟩ : ∃ q, n / 16 = q := ⟨_, rfl⟩
  have hm16 : m < 16 := by omega
  have hq16 : q < 16 := by omega
  rw [hm] at hd ha
  rw [hq] at hd2
  have hqd : (n : Int) / 16 = (q : Int) := by omega
  unfold digitsC at hd hd2
  have kc := conv_at (W.alloc (.cells ((Tryd.zeroCells206.setIfInBounds 64 (.int .u8 (d : Int))).setIfInBounds 63 (.int .u8 (d2 : Int))) 206)) W.heap.size 63 [(d2 : Int), (d : Int)] 2 2 rfl (fun j u hu => by
    match j, hu with
    | 0, hu =>
      simp [u8s] at hu; subst hu
      rw [Lib.cell_of_heap (heap_alloc_new W _)]
      simp
    | 1, hu =>
      simp [u8s] at hu; subst hu
      rw [Lib.cell_of_heap (heap_alloc_new W _)]
      simp
    | j + 2, hu => simp [u8s] at hu)
  obtain ⟨X, hX⟩ : ∃ X, ofInts [(d2 : Int), (d : Int)] = X := ⟨_, rfl⟩
  rw [hX] at kc ⊢
  have HQD := Lib.hid hqd
  have HA := Lib.hid ha
  clear h hdd hdd2 hhex hX hm hq hqd ha
  go_enter Tryd.func143, Tryd.ntmps143
  go_wp2_with fail
  refine (HP.out _).mono ?_
  rintro e w1 ⟨rfl, rfl⟩
  go_wp2_with fail
  refine (tzu16 _ (HZ.out.stay ((Below.refl _ _).alloc (Nat.le_refl _) _))).mono ?_
  rintro e w2 ⟨rfl, rfl⟩
  go_wp2_with fail
  go_loopw [1, 13] (fun u i wx => TwoAt W n q d u i wx) (fun _ i _ => (intOf i).toNat)
  case atStart => exact .inl ⟨rfl, rfl, rfl⟩
  case round =>
    rcases hrel with ⟨rfl, rfl, rfl⟩ | ⟨rfl, rfl, rfl⟩
    · have g1 : decide ((16 : Int) ≤ (n : Int)) = true := decide_eq_true (by omega)
      have g2 := HQD.out
      have g3 := HA.out
      go_wp2
      go_roundw
      case rel => exact .inr ⟨rfl, rfl, rfl⟩
      case measure => simp [intOf]
    · have g1 : decide ((16 : Int) ≤ (q : Int)) = false := decide_eq_false (by omega)
      go_wp2
      go_ret2
      exact ⟨rfl, (Below.refl _ _).alloc (Nat.le_refl _) _⟩

/-- strconv.FormatInt of a byte, of base 16. -/
theorem bits_any (n : Nat) (hn : n < 256) (W : World) (h : Z16 W) : Calls Tryd.prog 143 #[.slice none 0 0, .int .u64 (n : Int), .int .i64 16, .bool false, .bool false] W fun e w' => e = .returned (.tuple #[.slice none 0 0, .string ⟨(hexL n).toArray⟩]) ∧ Below W.heap.size W w' := by
  by_cases h1 : n < 16
  · exact bits_one n h1 W h
  · exact bits_two n h1 hn W h

set_option maxRecDepth 100000 in
theorem format_i (n : Nat) (hn : n < 256) (W : World) (h : Z16 W) : Calls Tryd.prog 113 #[.int .i64 (n : Int), .int .i64 16] W fun e w' => e = .returned (.string ⟨(hexL n).toArray⟩) ∧ Below W.heap.size W w' := by
  have HH := Lib.hid (bits_any n hn W h)
  have g1 : decide ((n : Int) < 0) = false := decide_eq_false (by omega)
  obtain ⟨X, hX⟩ : ∃ X : ByteArray, ⟨(hexL n).toArray⟩ = X := ⟨_, rfl⟩
  rw [hX] at HH ⊢
  clear h hX
  go_enter Tryd.func113, Tryd.ntmps113
  go_wp2_with fail
  refine HH.out.mono ?_
  rintro e w1 ⟨rfl, hb⟩
  have HB := Lib.hid hb
  clear hb
  go_wp2
  go_ret
  exact ⟨rfl, HB.out⟩
set_option maxRecDepth 100000 in
theorem format_any (n : Nat) (hn : n < 256) (W : World) (h : Z16 W) : Calls Tryd.prog 82 #[.int .i64 (n : Int), .int .i64 16] W fun e w' => e = .returned (.string ⟨(hexL n).toArray⟩) ∧ Below W.heap.size W w' := by
  have HH := Lib.hid (format_i n hn W h)
  obtain ⟨X, hX⟩ : ∃ X : ByteArray, ⟨(hexL n).toArray⟩ = X := ⟨_, rfl⟩
  rw [hX] at HH ⊢
  clear h hX
  go_enter Tryd.func82, Tryd.ntmps82
  go_wp2_with fail
  refine HH.out.mono ?_
  rintro e w1 ⟨rfl, hb⟩
  have HB := Lib.hid hb
  clear hb
  go_wp2
  go_ret
  exact ⟨rfl, HB.out⟩

theorem hexL_len (n : Nat) : (hexL n).length ≤ 2 := by unfold hexL; split <;> simp
theorem numb_bytes (n : Nat) : ((⟨#[92, 117, 123]⟩ : ByteArray) ++ ⟨(hexL n).toArray⟩ ++ ⟨#[125]⟩) = ⟨(numb n).toArray⟩ := by
  apply ByteArray.ext
  apply Array.toList_inj.1
  simp [numb]

end Go.Proofs.YtfjlhfalnciamaaDoor.Utf
