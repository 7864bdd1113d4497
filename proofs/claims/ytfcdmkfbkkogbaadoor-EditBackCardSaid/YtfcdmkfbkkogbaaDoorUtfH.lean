/- The document's At. -/
import Derived.Test.YtfcdmkfbkkogbaaDoorUtfG
namespace Go.Proofs.YtfcdmkfbkkogbaaDoor.Utf
open Go Go.RowKit

theorem ext_list (s : ByteArray) (i j : Nat) : (s.extract i j).data.toList = (s.data.toList.drop i).take (j - i) := Lib.extract_data s i j
theorem ext_size (s : ByteArray) {i j : Nat} (h : j ≤ s.size) : (s.extract i j).size = j - i := by
  rw [Lib.size_eq, ext_list, List.length_take, List.length_drop, ← Lib.size_eq]; omega
theorem ext_byte (s : ByteArray) {i j k : Nat} (hk : i + k < j) : (s.extract i j).get! k = s.get! (i + k) := by
  rw [← Lib.getD_get!', ← Lib.getD_get!', ext_list, List.getD_eq_getElem?_getD, List.getD_eq_getElem?_getD, List.getElem?_take_of_lt (by omega), List.getElem?_drop]
theorem get_bang (s : ByteArray) (k : Nat) (h : k < s.size) : s[k] = s.get! k := by
  rw [← Lib.getD_get!', List.getD_eq_getElem?_getD, List.getElem?_eq_getElem (by rw [← Lib.size_eq]; exact h)]; rfl
theorem ext_at (s : ByteArray) {i j k : Nat} (h : k < (s.extract i j).size) (hk : i + k < j) : ((s.extract i j)[k]'h).toNat = (txt s).b (i + k) := by
  rw [get_bang, ext_byte s hk]; rfl

theorem nat_inj {a b : List UInt8} (h : a.map UInt8.toNat = b.map UInt8.toNat) : a = b := by
  induction a generalizing b with
  | nil => cases b with
    | nil => rfl
    | cons y s => cases h
  | cons x r ih =>
    cases b with
    | nil => cases h
    | cons y s =>
      simp only [List.map_cons, List.cons.injEq] at h
      rw [UInt8.toNat_inj.1 h.1, ih h.2]
theorem encN_lt (r : Nat) : ∀ x ∈ encN r, x < 256 := by
  unfold encN
  intro x hx
  repeat' split at hx
  all_goals (simp at hx; try omega)
theorem encB_nat (r : Nat) : (encB (r : Int)).data.toList.map UInt8.toNat = encN r := by
  cases hv : Lib.validRune (r : Int) with
  | true =>
    rw [enc_bytes r hv]
    unfold ofInts
    have : ∀ l : List Nat, (∀ x ∈ l, x < 256) → (((l.map Int.ofNat).map fun n : Int => UInt8.ofNat n.toNat).map UInt8.toNat) = l := fun l hl => by
      induction l with
      | nil => rfl
      | cons x r ih =>
        simp only [List.map_cons]
        rw [ih fun y hy => hl y (by simp [hy])]
        have hx := hl x (by simp)
        have : (UInt8.ofNat (Int.ofNat x).toNat).toNat = x := by
          rw [show (Int.ofNat x).toNat = x from rfl, UInt8.toNat_ofNat']; omega
        rw [this]
    exact this _ (encN_lt r)
  | false =>
    have hn : ¬ (r < 55296 ∨ (57344 ≤ r ∧ r ≤ 1114111)) := fun h => by
      rw [(valid_iff (r : Int)).2 (by omega)] at hv; cases hv
    unfold encB encN
    rw [hv, if_neg (by simp), if_pos hn]; rfl
theorem drop_getD (l : List UInt8) (k : Nat) (h : k < l.length) : l.drop k = l.getD k 0 :: l.drop (k + 1) := by
  rw [List.drop_eq_getElem_cons h, List.getD_eq_getElem?_getD, List.getElem?_eq_getElem h]; rfl
theorem ext_first (s : ByteArray) (k n : Nat) (h1 : 1 ≤ n) (h4 : n ≤ 4) (hn : k + n ≤ s.size) :
    (s.extract k (k + n)).data.toList.map UInt8.toNat = firstN ((txt s).b k) ((txt s).b (k + 1)) ((txt s).b (k + 2)) ((txt s).b (k + 3)) n := by
  have hb : ∀ i, (txt s).b i = (s.data.toList.getD i 0).toNat := fun i => by rw [Lib.getD_get!']; rfl
  rw [ext_list, show k + n - k = n by omega, hb, hb, hb, hb]
  rw [Lib.size_eq] at hn
  have : n = 1 ∨ n = 2 ∨ n = 3 ∨ n = 4 := by omega
  rcases this with rfl | rfl | rfl | rfl
  · rw [drop_getD _ k (by omega)]; rfl
  · rw [drop_getD _ k (by omega), drop_getD _ (k + 1) (by omega)]; rfl
  · rw [drop_getD _ k (by omega), drop_getD _ (k + 1) (by omega), drop_getD _ (k + 1 + 1) (by omega)]; rfl
  · rw [drop_getD _ k (by omega), drop_getD _ (k + 1) (by omega), drop_getD _ (k + 1 + 1) (by omega), drop_getD _ (k + 1 + 1 + 1) (by omega)]; rfl

/-- What the document makes of the bytes from k on, of n, behind j more. -/
def pk (t : Txt) (k n : Nat) : Nat → Nat
  | 0 => if n = 2 then t.b k % 32 else if n = 3 then t.b k % 16 else if n = 4 then t.b k % 8 else t.b k
  | j + 1 => 64 * pk t k n j + t.b (k + (j + 1)) % 64
theorem pk_lt (t : Txt) (k n : Nat) : ∀ j, j ≤ 3 → pk t k n j < 100000000 := by
  have h0 : pk t k n 0 < 256 := by
    have := t.lt k
    unfold pk; repeat' split
    all_goals omega
  intro j hj
  have : j = 0 ∨ j = 1 ∨ j = 2 ∨ j = 3 := by omega
  rcases this with rfl | rfl | rfl | rfl
  · omega
  · simp only [pk] at h0 ⊢; omega
  · simp only [pk] at h0 ⊢; omega
  · simp only [pk] at h0 ⊢; omega
theorem pk_pack (t : Txt) (k n : Nat) (h1 : 1 ≤ n) (h4 : n ≤ 4) : pk t k n (n - 1) = packN (t.b k) (t.b (k + 1)) (t.b (k + 2)) (t.b (k + 3)) n := by
  have : n = 1 ∨ n = 2 ∨ n = 3 ∨ n = 4 := by omega
  rcases this with rfl | rfl | rfl | rfl <;> simp [pk, packN]
theorem str_beq {a b : ByteArray} : (a.toList == b.toList) = true ↔ a.data.toList = b.data.toList := by
  rw [beq_iff_eq, ByteArray.toList_eq, ByteArray.toList_eq]
theorem pk_same (s : ByteArray) (k n : Nat) (h1 : 1 ≤ n) (h4 : n ≤ 4) (hn : k + n ≤ s.size) :
    ((encB (pk (txt s) k n (n - 1) : Int)).toList == (s.extract k (k + n)).toList) = true ↔ ((txt s).sign k ∧ (txt s).w k = n) := by
  rw [str_beq, ← (txt s).pack_iff k n h1 h4 (show n ≤ s.size - k by omega), ← ext_first s k n h1 h4 hn, ← pk_pack (txt s) k n h1 h4]
  constructor
  · intro h; rw [← h, encB_nat]
  · intro h; apply nat_inj; rw [encB_nat, h]

/-- The sign that stands at a place, as the document says; -1: none. -/
def refR (t : Txt) (k : Nat) : Int := if t.ok k then (t.r k : Int) else -1

set_option maxRecDepth 100000 in
theorem refat_any (s : ByteArray) (k : Nat) (W : World) (hk : k < s.size) (hs : s.size ≤ 1000000) :
    Calls Tryd.prog 16 #[.string s, .int .i64 (k : Int)] W fun e W' => e = .returned (.tuple #[.int .i64 (refR (txt s) k), .int .i64 ((txt s).w k : Int)]) ∧ Below W.heap.size W W' := by
  obtain ⟨S, hS⟩ : ∃ S, S = W.heap.size := ⟨_, rfl⟩
  have HS := Lib.hid hS
  rw [← hS]
  have hsz : S ≤ W.heap.size := by omega
  clear hS
  go_enter Tryd.func16, Tryd.ntmps16
  go_wp2_with fail
  go_loopw [6, 7, 8, 9] (fun nn b r i wx => ∃ n : Nat, 1 ≤ n ∧ n ≤ 5 ∧ n - 1 ≤ s.size - k ∧ nn = .int .i64 (n : Int) ∧ (∀ m, m < n → 1 ≤ m → ¬ ((txt s).sign k ∧ (txt s).w k = m)) ∧ Below S W wx) (fun nn _ _ _ _ => 5 - (intOf nn).toNat)
  case atStart => exact ⟨1, by omega, by omega, by omega, rfl, fun m h1 h2 => by omega, Below.refl _ _⟩
  case round =>
    obtain ⟨n, hn1, hn5, hnk, rfl, hno, hB⟩ := hrel
    have HNO := Lib.hid hno
    have HB := Lib.hid hB
    have hszr : S ≤ wr.heap.size := Nat.le_trans hsz hB.size
    clear hno hB
    by_cases hend : n ≤ 4 ∧ n ≤ s.size - k
    · obtain ⟨hn4, hin⟩ := hend
      have g1 : decide ((n : Int) ≤ 4) = true := decide_eq_true (by omega)
      have g2' : (n : Int) ≤ (s.size : Int) - k := by omega
      have g2 : decide ((n : Int) ≤ (s.size : Int) - k) = true := decide_eq_true g2'
      have hkn : k + n ≤ s.size := by omega
      have hsz2 : (s.extract k (k + n)).size = n := by rw [ext_size s hkn]; omega
      obtain ⟨b0, hb0⟩ : ∃ b, (txt s).b k = b := ⟨_, rfl⟩
      have ex0 : ∀ h, ((s.extract k (k + n))[0]'h).toNat = b0 := fun h => by rw [ext_at s h (by omega), Nat.add_zero, hb0]
      have hb256 : b0 < 256 := by rw [← hb0]; exact (txt s).lt k
      have HS0 : Hid (pk (txt s) k n 0 = if n = 2 then b0 % 32 else if n = 3 then b0 % 16 else if n = 4 then b0 % 8 else b0) := by rw [pk, hb0]; exact rfl
      have HZ2 := Lib.hid hsz2
      clear hb0 hsz2
      have hcase : (((n : Int) == 2) = true ∧ ((n : Int) == 3) = false ∧ ((n : Int) == 4) = false ∧ Hid (pk (txt s) k n 0 = b0 % 32)) ∨ (((n : Int) == 2) = false ∧ ((n : Int) == 3) = true ∧ ((n : Int) == 4) = false ∧ Hid (pk (txt s) k n 0 = b0 % 16)) ∨
          (((n : Int) == 2) = false ∧ ((n : Int) == 3) = false ∧ ((n : Int) == 4) = true ∧ Hid (pk (txt s) k n 0 = b0 % 8)) ∨ (((n : Int) == 2) = false ∧ ((n : Int) == 3) = false ∧ ((n : Int) == 4) = false ∧ Hid (pk (txt s) k n 0 = b0)) := by
        have : n = 1 ∨ n = 2 ∨ n = 3 ∨ n = 4 := by omega
        rcases this with rfl | rfl | rfl | rfl
        · exact .inr (.inr (.inr ⟨rfl, rfl, rfl, HS0.out⟩))
        · exact .inl ⟨rfl, rfl, rfl, HS0.out⟩
        · exact .inr (.inl ⟨rfl, rfl, rfl, HS0.out⟩)
        · exact .inr (.inr (.inl ⟨rfl, rfl, rfl, HS0.out⟩))
      obtain ⟨c, hc⟩ : ∃ c, ((encB (pk (txt s) k n (n - 1) : Int)).toList == (s.extract k (k + n)).toList) = c := ⟨_, rfl⟩
      have HCI : Hid (c = true ↔ ((txt s).sign k ∧ (txt s).w k = n)) := by rw [← hc]; exact pk_same s k n hn1 hn4 hkn
      have HCC := Lib.hid hc
      have HEN := Lib.hid (fun (w : World) => refenc_any (pk (txt s) k n (n - 1) : Int) w)
      have hpk := pk_lt (txt s) k n (n - 1) (by omega)
      clear hc
      rcases hcase with ⟨e2, e3, e4, HP0⟩ | ⟨e2, e3, e4, HP0⟩ | ⟨e2, e3, e4, HP0⟩ | ⟨e2, e3, e4, HP0⟩
      all_goals
        go_upto_block 2 with fail
        go_cut [8, 9] (fun r i wx => r = .int .i64 ((pk (txt s) k n (n - 1) : Nat) : Int) ∧ wr = wx)
        case first =>
          go_wp2_with fail
          go_loopg [8, 9] n (fun g r i wx => ∃ j : Nat, j + 1 ≤ n ∧ g = n - j ∧ i = .int .i64 ((j + 1 : Nat) : Int) ∧ r = .int .i64 ((pk (txt s) k n j : Nat) : Int) ∧ wr = wx)
          case atStart => exact ⟨0, by omega, rfl, rfl, by rw [HP0.out] <;> go_num, rfl⟩
          case round =>
            obtain ⟨j, hj, hg, rfl, rfl, rfl⟩ := hrel
            have hpj := pk_lt (txt s) k n j (by omega)
            have HG := Lib.hid hg
            clear hg
            by_cases hlt : j + 1 < n
            · obtain ⟨b1, hb1⟩ : ∃ b, (txt s).b (k + (j + 1)) = b := ⟨_, rfl⟩
              have ex1 : ∀ h, ((s.extract k (k + n))[j + 1]'h).toNat = b1 := fun h => by rw [ext_at s h (by omega), hb1]
              have hb1l : b1 < 256 := by rw [← hb1]; exact (txt s).lt _
              have hst : pk (txt s) k n (j + 1) = 64 * pk (txt s) k n j + b1 % 64 := by rw [pk, hb1]
              have HST := Lib.hid hst
              have hsz2 : j + 1 < (s.extract k (k + n)).size := by rw [HZ2.out]; exact hlt
              clear hb1 hst
              go_wp2
              go_roundg (n - (j + 1))
              case rel => exact ⟨j + 1, by omega, rfl, by go_num, by rw [HST.out]; go_num, rfl⟩
              case measure => rw [HG.out]; omega
            · obtain rfl : j = n - 1 := by omega
              go_wp2
              go_meet
              exact ⟨rfl, rfl⟩
        case rest =>
          obtain ⟨rfl, rfl⟩ := hcut
          go_wp2_with fail
          refine (HEN.out _).mono ?_
          rintro e w1 ⟨rfl, hb⟩
          have HB1 := Lib.hid (HB.out.trans (hb.mono hszr))
          have hcc := HCC.out
          clear hb
          cases c with
          | true =>
            have hsw := HCI.out.1 rfl
            have HR : Hid (refR (txt s) k = ((pk (txt s) k n (n - 1) : Nat) : Int)) := by
              unfold refR
              rw [((txt s).ok_iff k).2 hsw.1, if_pos rfl, pk_pack _ _ _ hn1 hn4, ← hsw.2, (txt s).pack_r k hsw.1]; exact rfl
            have HW := Lib.hid hsw.2
            clear hsw
            go_wp2
            go_ret2
            exact ⟨by rw [HR.out, HW.out]; rfl, HB1.out⟩
          | false =>
            have HN2 : Hid (∀ m, m < n + 1 → 1 ≤ m → ¬ ((txt s).sign k ∧ (txt s).w k = m)) := fun m h1 h2 h3 => by
              by_cases e : m = n
              · subst e
                have := HCI.out.2 h3
                cases this
              · exact HNO.out m (by omega) h2 h3
            go_wp2
            go_roundw
            case rel => exact ⟨n + 1, by omega, by omega, by omega, by go_num, HN2.out, HB1.out⟩
            case measure => simp [intOf]; omega
    · have hbad : ¬ (txt s).sign k := fun h => by
        have h1 := (txt s).w_pos k
        have h2 := (txt s).w_le k
        have h3 := (txt s).w_in k hk
        have hn' : (txt s).n = s.size := rfl
        exact HNO.out ((txt s).w k) (by omega) h1 ⟨h, rfl⟩
      have hd := ((txt s).bad k hbad).1
      have HR : Hid (refR (txt s) k = -1) := by
        unfold refR
        have : (txt s).ok k = false := by
          cases h : (txt s).ok k with
          | false => rfl
          | true => exact absurd (((txt s).ok_iff k).1 h) hbad
        rw [this]; exact rfl
      have HW : Hid ((txt s).w k = 1) := by unfold Txt.w; rw [hd]; exact rfl
      by_cases hn4 : n ≤ 4
      · have g1 : decide ((n : Int) ≤ 4) = true := decide_eq_true (by omega)
        have g2' : ¬ (n : Int) ≤ (s.size : Int) - k := by omega
        have g2 : decide ((n : Int) ≤ (s.size : Int) - k) = false := decide_eq_false g2'
        clear hbad hd hend
        go_wp2
        go_ret2
        exact ⟨by rw [HR.out, HW.out]; rfl, HB.out⟩
      · have g1 : decide ((n : Int) ≤ 4) = false := decide_eq_false (by omega)
        clear hbad hd hend
        go_wp2
        go_ret2
        exact ⟨by rw [HR.out, HW.out]; rfl, HB.out⟩

end Go.Proofs.YtfcdmkfbkkogbaaDoor.Utf
