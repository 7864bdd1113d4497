/- What is done is undone; what Diff tells makes the one text of the other one. -/
import Derived.Test.YtfcdmkfbkkogbaaDoorEditM
import Derived.Test.YtfcdmkfbkkogbaaDoorEditJ
namespace Go.Proofs.YtfcdmkfbkkogbaaDoor.Edit
open Go Go.RowKit Go.Proofs.YtfcdmkfbkkogbaaDoor.Utf

theorem ext_drop (s : ByteArray) (k : Nat) : (s.extract k s.size).data.toList = s.data.toList.drop k := by
  rw [ext_list]
  exact List.take_of_length_le (by rw [List.length_drop, ← Lib.size_eq]; exact Nat.le_refl _)
theorem undo_list (l A : List UInt8) {k m : Nat} (h : k + m ≤ l.length) : (l.take k ++ (A ++ l.drop (k + m))).take k ++ ((l.drop k).take m ++ (l.take k ++ (A ++ l.drop (k + m))).drop (k + A.length)) = l := by
  have hk : (l.take k).length = k := by rw [List.length_take]; omega
  rw [List.take_append, List.drop_append, hk, Nat.sub_self, List.take_zero, List.append_nil, List.take_take, Nat.min_self, List.drop_of_length_le (show (l.take k).length ≤ k + A.length by omega), List.nil_append, Nat.add_sub_cancel_left, List.drop_left, ← List.drop_drop, List.take_append_drop, List.take_append_drop]
theorem undo_eq (s p : ByteArray) {k m : Nat} (h : k + m ≤ s.size) : applS (applS s k m p) k p.size (s.extract k (k + m)) = s := by
  apply bytes_ext
  rw [appl_list, appl_list, ext_list, Nat.add_sub_cancel_left, Lib.size_eq p]
  exact undo_list _ _ (by rw [← Lib.size_eq]; exact h)
theorem undo_code {s p : ByteArray} {k m : Nat} (h : k + m ≤ s.size) (hs : s.size ≤ 1000) : codeE (applS s k m p) k p.size (s.extract k (k + m)) = 0 ∨ codeE (applS s k m p) k p.size (s.extract k (k + m)) = 30 := by
  have hz := appl_size s p h
  have hb : (s.extract k (k + m)).size = m := by rw [ext_size s h]; omega
  unfold codeE
  rw [if_neg (by omega)]
  by_cases hc : caretB (txt (applS s k m p)) (k : Int) = false ∨ caretB (txt (applS s k m p)) ((k : Int) + (p.size : Int)) = false
  · rw [if_pos hc]; exact .inr rfl
  · rw [if_neg hc, if_neg (by omega)]; exact .inl rfl
theorem preN_take : ∀ (l m : List Nat) (k : Nat), k ≤ preN l m → l.take k = m.take k
  | [], m, k, h => by unfold preN at h; obtain rfl : k = 0 := by omega
                      rfl
  | x :: l, [], k, h => by unfold preN at h; obtain rfl : k = 0 := by omega
                           rfl
  | x :: l, y :: m, k, h => by
    cases k with
    | zero => rfl
    | succ k =>
      unfold preN at h
      by_cases e : x = y
      · rw [if_pos e] at h
        rw [List.take_succ_cons, List.take_succ_cons, e, preN_take l m k (by omega)]
      · rw [if_neg e] at h; omega
theorem bytesL_inj {a b : ByteArray} (h : bytesL a = bytesL b) : a = b := bytes_ext (nat_inj h)
theorem bytesL_app (a b : ByteArray) : bytesL (a ++ b) = bytesL a ++ bytesL b := by unfold bytesL; rw [app_list, List.map_append]
theorem bytesL_ext (a : ByteArray) (i j : Nat) : bytesL (a.extract i j) = ((bytesL a).drop i).take (j - i) := by unfold bytesL; rw [ext_list, List.map_take, List.map_drop]
theorem bytesL_tail (a : ByteArray) (i : Nat) : bytesL (a.extract i a.size) = (bytesL a).drop i := by unfold bytesL; rw [ext_drop, List.map_drop]
theorem head_same {a b : ByteArray} {k : Nat} (h : k ≤ preN (bytesL a) (bytesL b)) : (bytesL a).take k = (bytesL b).take k := preN_take _ _ _ h
theorem tail_same {a b : ByteArray} {p e : Nat} (ha : p + e ≤ a.size) (hb : p + e ≤ b.size) (h : e ≤ sufN a b p) : (bytesL a).drop (a.size - e) = (bytesL b).drop (b.size - e) := by
  have h1 := preN_take _ _ _ h
  rw [List.take_reverse, List.take_reverse, List.reverse_inj, bytesL_tail, bytesL_tail, List.drop_drop, List.drop_drop, List.length_drop, List.length_drop, bytesL_len, bytesL_len] at h1
  rw [show p + (a.size - p - e) = a.size - e by omega, show p + (b.size - p - e) = b.size - e by omega] at h1
  exact h1
theorem diff_eq (a b : ByteArray) : applS a (atN a b) (a.size - endN a b - atN a b) (b.extract (atN a b) (b.size - endN a b)) = b := by
  have hle := end_le a b
  have h1 := head_same (a := a) (b := b) (k := atN a b) (topP_le _ _)
  have h2 := tail_same hle.1 hle.2 (topP_le _ _ : endN a b ≤ sufN a b (atN a b))
  obtain ⟨p, hp⟩ : ∃ p, atN a b = p := ⟨_, rfl⟩
  obtain ⟨e, he⟩ : ∃ p, endN a b = p := ⟨_, rfl⟩
  rw [hp] at h1 hle ⊢
  rw [he] at h2 hle ⊢
  apply bytesL_inj
  have hlb := bytesL_len b
  unfold applS
  rw [bytesL_app, bytesL_app, bytesL_tail, bytesL_ext, bytesL_ext, List.drop_zero, Nat.sub_zero, h1, show p + (a.size - e - p) = a.size - e by omega, h2]
  have e1 : (bytesL b).take p ++ ((bytesL b).drop p).take (b.size - e - p) = (bytesL b).take (b.size - e) := by
    have := List.take_add (l := bytesL b) (i := p) (j := b.size - e - p)
    rw [show p + (b.size - e - p) = b.size - e by omega] at this
    exact this.symm
  rw [e1, List.take_append_drop]
theorem diff_code {a b : ByteArray} (ha : a.size ≤ 2000) (hb : b.size ≤ 2000) : codeE a (atN a b : Int) ((a.size - endN a b - atN a b : Nat) : Int) (b.extract (atN a b) (b.size - endN a b)) = 0 := by
  have hle := end_le a b
  have h1 : bothAt a b (atN a b) = true := topP_is (bothAt_zero a b) _
  have h2 : bothEnd a b (endN a b) = true := topP_is (bothEnd_zero a b) _
  unfold bothAt at h1
  unfold bothEnd at h2
  rw [Bool.and_eq_true] at h1 h2
  refine code_zero (by omega) h1.1 ?_ ?_
  · rw [show ((atN a b : Int) + ((a.size - endN a b - atN a b : Nat) : Int)) = (a.size : Int) - (endN a b : Int) by omega]
    exact h2.1
  · rw [ext_size b (by omega)]; omega
theorem preN_self (l : List Nat) : preN l l = l.length := by
  induction l with
  | nil => rfl
  | cons x l ih => unfold preN; rw [if_pos rfl, ih]; rfl
theorem diff_self (s : ByteArray) : s.extract (atN s s) (s.size - endN s s) = ⟨#[]⟩ := by
  have h1 : atN s s = s.size := by
    unfold atN
    rw [preN_self, bytesL_len]
    exact topP_yes (by unfold bothAt; rw [caret_end]; rfl)
  apply bytesL_inj
  rw [bytesL_ext, h1, List.drop_of_length_le (by rw [bytesL_len]; exact Nat.le_refl _), List.take_nil]; rfl
theorem tail_eq (s p : ByteArray) {k m q : Nat} (h : k + m ≤ q) (hq : q ≤ s.size) : (applS s k m p).extract (q - m + p.size) (applS s k m p).size = s.extract q s.size := by
  apply bytes_ext
  rw [ext_drop, ext_drop, appl_list, Lib.size_eq p]
  have hk : (s.data.toList.take k).length = k := by rw [List.length_take, ← Lib.size_eq]; omega
  rw [List.drop_append, hk, List.drop_of_length_le (by omega), List.nil_append, List.drop_append, List.drop_of_length_le (show p.data.toList.length ≤ q - m + p.data.toList.length - k by omega), List.nil_append, List.drop_drop]
  congr 1
  omega
theorem clamp_nat {q : Nat} (h : q ≤ 1000) : clampI (q : Int) = q := by
  unfold clampI
  rw [if_neg (by omega), if_neg (by omega)]
theorem moved_near {k m n q : Nat} (h : q ≤ k) (hk : k + m ≤ 1000) : movedI k m n q = q := by
  unfold movedI
  rw [clamp_nat (q := q) (by omega), clamp_nat (q := k) (by omega), if_pos (by omega)]
theorem moved_in {k m n q : Nat} (h : k < q) (h2 : q ≤ k + m) (hk : k + m ≤ 1000) : movedI k m n q = (k : Int) + n := by
  unfold movedI
  rw [clamp_nat (q := q) (by omega), clamp_nat (q := k) (by omega), clamp_nat (q := m) (by omega), if_neg (by omega), if_pos (by omega)]

end Go.Proofs.YtfcdmkfbkkogbaaDoor.Edit
