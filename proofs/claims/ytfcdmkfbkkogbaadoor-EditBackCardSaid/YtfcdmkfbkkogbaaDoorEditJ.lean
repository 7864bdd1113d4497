/- Two edits, either first: the same text. -/
import Derived.Test.YtfcdmkfbkkogbaaDoorEditE
import Derived.Test.YtfcdmkfbkkogbaaDoorEditI
namespace Go.Proofs.YtfcdmkfbkkogbaaDoor.Edit
open Go Go.RowKit Go.Proofs.YtfcdmkfbkkogbaaDoor.Utf

theorem pos_inj2 {t : Txt} {a b : Nat} (h : t.pos a ≤ t.pos b) : a ≤ b := by
  apply Nat.le_of_not_lt
  intro h2
  have := t.pos_lt h2
  omega
theorem ok_same {t u : Txt} {i j : Nat} (h : t.dc i = u.dc j) : t.ok i = u.ok j := by
  unfold Txt.ok Txt.r Txt.w
  rw [h]
theorem right_split {a b ab : Txt} (h : Joined a b ab) (hs : ab.start a.n) (hr : ab.right) : a.right ∧ b.right := by
  obtain ⟨hc, hp⟩ := h.cnt_yes hs
  constructor
  · intro j hj
    have h1 := hr j (by omega)
    have hle : ab.pos (j + 1) ≤ a.n := by
      rw [← hp]
      rcases Nat.lt_or_eq_of_le (show j + 1 ≤ a.cnt from hj) with h2 | h2
      · exact Nat.le_of_lt (ab.pos_lt h2)
      · rw [h2]; exact Nat.le_refl _
    have hlt : ab.pos j ≤ a.n := Nat.le_trans (Nat.le_of_lt (ab.pos_lt (Nat.lt_succ_self j))) hle
    rw [h.pos_ahead j hlt]
    rw [← h1]
    exact ok_same (h.ahead (i := ab.pos j) hle)
  · intro j hj
    have h1 := hr (a.cnt + j) (by omega)
    have h2 := h.pos_behind (m := a.cnt) (j := 0) (by rw [hp]; rfl) j
    rw [Nat.zero_add] at h2
    rw [← h1, h2]
    exact (ok_same (h.behind (b.pos j))).symm
theorem right_join {a b ab : Txt} (h : Joined a b ab) (ha : a.right) : ab.start a.n ∧ (b.right → ab.right) := by
  have key : ∀ j, j ≤ a.cnt → ab.pos j = a.pos j ∧ ∀ i, i < j → ab.ok (ab.pos i) = true := by
    intro j
    induction j with
    | zero => intro _; exact ⟨rfl, fun i hi => by omega⟩
    | succ j ih =>
      intro hj
      obtain ⟨h1, h2⟩ := ih (by omega)
      have hok := ha j hj
      have hsg := (a.ok_iff _).1 hok
      have hlt := a.pos_of_lt hj
      have hwn := a.w_in _ hlt
      have hm : ab.dc (a.pos j) = a.dc (a.pos j) := Txt.moved a ab (a.pos j) (a.pos j) hsg (by rw [h.n]; omega) (fun k hk => h.l _ (by omega))
      refine ⟨?_, fun i hi => ?_⟩
      · rw [Txt.pos, Txt.pos, h1]
        unfold Txt.w
        rw [hm]
      · by_cases e : i = j
        · subst e
          rw [h1, ← hok]
          exact ok_same hm
        · exact h2 i (by omega)
  obtain ⟨h1, h2⟩ := key a.cnt (Nat.le_refl _)
  have hs : ab.start a.n := ⟨a.cnt, by rw [h1, a.pos_cnt]⟩
  refine ⟨hs, fun hb j hj => ?_⟩
  have hc := (h.cnt_yes hs).1
  by_cases hj2 : j < a.cnt
  · exact h2 j hj2
  · have h3 := h.pos_behind (m := a.cnt) (j := 0) (by rw [h1, a.pos_cnt]; rfl) (j - a.cnt)
    rw [Nat.zero_add, show a.cnt + (j - a.cnt) = j by omega] at h3
    rw [h3, ← hb (j - a.cnt) (by omega)]
    exact ok_same (h.behind _)

theorem split_at (s : ByteArray) {k : Nat} (h : k ≤ s.size) : s.extract 0 k ++ s.extract k s.size = s := by
  rw [ByteArray.extract_append_extract, Nat.max_eq_right h, Nat.zero_min]; exact ByteArray.extract_zero_size
theorem split_join (s : ByteArray) {k : Nat} (h : k ≤ s.size) : Joined (txt (s.extract 0 k)) (txt (s.extract k s.size)) (txt s) := by
  have := txt_append (s.extract 0 k) (s.extract k s.size)
  rw [split_at s h] at this
  exact this
theorem head_n (s : ByteArray) {k : Nat} (h : k ≤ s.size) : (txt (s.extract 0 k)).n = k := by
  show (s.extract 0 k).size = k
  rw [ext_size s h]; omega
def Rt (s : ByteArray) : Prop := (txt s).right
theorem Rt.split {s : ByteArray} (h : Rt s) {k : Nat} (hc : caretB (txt s) (k : Int) = true) : Rt (s.extract 0 k) ∧ Rt (s.extract k s.size) := by
  obtain ⟨h1, h2⟩ := (caret_iff (txt s) k).1 hc
  exact right_split (split_join s h1) (by rw [head_n s h1]; exact h2) h
theorem Rt.join {a b : ByteArray} (ha : Rt a) (hb : Rt b) : Rt (a ++ b) := (right_join (txt_append a b) ha).2 hb
theorem Rt.caret {a : ByteArray} (ha : Rt a) (b : ByteArray) : caretB (txt (a ++ b)) (a.size : Int) = true := by
  have := (right_join (txt_append a b) ha).1
  exact (caret_iff _ _).2 ⟨by rw [txt_size, app_size]; omega, this⟩
theorem caret_tail (s : ByteArray) {c d : Nat} (hc : caretB (txt s) (c : Int) = true) (hd : caretB (txt s) (d : Int) = true) (h : c ≤ d) : caretB (txt (s.extract c s.size)) ((d - c : Nat) : Int) = true := by
  obtain ⟨h1, h2⟩ := (caret_iff (txt s) c).1 hc
  obtain ⟨h3, q, hq⟩ := (caret_iff (txt s) d).1 hd
  have hJ := split_join s h1
  have hn := head_n s h1
  obtain ⟨e1, e2⟩ := hJ.cnt_yes (by rw [hn]; exact h2)
  rw [hn] at e2
  have hle : (txt (s.extract 0 c)).cnt ≤ q := pos_inj2 (by rw [e2, hq]; exact h)
  have h5 := hJ.pos_behind (m := (txt (s.extract 0 c)).cnt) (j := 0) (by rw [e2, hn]; rfl) (q - (txt (s.extract 0 c)).cnt)
  rw [Nat.zero_add, show (txt (s.extract 0 c)).cnt + (q - (txt (s.extract 0 c)).cnt) = q by omega, hq, hn] at h5
  refine (caret_iff _ _).2 ⟨?_, _, (show (txt (s.extract c s.size)).pos (q - (txt (s.extract 0 c)).cnt) = d - c by omega)⟩
  rw [txt_size, ext_size s (Nat.le_refl _)]
  have : (txt s).n = s.size := rfl
  omega
theorem code_zero {s p : ByteArray} {k m : Nat} (h1 : k + m ≤ s.size) (h2 : caretB (txt s) (k : Int) = true) (h3 : caretB (txt s) ((k : Int) + m) = true) (h4 : (s.size : Int) - m + p.size ≤ 65536) : codeE s k m p = 0 := by
  unfold codeE
  rw [if_neg (by omega), h2, h3, if_neg (by simp), if_neg (by omega)]

theorem appl_size (s : ByteArray) {k m : Nat} (p : ByteArray) (h : k + m ≤ s.size) : (applS s k m p).size = s.size - m + p.size := by
  unfold applS
  rw [app_size, app_size, ext_size s (by omega), ext_size s (Nat.le_refl _)]; omega
theorem app_list (a b : ByteArray) : (a ++ b).data.toList = a.data.toList ++ b.data.toList := by simp
theorem appl_list (s : ByteArray) (k m : Nat) (p : ByteArray) : (applS s k m p).data.toList = s.data.toList.take k ++ (p.data.toList ++ s.data.toList.drop (k + m)) := by
  unfold applS
  have e1 : (s.extract 0 k).data.toList = s.data.toList.take k := by rw [ext_list, List.drop_zero, Nat.sub_zero]
  have e2 : (s.extract (k + m) s.size).data.toList = s.data.toList.drop (k + m) := by
    rw [ext_list]
    exact List.take_of_length_le (by rw [List.length_drop, ← Lib.size_eq]; exact Nat.le_refl _)
  rw [app_list, app_list, e1, e2, List.append_assoc]
theorem bytes_ext {a b : ByteArray} (h : a.data.toList = b.data.toList) : a = b := by
  cases a; cases b
  congr 1
  exact Array.toList_inj.1 h
theorem comm_list (l A B : List UInt8) {k m k2 m2 : Nat} (h1 : k + m ≤ k2) (h2 : k2 + m2 ≤ l.length) :
    (l.take k ++ (A ++ l.drop (k + m))).take (k2 - m + A.length) ++ (B ++ (l.take k ++ (A ++ l.drop (k + m))).drop (k2 - m + A.length + m2)) =
    (l.take k2 ++ (B ++ l.drop (k2 + m2))).take k ++ (A ++ (l.take k2 ++ (B ++ l.drop (k2 + m2))).drop (k + m)) := by
  have hk : (l.take k).length = k := by rw [List.length_take]; omega
  have hk2 : (l.take k2).length = k2 := by rw [List.length_take]; omega
  have e1 : k2 - m + A.length - k = A.length + (k2 - m - k) := by omega
  have e2 : k2 - m + A.length + m2 - k = A.length + (k2 - m - k + m2) := by omega
  rw [List.take_append, List.drop_append, List.take_append, List.drop_append, List.take_append, List.drop_append, hk, hk2, e1, e2]
  rw [List.take_of_length_le (show (l.take k).length ≤ k2 - m + A.length by omega), List.drop_of_length_le (show (l.take k).length ≤ k2 - m + A.length + m2 by omega)]
  rw [List.take_of_length_le (show A.length ≤ A.length + (k2 - m - k) by omega), List.drop_of_length_le (show A.length ≤ A.length + (k2 - m - k + m2) by omega)]
  rw [show k - k2 = 0 by omega, show k + m - k2 = 0 by omega, List.take_zero, List.drop_zero, List.append_nil, List.take_take, Nat.min_eq_left (show k ≤ k2 by omega)]
  rw [show A.length + (k2 - m - k) - A.length = k2 - m - k by omega, show A.length + (k2 - m - k + m2) - A.length = k2 - m - k + m2 by omega, List.drop_drop, List.drop_take]
  rw [show k + m + (k2 - m - k + m2) = k2 + m2 by omega, show k2 - m - k = k2 - (k + m) by omega]
  simp
theorem comm_eq (s A B : ByteArray) {k m k2 m2 : Nat} (h1 : k + m ≤ k2) (h2 : k2 + m2 ≤ s.size) :
    applS (applS s k m A) (k2 - m + A.size) m2 B = applS (applS s k2 m2 B) k m A := by
  apply bytes_ext
  rw [appl_list, appl_list, appl_list, appl_list, Lib.size_eq A]
  exact comm_list _ _ _ h1 (by rw [← Lib.size_eq]; exact h2)
theorem head_head (s : ByteArray) {k d : Nat} (h : k ≤ d) : (s.extract 0 d).extract 0 k = s.extract 0 k := by
  rw [ByteArray.extract_extract, Nat.zero_add, Nat.zero_add, Nat.min_eq_left h]
/-- Of a text of signs, a place ahead of what is put in is one. -/
theorem caret_ahead {s : ByteArray} (hs : Rt s) {k d : Nat} (hc : caretB (txt s) (k : Int) = true) (h : k ≤ d) (hd : d ≤ s.size) (v : ByteArray) : caretB (txt (s.extract 0 d ++ v)) (k : Int) = true := by
  have hk : (s.extract 0 k).size = k := by rw [ext_size s (by omega)]; omega
  have e : s.extract 0 d ++ v = s.extract 0 k ++ ((s.extract 0 d).extract k (s.extract 0 d).size ++ v) := by
    have := split_at (s.extract 0 d) (k := k) (by rw [ext_size s hd]; omega)
    rw [head_head s h] at this
    rw [← ByteArray.append_assoc, this]
  rw [e]
  have := (hs.split hc).1.caret ((s.extract 0 d).extract k (s.extract 0 d).size ++ v)
  rw [hk] at this
  exact this
/-- Of a text of signs, a place behind what is put in moves with it. -/
theorem caret_behind {s A : ByteArray} (hs : Rt s) (hA : Rt A) {k m d : Nat} (hk : caretB (txt s) (k : Int) = true) (hkm : caretB (txt s) ((k : Int) + m) = true) (hd : caretB (txt s) (d : Int) = true) (h : k + m ≤ d) :
    caretB (txt (applS s k m A)) ((d - m + A.size : Nat) : Int) = true := by
  have e0 : ((k : Int) + m) = ((k + m : Nat) : Int) := by omega
  rw [e0] at hkm
  have h1 : k ≤ s.size := ((caret_iff (txt s) k).1 hk).1
  have h2 : d ≤ s.size := ((caret_iff (txt s) d).1 hd).1
  have hr := (hs.split hkm).2
  have ht := caret_tail s hkm hd h
  obtain ⟨r, hrr⟩ : ∃ r, s.extract (k + m) s.size = r := ⟨_, rfl⟩
  have hrs : r.size = s.size - (k + m) := by rw [← hrr, ext_size s (Nat.le_refl _)]
  rw [hrr] at hr ht
  have hsp := (hr.split ht).1
  have e : applS s k m A = (s.extract 0 k ++ A ++ r.extract 0 (d - (k + m))) ++ r.extract (d - (k + m)) r.size := by
    unfold applS
    rw [hrr]
    have := split_at r (k := d - (k + m)) (by omega)
    generalize r.extract 0 (d - (k + m)) = u at this ⊢
    generalize r.extract (d - (k + m)) r.size = v at this ⊢
    rw [← this, ByteArray.append_assoc, ByteArray.append_assoc, ByteArray.append_assoc]
  have hsz : (s.extract 0 k ++ A ++ r.extract 0 (d - (k + m))).size = d - m + A.size := by
    rw [app_size, app_size, ext_size s h1, ext_size r (by omega)]; omega
  rw [e]
  have := (((hs.split hk).1.join hA).join hsp).caret (r.extract (d - (k + m)) r.size)
  rw [hsz] at this
  exact this
/-- The second edit, moved, behind the first one. -/
theorem second_code {s A B : ByteArray} {k m k2 m2 : Nat} (hs : Rt s) (hA : Rt A) (h1 : codeE s k m A = 0) (h2 : codeE s k2 m2 B = 0) (h : k + m ≤ k2) (hz : s.size ≤ 1000) (hzA : A.size ≤ 1000) (hzB : B.size ≤ 1000) :
    codeE (applS s k m A) ((k2 - m + A.size : Nat) : Int) m2 B = 0 := by
  obtain ⟨_, _, e1, e2, a1, a2, a3, -⟩ := code_yes h1
  obtain ⟨_, _, e3, e4, b1, b2, b3, -⟩ := code_yes h2
  obtain rfl := Int.ofNat.inj e1; obtain rfl := Int.ofNat.inj e2; obtain rfl := Int.ofNat.inj e3; obtain rfl := Int.ofNat.inj e4
  have hsz := appl_size s A a1
  refine code_zero (by omega) (caret_behind hs hA a2 a3 b2 h) ?_ (by omega)
  have e5 : ((k2 : Int) + m2) = ((k2 + m2 : Nat) : Int) := by omega
  rw [e5] at b3
  have := caret_behind hs hA a2 a3 b3 (by omega)
  rw [show (((k2 - m + A.size : Nat) : Int) + (m2 : Int)) = ((k2 + m2 - m + A.size : Nat) : Int) by omega]
  exact this
/-- The first edit, behind the second one. -/
theorem first_code {s A B : ByteArray} {k m k2 m2 : Nat} (hs : Rt s) (h1 : codeE s k m A = 0) (h2 : codeE s k2 m2 B = 0) (h : k + m ≤ k2) (hz : s.size ≤ 1000) (hzA : A.size ≤ 1000) (hzB : B.size ≤ 1000) :
    codeE (applS s k2 m2 B) k m A = 0 := by
  obtain ⟨_, _, e1, e2, a1, a2, a3, -⟩ := code_yes h1
  obtain ⟨_, _, e3, e4, b1, b2, b3, -⟩ := code_yes h2
  obtain rfl := Int.ofNat.inj e1; obtain rfl := Int.ofNat.inj e2; obtain rfl := Int.ofNat.inj e3; obtain rfl := Int.ofNat.inj e4
  have hsz := appl_size s B b1
  have e5 : ((k : Int) + m) = ((k + m : Nat) : Int) := by omega
  rw [e5] at a3
  refine code_zero (by omega) ?_ ?_ (by omega)
  · unfold applS
    rw [ByteArray.append_assoc]
    exact caret_ahead hs a2 (by omega) (by omega) _
  · rw [e5]
    unfold applS
    rw [ByteArray.append_assoc]
    exact caret_ahead hs a3 h (by omega) _
theorem moved_far {k m k2 n : Nat} (h : k + m < k2) (hb : k2 ≤ 1000) : movedI k m n k2 = ((k2 - m + n : Nat) : Int) := by
  unfold movedI clampI
  repeat rw [if_neg (by omega)]
  omega

end Go.Proofs.YtfcdmkfbkkogbaaDoor.Edit
