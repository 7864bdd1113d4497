/- Plain mathematics of UTF-8 texts: a string's bytes are a text; how many runes it has, whether it is valid; the bytes of a sign. -/
import Derived.Test.YtfjlhfalnciamaaDoorUtfB
namespace Go.Proofs.YtfjlhfalnciamaaDoor.Utf
open Go

theorem get_out (s : ByteArray) (i : Nat) (h : s.size ≤ i) : s.get! i = 0 := by
  rw [← Lib.getD_get!', List.getD_eq_getElem?_getD, List.getElem?_eq_none (by rw [← Lib.size_eq]; exact h)]; rfl
def txt (s : ByteArray) : Txt where
  n := s.size
  b i := (s.get! i).toNat
  lt i := (s.get! i).toNat_lt
  out i h := by rw [get_out s i h]; rfl
theorem decode_txt (s : ByteArray) (i : Nat) : Utf8.decode s i = (txt s).dc i := Lib.decode_at s i
theorem txt_tail (s : ByteArray) (p i : Nat) : (txt (s.extract p s.size)).dc i = (txt s).dc (p + i) := by
  rw [← decode_txt, ← decode_txt, Lib.tail_decode]

theorem count_from (s : ByteArray) : ∀ (fuel k : Nat), s.size ≤ (txt s).pos k + fuel → k ≤ (txt s).cnt → Lib.runeCountFrom s fuel ((txt s).pos k) = (txt s).cnt - k
  | 0, k, h, hk => by
    have : (txt s).pos k = (txt s).n := by
      rcases Nat.lt_or_eq_of_le hk with h1 | h1
      · have := (txt s).pos_of_lt h1
        show _ = s.size
        have h2 : (txt s).n = s.size := rfl
        omega
      · rw [h1]; exact (txt s).pos_cnt
    have := (txt s).cnt_of this
    rw [this, Nat.sub_self]; rfl
  | fuel + 1, k, h, hk => by
    unfold Lib.runeCountFrom
    have hn : (txt s).n = s.size := rfl
    by_cases hlt : (txt s).pos k < s.size
    · have hc := (txt s).lt_cnt (show (txt s).pos k < (txt s).n from hlt)
      rw [if_pos hlt, decode_txt]
      have hp := (txt s).pos_lt (show k < k + 1 by omega)
      have ih := count_from s fuel (k + 1) (by omega) (by omega)
      rw [show (txt s).pos (k + 1) = (txt s).pos k + ((txt s).dc ((txt s).pos k)).2 from rfl] at ih
      rw [ih]; omega
    · rw [if_neg hlt]
      have : (txt s).cnt = k := by
        rcases Nat.lt_or_eq_of_le hk with h1 | h1
        · have := (txt s).pos_of_lt h1; omega
        · exact h1.symm
      omega
theorem count_txt (s : ByteArray) : Lib.runeCount s = (txt s).cnt := count_from s s.size 0 (by simp [Txt.pos]) (Nat.zero_le _)

/-- All items are signs. -/
def Txt.right (t : Txt) : Prop := ∀ k, k < t.cnt → t.ok (t.pos k) = true

theorem drop_decode (s : ByteArray) (p : Nat) : Lib.decodeL (s.data.toList.drop p) = (txt s).dc p := by
  unfold Lib.decodeL
  have e : (⟨(s.data.toList.drop p).toArray⟩ : ByteArray) = s.extract p s.size := by
    apply ByteArray.ext
    apply Array.ext'
    rw [Lib.extract_data]
    show s.data.toList.drop p = _
    rw [List.take_of_length_le (by rw [List.length_drop, ← Lib.size_eq]; exact Nat.le_refl _)]
  rw [e, Lib.tail_decode, Nat.add_zero, decode_txt]
theorem valid_from (s : ByteArray) : ∀ (m k : Nat), (txt s).cnt = k + m → (Lib.validD (s.data.toList.drop ((txt s).pos k)) = true ↔ ∀ j, k ≤ j → j < (txt s).cnt → (txt s).ok ((txt s).pos j) = true)
  | 0, k, h => by
    have : (txt s).pos k = s.size := by rw [← show (txt s).cnt = k from h]; exact (txt s).pos_cnt
    rw [this, List.drop_eq_nil_of_le (by rw [Lib.size_eq]; exact Nat.le_refl _)]
    constructor
    · intro _ j h1 h2; omega
    · intro _; rfl
  | m + 1, k, h => by
    have hlt := (txt s).pos_of_lt (show k < (txt s).cnt by omega)
    have hne : s.data.toList.drop ((txt s).pos k) ≠ [] := by
      intro e
      have := congrArg List.length e
      rw [List.length_drop, ← Lib.size_eq] at this
      simp at this
      have hn : (txt s).n = s.size := rfl
      omega
    rw [Lib.validD_step _ hne, drop_decode]
    have ih := valid_from s m (k + 1) (by omega)
    by_cases hb : (txt s).ok ((txt s).pos k) = true
    · have h1 : ¬ (((txt s).dc ((txt s).pos k)).1 = 65533 ∧ ((txt s).dc ((txt s).pos k)).2 = 1) := by
        unfold Txt.ok Txt.r Txt.w at hb; simp at hb; omega
      rw [if_neg h1, List.drop_drop, show (txt s).pos k + ((txt s).dc ((txt s).pos k)).2 = (txt s).pos (k + 1) from rfl, ih]
      constructor
      · intro hh j h1 h2
        by_cases e : j = k
        · subst e; exact hb
        · exact hh j (by omega) h2
      · intro hh j h1 h2; exact hh j (by omega) h2
    · have h1 : ((txt s).dc ((txt s).pos k)).1 = 65533 ∧ ((txt s).dc ((txt s).pos k)).2 = 1 := by
        have hw := (txt s).w_pos ((txt s).pos k)
        unfold Txt.ok Txt.r Txt.w at hb; unfold Txt.w at hw; simp at hb; omega
      rw [if_pos h1]
      constructor
      · intro hh; cases hh
      · intro hh; exact absurd (hh k (Nat.le_refl _) (by omega)) hb
theorem valid_txt (s : ByteArray) : Lib.validD s.data.toList = true ↔ (txt s).right := by
  have := valid_from s (txt s).cnt 0 (by omega)
  simp only [Txt.pos, List.drop_zero] at this
  rw [this]
  exact ⟨fun h j hj => h j (Nat.zero_le _) hj, fun h j _ hj => h j hj⟩

theorem txt_append (a b : ByteArray) : Joined (txt a) (txt b) (txt (a ++ b)) where
  n := by show (a ++ b).size = a.size + b.size; simp
  l i hi := by
    show ((a ++ b).get! i).toNat = (a.get! i).toNat
    rw [← Lib.getD_get!', ← Lib.getD_get!', show (a ++ b).data.toList = a.data.toList ++ b.data.toList by simp, List.getD_eq_getElem?_getD, List.getD_eq_getElem?_getD, List.getElem?_append_left (by rw [← Lib.size_eq]; exact hi)]
  r i := by
    show ((a ++ b).get! (a.size + i)).toNat = (b.get! i).toNat
    rw [← Lib.getD_get!', ← Lib.getD_get!', show (a ++ b).data.toList = a.data.toList ++ b.data.toList by simp, List.getD_eq_getElem?_getD, List.getD_eq_getElem?_getD, List.getElem?_append_right (by rw [← Lib.size_eq]; omega), ← Lib.size_eq, Nat.add_sub_cancel_left]

/-! ### The bytes of a sign -/
def signR (r : Int) : Bool := (0 ≤ r && r < 55296) || (57344 ≤ r && r ≤ 1114111)
/-- The bytes of a sign; of what is none: none. -/
def encN (r : Nat) : List Nat :=
  if ¬ (r < 55296 ∨ (57344 ≤ r ∧ r ≤ 1114111)) then []
  else if r < 128 then [r]
  else if r < 2048 then [192 + r / 64, 128 + r % 64]
  else if r < 65536 then [224 + r / 4096, 128 + r / 64 % 64, 128 + r % 64]
  else [240 + r / 262144, 128 + r / 4096 % 64, 128 + r / 64 % 64, 128 + r % 64]
/-- What ref.At makes of the first n bytes. -/
def packN (b0 b1 b2 b3 : Nat) : Nat → Nat
  | 1 => b0
  | 2 => 64 * (b0 % 32) + b1 % 64
  | 3 => 64 * (64 * (b0 % 16) + b1 % 64) + b2 % 64
  | _ => 64 * (64 * (64 * (b0 % 8) + b1 % 64) + b2 % 64) + b3 % 64
def firstN (b0 b1 b2 b3 : Nat) : Nat → List Nat
  | 1 => [b0]
  | 2 => [b0, b1]
  | 3 => [b0, b1, b2]
  | _ => [b0, b1, b2, b3]
theorem pack_one {b0 b1 b2 b3 : Nat} (h0 : b0 < 256) : encN (packN b0 b1 b2 b3 1) = firstN b0 b1 b2 b3 1 ↔ b0 < 128 := by
  show encN (b0) = [b0] ↔ _
  unfold encN
  repeat' split
  all_goals simp
  all_goals omega
theorem pack_two {b0 b1 b2 b3 : Nat} (h0 : b0 < 256) (h1 : b1 < 256) : encN (packN b0 b1 b2 b3 2) = firstN b0 b1 b2 b3 2 ↔ (194 ≤ b0 ∧ b0 < 224 ∧ 128 ≤ b1 ∧ b1 < 192) := by
  show encN (64 * (b0 % 32) + b1 % 64) = [b0, b1] ↔ _
  unfold encN
  repeat' split
  all_goals simp
  all_goals omega
theorem pack_three {b0 b1 b2 b3 : Nat} (h0 : b0 < 256) (h1 : b1 < 256) (h2 : b2 < 256) : encN (packN b0 b1 b2 b3 3) = firstN b0 b1 b2 b3 3 ↔
    (224 ≤ b0 ∧ b0 < 240 ∧ 128 ≤ b1 ∧ b1 < 192 ∧ 128 ≤ b2 ∧ b2 < 192 ∧ 2048 ≤ b0 % 16 * 4096 + b1 % 64 * 64 + b2 % 64 ∧ (b0 % 16 * 4096 + b1 % 64 * 64 + b2 % 64 < 55296 ∨ 57344 ≤ b0 % 16 * 4096 + b1 % 64 * 64 + b2 % 64)) := by
  show encN (64 * (64 * (b0 % 16) + b1 % 64) + b2 % 64) = [b0, b1, b2] ↔ _
  unfold encN
  repeat' split
  all_goals simp
  all_goals omega
theorem pack_four {b0 b1 b2 b3 : Nat} (h0 : b0 < 256) (h1 : b1 < 256) (h2 : b2 < 256) (h3 : b3 < 256) : encN (packN b0 b1 b2 b3 4) = firstN b0 b1 b2 b3 4 ↔
    (240 ≤ b0 ∧ b0 < 248 ∧ 128 ≤ b1 ∧ b1 < 192 ∧ 128 ≤ b2 ∧ b2 < 192 ∧ 128 ≤ b3 ∧ b3 < 192 ∧ 65536 ≤ b0 % 8 * 262144 + b1 % 64 * 4096 + b2 % 64 * 64 + b3 % 64 ∧ b0 % 8 * 262144 + b1 % 64 * 4096 + b2 % 64 * 64 + b3 % 64 ≤ 1114111) := by
  show encN (64 * (64 * (64 * (b0 % 8) + b1 % 64) + b2 % 64) + b3 % 64) = [b0, b1, b2, b3] ↔ _
  unfold encN
  repeat' split
  all_goals simp
  all_goals omega

/-- A sign of n bytes: just where the bytes are those of what they make. -/
theorem Txt.pack_iff (t : Txt) (i n : Nat) (h1 : 1 ≤ n) (h4 : n ≤ 4) (hn : n ≤ t.n - i) :
    encN (packN (t.b i) (t.b (i + 1)) (t.b (i + 2)) (t.b (i + 3)) n) = firstN (t.b i) (t.b (i + 1)) (t.b (i + 2)) (t.b (i + 3)) n ↔ (t.sign i ∧ t.w i = n) := by
  have l0 := t.lt i; have l1 := t.lt (i + 1); have l2 := t.lt (i + 2); have l3 := t.lt (i + 3)
  have hk := t.kind i
  unfold Txt.sign Txt.w
  have hd : t.dc i = Lib.decodeN (t.n - i) (t.b i) (t.b (i + 1)) (t.b (i + 2)) (t.b (i + 3)) := rfl
  generalize t.dc i = d at hk hd ⊢
  have : n = 1 ∨ n = 2 ∨ n = 3 ∨ n = 4 := by omega
  rcases this with rfl | rfl | rfl | rfl
  · rw [pack_one l0]
    cases hk <;> simp <;> omega
  · rw [pack_two l0 l1]
    constructor
    · rintro ⟨a1, a2, a3, a4⟩
      rw [hd, dec_two a1 a2 (by omega) a3 a4]; simp
    · cases hk <;> simp <;> omega
  · rw [pack_three l0 l1 l2]
    constructor
    · rintro ⟨a1, a2, a3, a4, a5, a6, a7, a8⟩
      rw [hd, dec_three a1 a2 (by omega) a3 a4 a5 a6 a7 a8]; simp
    · cases hk <;> simp <;> omega
  · rw [pack_four l0 l1 l2 l3]
    constructor
    · rintro ⟨a1, a2, a3, a4, a5, a6, a7, a8, a9, a10⟩
      rw [hd, dec_four a1 a2 (by omega) a3 a4 a5 a6 a7 a8 a9 a10]; simp
    · cases hk <;> simp <;> omega
theorem Txt.pack_r (t : Txt) (i : Nat) (hs : t.sign i) : packN (t.b i) (t.b (i + 1)) (t.b (i + 2)) (t.b (i + 3)) (t.w i) = t.r i := by
  have hk := t.kind i
  unfold Txt.sign Txt.w at hs
  unfold Txt.w Txt.r
  generalize t.dc i = d at hk hs ⊢
  cases hk <;> simp [packN] at hs ⊢ <;> omega
/-- A text that begins with a sign's bytes begins with it. -/
theorem Txt.enc (t : Txt) (i r : Nat) (hr : encN r ≠ []) (hl : i + (encN r).length ≤ t.n) (h : ∀ k x, (encN r)[k]? = some x → t.b (i + k) = x) : t.dc i = (r, (encN r).length) := by
  have hv : r < 55296 ∨ (57344 ≤ r ∧ r ≤ 1114111) := by
    unfold encN at hr
    by_cases hv : r < 55296 ∨ (57344 ≤ r ∧ r ≤ 1114111)
    · exact hv
    · rw [if_pos hv] at hr; exact absurd rfl hr
  unfold encN at hl h ⊢
  rw [if_neg (fun hh => hh hv)] at hl h ⊢
  unfold Txt.dc
  by_cases c1 : r < 128
  · rw [if_pos c1] at hl h ⊢
    have e0 := h 0 r rfl
    rw [Nat.add_zero] at e0
    rw [e0]; exact dec_one c1
  rw [if_neg c1] at hl h ⊢
  by_cases c2 : r < 2048
  · rw [if_pos c2] at hl h ⊢
    have e0 := h 0 _ rfl; have e1 := h 1 _ rfl
    rw [Nat.add_zero] at e0
    simp at hl
    rw [dec_two (by omega) (by omega) (by omega) (by omega) (by omega), e0, e1]
    simp; omega
  rw [if_neg c2] at hl h ⊢
  by_cases c3 : r < 65536
  · rw [if_pos c3] at hl h ⊢
    have e0 := h 0 _ rfl; have e1 := h 1 _ rfl; have e2 := h 2 _ rfl
    rw [Nat.add_zero] at e0
    simp at hl
    have key : t.b i % 16 * 4096 + t.b (i + 1) % 64 * 64 + t.b (i + 2) % 64 = r := by omega
    rw [dec_three (by omega) (by omega) (by omega) (by omega) (by omega) (by omega) (by omega) (by omega) (by omega), key]
    rfl
  · rw [if_neg c3] at hl h ⊢
    have e0 := h 0 _ rfl; have e1 := h 1 _ rfl; have e2 := h 2 _ rfl; have e3 := h 3 _ rfl
    rw [Nat.add_zero] at e0
    simp at hl
    have key : t.b i % 8 * 262144 + t.b (i + 1) % 64 * 4096 + t.b (i + 2) % 64 * 64 + t.b (i + 3) % 64 = r := by omega
    rw [dec_four (by omega) (by omega) (by omega) (by omega) (by omega) (by omega) (by omega) (by omega) (by omega) (by omega) (by omega), key]
    rfl

end Go.Proofs.YtfjlhfalnciamaaDoor.Utf
