/- Plain mathematics of UTF-8 texts: how a text is shown; what is shown of two texts is alike just if they are. -/
import Derived.Test.YtfjlhfalnciamaaDoorUtfC
namespace Go.Proofs.YtfjlhfalnciamaaDoor.Utf
open Go

def digH (d : Nat) : UInt8 := UInt8.ofNat (if d < 10 then 48 + d else 87 + d)
/-- A byte's number in digits of base 16. -/
def hexL (n : Nat) : List UInt8 := if n < 16 then [digH n] else [digH (n / 16), digH (n % 16)]
def numb (n : Nat) : List UInt8 := [92, 117, 123] ++ hexL n ++ [125]
/-- How the first item of a text is shown. -/
def piece (l : List UInt8) : List UInt8 :=
  if (Lib.decodeL l).1 = 65533 ∧ (Lib.decodeL l).2 = 1 then numb (l.getD 0 0).toNat
  else if (Lib.decodeL l).1 = 92 then [92, 92]
  else if (Lib.decodeL l).1 < 32 ∨ (Lib.decodeL l).1 = 127 then numb (Lib.decodeL l).1
  else l.take (Lib.decodeL l).2
def showG : Nat → List UInt8 → List UInt8
  | 0, _ => []
  | n + 1, l => if l = [] then [] else piece l ++ showG n (l.drop (Lib.decodeL l).2)
def showL (l : List UInt8) : List UInt8 := showG l.length l

theorem decodeL_txt (l : List UInt8) : Lib.decodeL l = (txt ⟨l.toArray⟩).dc 0 := decode_txt _ 0
theorem txt_n (l : List UInt8) : (txt ⟨l.toArray⟩).n = l.length := rfl
theorem txt_b (l : List UInt8) (i : Nat) : (txt ⟨l.toArray⟩).b i = (l.getD i 0).toNat := by
  show ((⟨l.toArray⟩ : ByteArray).get! i).toNat = _
  rw [← Lib.getD_get!']

theorem decL_pos (l : List UInt8) : 1 ≤ (Lib.decodeL l).2 := by rw [decodeL_txt]; exact (txt _).w_pos 0
theorem decL_le (l : List UInt8) (h : l ≠ []) : (Lib.decodeL l).2 ≤ l.length := by
  rw [decodeL_txt]
  have := (txt ⟨l.toArray⟩).w_in 0 (by rw [txt_n]; exact List.length_pos_iff.2 h)
  rw [txt_n, Nat.zero_add] at this
  exact this

theorem showG_fuel : ∀ (n m : Nat) (l : List UInt8), l.length ≤ n → l.length ≤ m → showG n l = showG m l
  | 0, m, l, hn, _ => by
    have : l = [] := List.eq_nil_of_length_eq_zero (by omega)
    subst this
    cases m <;> simp [showG]
  | n + 1, 0, l, _, hm => by
    have : l = [] := List.eq_nil_of_length_eq_zero (by omega)
    subst this
    simp [showG]
  | n + 1, m + 1, l, hn, hm => by
    unfold showG
    by_cases hne : l = []
    · rw [if_pos hne, if_pos hne]
    · have hp := decL_pos l
      rw [if_neg hne, if_neg hne, showG_fuel n m _ (by rw [List.length_drop]; omega) (by rw [List.length_drop]; omega)]
theorem showL_nil : showL [] = [] := rfl
theorem showL_step (l : List UInt8) (h : l ≠ []) : showL l = piece l ++ showL (l.drop (Lib.decodeL l).2) := by
  have hl := List.length_pos_iff.2 h
  have hp := decL_pos l
  unfold showL
  obtain ⟨n, hn⟩ : ∃ n, l.length = n + 1 := ⟨l.length - 1, by omega⟩
  rw [hn]
  show (if l = [] then [] else _) = _
  rw [if_neg h, showG_fuel n (l.drop (Lib.decodeL l).2).length _ (by rw [List.length_drop]; omega) (Nat.le_refl _)]

/-! ### The first item -/
inductive Head (l : List UInt8) : Prop
  | plain : piece l = l.take (Lib.decodeL l).2 → 32 ≤ (Lib.decodeL l).1 → (Lib.decodeL l).1 ≠ 127 → (Lib.decodeL l).1 ≠ 92 → (txt ⟨l.toArray⟩).sign 0 → Head l
  | back : piece l = [92, 92] → l = 92 :: l.drop (Lib.decodeL l).2 → Head l
  | num (n : Nat) : n < 256 → (n < 32 ∨ 127 ≤ n) → piece l = numb n → l = UInt8.ofNat n :: l.drop (Lib.decodeL l).2 → Head l

theorem cons_of {l : List UInt8} (h : l ≠ []) : l = l.getD 0 0 :: l.drop 1 := by
  cases l with
  | nil => exact absurd rfl h
  | cons a r => rfl
theorem head_of (l : List UInt8) (h : l ≠ []) : Head l := by
  have hl := List.length_pos_iff.2 h
  have hk := (txt ⟨l.toArray⟩).kind 0
  have hc := cons_of h
  have e0 := txt_b l 0
  have hs : (txt ⟨l.toArray⟩).sign 0 ↔ ((txt ⟨l.toArray⟩).b 0 < 128 ∨ 2 ≤ (Lib.decodeL l).2) := by unfold Txt.sign Txt.w; rw [decodeL_txt]
  rw [← decodeL_txt] at hk
  simp only [Nat.zero_add] at hk
  have hp : piece l = if (Lib.decodeL l).1 = 65533 ∧ (Lib.decodeL l).2 = 1 then numb (l.getD 0 0).toNat
    else if (Lib.decodeL l).1 = 92 then [92, 92]
    else if (Lib.decodeL l).1 < 32 ∨ (Lib.decodeL l).1 = 127 then numb (Lib.decodeL l).1
    else l.take (Lib.decodeL l).2 := rfl
  obtain ⟨X, hX⟩ : ∃ X, Lib.decodeL l = X := ⟨_, rfl⟩
  rw [hX] at hk hp hs
  have hb : (txt ⟨l.toArray⟩).b 0 = (l.getD 0 0).toNat := e0
  have hlt := (txt ⟨l.toArray⟩).lt 0
  have hof : UInt8.ofNat (l.getD 0 0).toNat = l.getD 0 0 := by simp
  have big : (2 ≤ X.2) → 128 ≤ X.1 → ¬ (X.1 = 65533 ∧ X.2 = 1) → Head l := fun a1 a2 a3 => by
    rw [if_neg a3, if_neg (by omega), if_neg (by omega)] at hp
    exact .plain (by rw [hX]; exact hp) (by rw [hX]; omega) (by rw [hX]; omega) (by rw [hX]; omega) (hs.2 (.inr a1))
  cases hk with
  | one c =>
    rw [hb] at hp c hX
    have hno : ¬ (((l.getD 0 0).toNat, 1).1 = 65533 ∧ ((l.getD 0 0).toNat, 1).2 = 1) := fun hh => by
      have h9 : (l.getD 0 0).toNat = 65533 := hh.1
      omega
    rw [if_neg hno] at hp
    by_cases c1 : (l.getD 0 0).toNat = 92
    · rw [if_pos c1] at hp
      refine .back hp ?_
      rw [hX]
      conv => lhs; rw [hc]
      rw [← hof, c1]; rfl
    rw [if_neg c1] at hp
    by_cases c2 : (l.getD 0 0).toNat < 32 ∨ (l.getD 0 0).toNat = 127
    · rw [if_pos c2] at hp
      refine .num _ (by omega) (by omega) hp ?_
      rw [hX]
      conv => lhs; rw [hc]
      rw [hof]
    · rw [if_neg c2] at hp
      exact .plain (by rw [hX]; exact hp) (by rw [hX]; show 32 ≤ (l.getD 0 0).toNat; omega) (by rw [hX]; show (l.getD 0 0).toNat ≠ 127; omega) (by rw [hX]; exact c1) (hs.2 (.inl (by rw [hb]; exact c)))
  | bad c =>
    rw [hb] at c hlt
    rw [if_pos ⟨rfl, rfl⟩] at hp
    refine .num _ hlt (by omega) hp ?_
    rw [hX]
    conv => lhs; rw [hc]
    rw [hof]
  | two => exact big (by simp) (by simp; omega) (by simp)
  | three => exact big (by simp) (by simp; omega) (by simp)
  | four => exact big (by simp) (by simp; omega) (by simp)

/-- A sign that stands first stands first whatever is behind it. -/
theorem plain_first {l r : List UInt8} (h : l ≠ []) (hs : (txt ⟨l.toArray⟩).sign 0) : Lib.decodeL (l.take (Lib.decodeL l).2 ++ r) = Lib.decodeL l := by
  have hle := decL_le l h
  rw [decodeL_txt (_ ++ r)]
  conv => rhs; rw [decodeL_txt]
  have hw : (txt ⟨l.toArray⟩).w 0 = (Lib.decodeL l).2 := by unfold Txt.w; rw [← decodeL_txt]
  refine Txt.moved _ _ 0 0 hs ?_ fun k hk => ?_
  · rw [txt_n, hw, List.length_append, List.length_take]; omega
  · rw [hw] at hk
    rw [txt_b, txt_b]
    rw [List.getD_eq_getElem?_getD, List.getD_eq_getElem?_getD, List.getElem?_append_left (by rw [List.length_take]; omega), List.getElem?_take_of_lt (by omega)]

/-! ### What is shown is right, and can be seen -/
theorem dig_of {d : Nat} (h : d < 16) : (digH d).toNat = if d < 10 then 48 + d else 87 + d := by
  unfold digH
  rw [UInt8.toNat_ofNat']
  split <;> omega
theorem dig_lo {d : Nat} (h : d < 16) : 48 ≤ (digH d).toNat ∧ (digH d).toNat < 104 := by
  rw [dig_of h]; split <;> omega
theorem dig_inj {a b : Nat} (ha : a < 16) (hb : b < 16) (h : digH a = digH b) : a = b := by
  have := congrArg UInt8.toNat h
  rw [dig_of ha, dig_of hb] at this
  split at this <;> split at this <;> omega
theorem hex_seen {n : Nat} (hn : n < 256) : ∀ c ∈ hexL n, 48 ≤ c.toNat ∧ c.toNat < 104 := by
  unfold hexL
  split
  · intro c hc; simp at hc; subst hc; exact dig_lo (by omega)
  · intro c hc; simp at hc; rcases hc with rfl | rfl
    · exact dig_lo (by omega)
    · exact dig_lo (by omega)
theorem numb_seen {n : Nat} (hn : n < 256) : ∀ c ∈ numb n, 32 ≤ c.toNat ∧ c.toNat < 127 := by
  intro c hc
  unfold numb at hc
  simp at hc
  rcases hc with rfl | rfl | rfl | hc | rfl
  · decide
  · decide
  · decide
  · have := hex_seen hn c hc; omega
  · decide
theorem plain_seen {l : List UInt8} (h1 : 32 ≤ (Lib.decodeL l).1) (h2 : (Lib.decodeL l).1 ≠ 127) (hs : (txt ⟨l.toArray⟩).sign 0) : ∀ c ∈ l.take (Lib.decodeL l).2, 32 ≤ c.toNat ∧ c.toNat ≠ 127 := by
  intro c hc
  obtain ⟨i, hi⟩ := List.getElem?_of_mem hc
  have hil := (List.getElem?_eq_some_iff.1 hi).1
  rw [List.length_take] at hil
  rw [List.getElem?_take_of_lt (by omega)] at hi
  have hb : (txt ⟨l.toArray⟩).b i = c.toNat := by rw [txt_b, List.getD_eq_getElem?_getD, hi]; rfl
  have hw : (txt ⟨l.toArray⟩).w 0 = (Lib.decodeL l).2 := by unfold Txt.w; rw [← decodeL_txt]
  rw [← hb]
  by_cases h0 : i = 0
  · subst h0
    rcases hs with hs | hs
    · have hk := (txt ⟨l.toArray⟩).kind 0
      rw [← decodeL_txt] at hk
      generalize Lib.decodeL l = X at hk h1 h2
      cases hk <;> simp at h1 h2 <;> omega
    · have := (txt ⟨l.toArray⟩).w_lead 0 hs; omega
  · have := (txt ⟨l.toArray⟩).w_cont 0 i (by omega) (by omega); omega
theorem valid_asc : ∀ (p r : List UInt8), (∀ c ∈ p, c.toNat < 128) → Lib.validD (p ++ r) = Lib.validD r
  | [], r, _ => rfl
  | c :: p, r, h => by
    rw [List.cons_append, Lib.validD_cons c _ (h c (by simp))]
    exact valid_asc p r fun x hx => h x (by simp [hx])

theorem show_ind {P : List UInt8 → Prop} (h0 : P []) (h1 : ∀ l, l ≠ [] → P (l.drop (Lib.decodeL l).2) → P l) : ∀ (n : Nat) (l : List UInt8), l.length ≤ n → P l
  | 0, l, h => by
    have : l = [] := List.eq_nil_of_length_eq_zero (by omega)
    rw [this]; exact h0
  | n + 1, l, h => by
    by_cases hne : l = []
    · rw [hne]; exact h0
    · exact h1 l hne (show_ind h0 h1 n _ (by have := decL_pos l; rw [List.length_drop]; omega))

theorem show_seen (l : List UInt8) : ∀ c ∈ showL l, 32 ≤ c.toNat ∧ c.toNat ≠ 127 := by
  refine show_ind (P := fun l => ∀ c ∈ showL l, 32 ≤ c.toNat ∧ c.toNat ≠ 127) (by simp [showL_nil]) ?_ l.length l (Nat.le_refl _)
  intro l hne ih c hc
  rw [showL_step l hne, List.mem_append] at hc
  rcases hc with hc | hc
  · cases head_of l hne with
    | plain a b c' d e => rw [a] at hc; exact plain_seen b c' e c hc
    | back a b => rw [a] at hc; simp at hc; subst hc; decide
    | num n a b c' d => rw [c'] at hc; have := numb_seen a c hc; omega
  · exact ih c hc
theorem show_valid (l : List UInt8) : Lib.validD (showL l) = true := by
  refine show_ind (P := fun l => Lib.validD (showL l) = true) rfl ?_ l.length l (Nat.le_refl _)
  intro l hne ih
  rw [showL_step l hne]
  cases head_of l hne with
  | plain a b c d e =>
    rw [a]
    have hf := plain_first (r := showL (l.drop (Lib.decodeL l).2)) hne e
    have hle := decL_le l hne
    have hp := decL_pos l
    have hlen : (l.take (Lib.decodeL l).2).length = (Lib.decodeL l).2 := by rw [List.length_take]; omega
    have hne2 : l.take (Lib.decodeL l).2 ++ showL (l.drop (Lib.decodeL l).2) ≠ [] := by
      intro h0
      have := congrArg List.length h0
      rw [List.length_append, hlen] at this
      simp at this; omega
    rw [Lib.validD_step _ hne2, hf]
    have hno : ¬ ((Lib.decodeL l).1 = 65533 ∧ (Lib.decodeL l).2 = 1) := by
      have := (txt ⟨l.toArray⟩).ok_iff 0
      have h3 := this.2 e
      unfold Txt.ok Txt.r Txt.w at h3
      rw [← decodeL_txt] at h3
      simp at h3; omega
    rw [if_neg hno, List.drop_append_of_le_length (by omega), List.drop_of_length_le (by omega), List.nil_append]
    exact ih
  | back a b => rw [a, valid_asc _ _ (by decide)]; exact ih
  | num n a b c d => rw [c, valid_asc _ _ (fun c hc => by have := numb_seen a c hc; omega)]; exact ih

theorem numb_inj {n m : Nat} {x y : List UInt8} (hn : n < 256) (hm : m < 256) (h : numb n ++ x = numb m ++ y) : n = m ∧ x = y := by
  have key : ∀ {d : Nat}, d < 16 → digH d ≠ 125 := fun hd e => by
    have := dig_lo hd; rw [e] at this; simp at this
  unfold numb hexL at h
  by_cases c1 : n < 16 <;> by_cases c2 : m < 16
  · rw [if_pos c1, if_pos c2] at h
    simp at h
    exact ⟨dig_inj c1 c2 h.1, h.2⟩
  · rw [if_pos c1, if_neg c2] at h
    simp at h
    exact absurd h.2.1.symm (key (by omega))
  · rw [if_neg c1, if_pos c2] at h
    simp at h
    exact absurd h.2.1 (key (by omega))
  · rw [if_neg c1, if_neg c2] at h
    simp at h
    have e1 := dig_inj (by omega) (by omega) h.1
    have e2 := dig_inj (by omega) (by omega) h.2.1
    exact ⟨by omega, h.2.2⟩
theorem plain_ne {l r : List UInt8} (h : l ≠ []) (h1 : (Lib.decodeL l).1 ≠ 92) (hs : (txt ⟨l.toArray⟩).sign 0) : ∃ c q, l.take (Lib.decodeL l).2 ++ r = c :: q ∧ c ≠ 92 := by
  have hp := decL_pos l
  cases l with
  | nil => exact absurd rfl h
  | cons c q =>
    obtain ⟨k, hk⟩ : ∃ k, (Lib.decodeL (c :: q)).2 = k + 1 := ⟨(Lib.decodeL (c :: q)).2 - 1, by omega⟩
    rw [hk]
    refine ⟨c, _, rfl, fun e => ?_⟩
    subst e
    have hk := (txt ⟨((92 : UInt8) :: q).toArray⟩).kind 0
    rw [← decodeL_txt] at hk
    have hb := txt_b ((92 : UInt8) :: q) 0
    have hb' : (txt ⟨((92 : UInt8) :: q).toArray⟩).b 0 = 92 := hb
    rw [hb'] at hk
    generalize Lib.decodeL ((92 : UInt8) :: q) = X at hk h1
    cases hk <;> simp at h1 <;> omega
theorem piece_ne (l : List UInt8) (h : l ≠ []) : piece l ≠ [] := by
  cases head_of l h with
  | plain a b c d e =>
    rw [a]; intro h0
    have := congrArg List.length h0
    rw [List.length_take, List.length_nil] at this
    have h1 := decL_pos l; have h2 := decL_le l h
    omega
  | back a b => rw [a]; simp
  | num n a b c d => rw [c]; simp [numb]
theorem show_inj : ∀ (n : Nat) (l m : List UInt8), l.length ≤ n → showL l = showL m → l = m
  | n, l, m, hn, h => by
    by_cases hl : l = []
    · subst hl
      by_cases hm : m = []
      · exact hm.symm
      · rw [showL_nil, showL_step m hm] at h
        exact absurd (List.append_eq_nil_iff.1 h.symm).1 (piece_ne m hm)
    by_cases hm : m = []
    · subst hm
      rw [showL_nil, showL_step l hl] at h
      exact absurd (List.append_eq_nil_iff.1 h).1 (piece_ne l hl)
    have hp := decL_pos l
    have hll := List.length_pos_iff.2 hl
    obtain ⟨k, rfl⟩ : ∃ k, n = k + 1 := ⟨n - 1, by omega⟩
    have ih := show_inj k (l.drop (Lib.decodeL l).2) (m.drop (Lib.decodeL m).2) (by rw [List.length_drop]; omega)
    rw [showL_step l hl, showL_step m hm] at h
    cases head_of l hl with
    | plain a1 b1 c1 d1 e1 =>
      rw [a1] at h
      cases head_of m hm with
      | plain a2 b2 c2 d2 e2 =>
        rw [a2] at h
        have f1 := plain_first (r := showL (l.drop (Lib.decodeL l).2)) hl e1
        have f2 := plain_first (r := showL (m.drop (Lib.decodeL m).2)) hm e2
        rw [h, f2] at f1
        have g1 := decL_le l hl; have g2 := decL_le m hm
        have hi := List.append_inj h (by rw [List.length_take, List.length_take, f1]; rw [f1] at g2; omega)
        have hd := ih hi.2
        rw [← List.take_append_drop (Lib.decodeL l).2 l, ← List.take_append_drop (Lib.decodeL m).2 m, hi.1, hd]
      | back a2 b2 =>
        obtain ⟨c, q, hc, hcn⟩ := plain_ne (r := showL (l.drop (Lib.decodeL l).2)) hl d1 e1
        rw [a2, hc] at h; simp at h; exact absurd h.1 hcn
      | num n2 a2 b2 c2 d2 =>
        obtain ⟨c, q, hc, hcn⟩ := plain_ne (r := showL (l.drop (Lib.decodeL l).2)) hl d1 e1
        rw [c2, hc] at h; simp [numb] at h; exact absurd h.1 hcn
    | back a1 b1 =>
      rw [a1] at h
      cases head_of m hm with
      | plain a2 b2 c2 d2 e2 =>
        obtain ⟨c, q, hc, hcn⟩ := plain_ne (r := showL (m.drop (Lib.decodeL m).2)) hm d2 e2
        rw [a2, hc] at h; simp at h; exact absurd h.1.symm hcn
      | back a2 b2 =>
        rw [a2] at h; simp at h
        rw [b1, b2, ih h]
      | num n2 a2 b2 c2 d2 => rw [c2] at h; simp [numb] at h
    | num n1 a1 b1 c1 d1 =>
      rw [c1] at h
      cases head_of m hm with
      | plain a2 b2 c2 d2 e2 =>
        obtain ⟨c, q, hc, hcn⟩ := plain_ne (r := showL (m.drop (Lib.decodeL m).2)) hm d2 e2
        rw [a2, hc] at h; simp [numb] at h; exact absurd h.1.symm hcn
      | back a2 b2 => rw [a2] at h; simp [numb] at h
      | num n2 a2 b2 c2 d2 =>
        rw [c2] at h
        have hi := numb_inj a1 a2 h
        rw [d1, d2, hi.1, ih hi.2]

end Go.Proofs.YtfjlhfalnciamaaDoor.Utf
