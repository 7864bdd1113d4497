/- The lines of a text, as numbers. -/
import Derived.Test.YtfcdmkfbkkogbaaDoorEditD
import Derived.Test.YtfcdmkfbkkogbaaDoorUtfBackW
namespace Go.Proofs.YtfcdmkfbkkogbaaDoor.Edit
open Go Go.RowKit Go.Proofs.YtfcdmkfbkkogbaaDoor.Utf

/-- How many line ends are among the first bytes. -/
def nl (t : Txt) : Nat → Nat
  | 0 => 0
  | k + 1 => nl t k + if t.b k = 10 then 1 else 0
theorem nl_le (t : Txt) {a b : Nat} (h : a ≤ b) : nl t a ≤ nl t b := by
  obtain ⟨d, rfl⟩ := Nat.exists_eq_add_of_le h
  clear h
  induction d with
  | zero => exact Nat.le_refl _
  | succ d ih => rw [← Nat.add_assoc, nl]; omega
theorem nl_small (t : Txt) (k : Nat) : nl t k ≤ k := by
  induction k with
  | zero => exact Nat.le_refl _
  | succ k ih => unfold nl; split <;> omega
theorem nl_same (t : Txt) {a b : Nat} (h : a ≤ b) (hn : ∀ q, a ≤ q → q < b → t.b q ≠ 10) : nl t b = nl t a := by
  obtain ⟨d, rfl⟩ := Nat.exists_eq_add_of_le h
  clear h
  induction d with
  | zero => rfl
  | succ d ih =>
    rw [← Nat.add_assoc, nl, if_neg (hn _ (by omega) (by omega)), ih (fun q h1 h2 => hn q h1 (by omega))]; rfl
theorem nl_step (t : Txt) {a b q : Nat} (h1 : a ≤ q) (h2 : q < b) (h : t.b q = 10) : nl t a < nl t b := by
  have e : nl t (q + 1) = nl t q + 1 := by rw [nl, if_pos h]
  have := nl_le t h1
  have := nl_le t (show q + 1 ≤ b from h2)
  omega
theorem nl_clear (t : Txt) {a b : Nat} (h : nl t a = nl t b) : ∀ q, a ≤ q → q < b → t.b q ≠ 10 := fun q h1 h2 h3 => by
  have := nl_step t h1 h2 h3; omega

theorem count_take (l : List UInt8) (t : Txt) (h : ∀ i, i < l.length → t.b i = (l.getD i 0).toNat) : ∀ k, k ≤ l.length → (l.take k).count 10 = nl t k := by
  intro k
  induction k with
  | zero => intro _; simp [nl]
  | succ k ih =>
    intro hk
    have hk1 : k < l.length := hk
    have e := h k hk1
    have eg : l.getD k 0 = l[k] := by rw [List.getD_eq_getElem?_getD, List.getElem?_eq_getElem hk1]; rfl
    rw [List.take_add_one, List.getElem?_eq_getElem hk1, Option.toList_some, List.count_append, ih (by omega), nl, e, eg, List.count_singleton]
    congr 1
    by_cases hx : l[k] = 10
    · rw [hx]; rfl
    · rw [if_neg (by simpa using hx)]
      exact (if_neg (fun h2 => hx (UInt8.toNat_inj.1 h2))).symm
theorem lines_ext (s : ByteArray) {k : Nat} (h : k ≤ s.size) : linesN (s.extract 0 k) = nl (txt s) k := by
  unfold linesN Lib.countByte
  rw [ext_list, List.drop_zero, Nat.sub_zero]
  exact count_take _ _ (fun i _ => txt_byte s i) k (by rw [← Lib.size_eq]; exact h)
theorem lines_all (s : ByteArray) : linesN s = nl (txt s) s.size := by
  unfold linesN Lib.countByte
  have := count_take s.data.toList (txt s) (fun i _ => txt_byte s i) s.size (by rw [← Lib.size_eq]; exact Nat.le_refl _)
  rw [List.take_of_length_le (by rw [← Lib.size_eq]; exact Nat.le_refl _)] at this
  exact this

/-- Where a line begins. -/
def Ln (t : Txt) (j g : Nat) : Prop := g ≤ t.n ∧ nl t g = j ∧ (g = 0 ∨ t.b (g - 1) = 10)
theorem Ln.uniq {t : Txt} {j g g' : Nat} (h : Ln t j g) (h' : Ln t j g') : g = g' := by
  have key : ∀ {g g' : Nat}, Ln t j g → Ln t j g' → ¬ g < g' := by
    intro g g' h h' hlt
    rcases h'.2.2 with h0 | h0
    · omega
    · have := nl_step t (show g ≤ g' - 1 by omega) (show g' - 1 < g' by omega) h0
      rw [h.2.1, h'.2.1] at this
      omega
  have h1 := key h h'
  have h2 := key h' h
  omega
theorem Ln.start {t : Txt} {j g : Nat} (h : Ln t j g) : t.start g := by
  rw [t.start_iff]
  intro q hq _
  apply Nat.le_of_not_lt
  intro hw
  rcases h.2.2 with h0 | h0
  · omega
  · by_cases he : q = g - 1
    · have := t.w_lead q (by omega)
      rw [he] at this; omega
    · have := t.w_cont q (g - 1) (by omega) (by omega)
      omega
theorem Ln.zero (t : Txt) : Ln t 0 0 := ⟨Nat.zero_le _, rfl, .inl rfl⟩
theorem bg_ln (s : ByteArray) {k : Nat} (h : k ≤ s.size) : Ln (txt s) (nl (txt s) k) (bgN (s.extract 0 k)) ∧ bgN (s.extract 0 k) ≤ k := by
  have hsz : (s.extract 0 k).size = k := by rw [ext_size s h]; omega
  have hb : ∀ i, i < k → (((s.extract 0 k).data[i]!).toNat : Int) = ((txt s).b i : Nat) := by
    intro i hi
    have e : (s.extract 0 k).get! i = s.get! (0 + i) := ext_byte s (by omega)
    rw [Nat.zero_add] at e
    show ((((s.extract 0 k).get! i).toNat : Nat) : Int) = _
    rw [e]; rfl
  unfold bgN
  rcases Lib.lastIndexByte_spec (s.extract 0 k) 10 with ⟨e, hn⟩ | ⟨i, hi, e, h1, hn⟩
  · rw [e]
    rw [hsz] at hn
    have := nl_same (txt s) (Nat.zero_le k) (fun q _ hq h2 => hn q hq (by rw [hb q hq, h2]; rfl))
    exact ⟨⟨Nat.zero_le _, by rw [this]; rfl, .inl rfl⟩, by simp⟩
  · rw [e]
    rw [hsz] at hi hn
    rw [hb i hi] at h1
    have e2 : ((i : Int) + 1).toNat = i + 1 := by omega
    rw [e2]
    have := nl_same (txt s) (show i + 1 ≤ k from hi) (fun q h0 hq h2 => hn q (by omega) hq (by rw [hb q hq, h2]; rfl))
    exact ⟨⟨Nat.le_trans hi h, this.symm, .inr (by show (txt s).b i = 10; omega)⟩, hi⟩
theorem next_line (s : ByteArray) {j g : Nat} (h : Ln (txt s) j g) (hj : j < linesN s) :
    ∃ q : Nat, Lib.indexByte (s.extract g s.size).data.toList ((10 : Int).toNat.toUInt8) = (q : Int) ∧ Ln (txt s) (j + 1) (g + q + 1) ∧ g + q + 1 ≤ s.size := by
  have hg : g ≤ s.size := h.1
  have hl : ∀ i, g + i < s.size → (s.extract g s.size).data.toList[i]? = some (s.get! (g + i)) := by
    intro i hi
    rw [ext_list, List.getElem?_take_of_lt (by omega), List.getElem?_drop, List.getElem?_eq_getElem (by rw [← Lib.size_eq]; exact hi)]
    congr 1
    rw [← Lib.getD_get!', List.getD_eq_getElem?_getD, List.getElem?_eq_getElem (by rw [← Lib.size_eq]; exact hi)]; rfl
  have hlen : (s.extract g s.size).data.toList.length = s.size - g := by rw [← Lib.size_eq, ext_size s (Nat.le_refl _)]
  have hge := Lib.indexByte_ge (s.extract g s.size).data.toList ((10 : Int).toNat.toUInt8)
  by_cases hm : Lib.indexByte (s.extract g s.size).data.toList ((10 : Int).toNat.toUInt8) = -1
  · have hn := Lib.indexByte_none hm
    rw [lines_all] at hj
    have := nl_same (txt s) hg (fun q h0 hq h2 => by
      obtain ⟨d, rfl⟩ := Nat.exists_eq_add_of_le h0
      refine hn d ?_
      rw [hl d hq]
      congr 1
      exact UInt8.toNat_inj.1 h2)
    rw [h.2.1] at this
    omega
  · obtain ⟨q, hq⟩ := Int.eq_ofNat_of_zero_le (show 0 ≤ Lib.indexByte (s.extract g s.size).data.toList ((10 : Int).toNat.toUInt8) by omega)
    refine ⟨q, hq, ?_⟩
    obtain ⟨h1, h2⟩ := Lib.indexByte_some hq
    have hqlt := (List.getElem?_eq_some_iff.1 h1).1
    rw [hlen] at hqlt
    have hb : (txt s).b (g + q) = 10 := by
      rw [hl q (by omega)] at h1
      have := Option.some.inj h1
      show (s.get! (g + q)).toNat = 10
      rw [this]; rfl
    have hs := nl_same (txt s) (show g ≤ g + q by omega) (fun x h0 hx h3 => by
      obtain ⟨d, rfl⟩ := Nat.exists_eq_add_of_le h0
      refine h2 d (by omega) ?_
      rw [hl d (by omega)]
      congr 1
      exact UInt8.toNat_inj.1 h3)
    refine ⟨⟨by show g + q + 1 ≤ s.size; omega, ?_, .inr hb⟩, by omega⟩
    rw [nl, if_pos hb, hs, h.2.1]
/-- An item that does not begin by a line end holds none. -/
theorem item_clear (t : Txt) {p : Nat} (h : t.b p ≠ 10) : nl t (p + t.w p) = nl t p :=
  nl_same t (Nat.le_add_right _ _) (fun q h1 h2 h3 => by
    by_cases he : q = p
    · exact h (he ▸ h3)
    · have := t.w_cont p q (by omega) h2
      omega)
theorem cnt_between (s : ByteArray) {a b : Nat} (hab : a ≤ b) (hb : (txt s).pos b ≤ s.size) : (txt (s.extract ((txt s).pos a) ((txt s).pos b))).cnt = b - a := by
  have hle : (txt s).pos a ≤ (txt s).pos b := by
    rcases Nat.lt_or_eq_of_le hab with h | h
    · exact Nat.le_of_lt ((txt s).pos_lt h)
    · rw [h]; exact Nat.le_refl _
  obtain ⟨g, hg⟩ : ∃ g, (txt s).pos a = g := ⟨_, rfl⟩
  obtain ⟨p, hp⟩ : ∃ g, (txt s).pos b = g := ⟨_, rfl⟩
  rw [hg, hp] at hle
  rw [hp] at hb
  rw [hg, hp]
  have ej : s.extract 0 p ++ s.extract p s.size = s := by
    rw [ByteArray.extract_append_extract]; simp
  have hJ := txt_append (s.extract 0 p) (s.extract p s.size)
  rw [ej] at hJ
  have hsz : (s.extract 0 p).size = p := by rw [ext_size s hb]; omega
  have hz : (txt (s.extract 0 p)).n = p := hsz
  have hpb := hJ.pos_ahead b (by rw [hp, hz]; exact Nat.le_refl _)
  have hpa := hJ.pos_ahead a (by rw [hg, hz]; exact hle)
  rw [hp] at hpb
  rw [hg] at hpa
  have hc : (txt (s.extract 0 p)).cnt = b := Txt.cnt_of _ (by rw [hpb, hz])
  have ej2 : (s.extract 0 p).extract 0 g ++ (s.extract 0 p).extract g (s.extract 0 p).size = s.extract 0 p := by
    rw [ByteArray.extract_append_extract, Nat.max_eq_right (by rw [hsz]; exact hle), Nat.zero_min]; exact ByteArray.extract_zero_size
  have hJ2 := txt_append ((s.extract 0 p).extract 0 g) ((s.extract 0 p).extract g (s.extract 0 p).size)
  rw [ej2] at hJ2
  have hz2 : (txt ((s.extract 0 p).extract 0 g)).n = g := by
    show ((s.extract 0 p).extract 0 g).size = g
    rw [ext_size _ (by rw [hsz]; exact hle)]; omega
  have h2 := hJ2.cnt_yes ⟨a, by rw [hpa, hz2]⟩
  have ha : (txt ((s.extract 0 p).extract 0 g)).cnt = a := by
    refine Txt.cnt_of _ ?_
    rw [hJ2.pos_ahead a (by rw [hpa, hz2]; exact Nat.le_refl _), hpa, hz2]
  have ee : (s.extract 0 p).extract g (s.extract 0 p).size = s.extract g p := by
    rw [ByteArray.extract_extract, hsz]; simp
  rw [ee, ha, hc] at h2
  omega
theorem col_of (s : ByteArray) {j g a b : Nat} (h : Ln (txt s) j g) (ha : (txt s).pos a = g) (hab : a ≤ b) (hb : (txt s).pos b ≤ s.size) (hn : nl (txt s) ((txt s).pos b) = j) : colN (s.extract 0 ((txt s).pos b)) = b - a ∧ bgN (s.extract 0 ((txt s).pos b)) = g := by
  have h1 := (bg_ln s hb).1
  rw [hn] at h1
  have e := h1.uniq h
  refine ⟨?_, e⟩
  unfold colN
  rw [e, ← ha, ByteArray.extract_extract, ext_size s hb, Nat.sub_zero, Nat.zero_add, Nat.zero_add, Nat.min_self]
  exact cnt_between s hab hb

end Go.Proofs.YtfcdmkfbkkogbaaDoor.Edit
