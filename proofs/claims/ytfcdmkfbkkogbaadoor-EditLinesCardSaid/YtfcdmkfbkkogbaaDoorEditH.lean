/- The end of a line, as a number. -/
import Derived.Test.YtfcdmkfbkkogbaaDoorEditG
namespace Go.Proofs.YtfcdmkfbkkogbaaDoor.Edit
open Go Go.RowKit Go.Proofs.YtfcdmkfbkkogbaaDoor.Utf

/-- Where a line ends. -/
def En (t : Txt) (j e : Nat) : Prop := e ≤ t.n ∧ nl t e = j ∧ (e = t.n ∨ t.b e = 10)
theorem En.ge {t : Txt} {j e p : Nat} (h : En t j e) (hp : p ≤ t.n) (hn : nl t p = j) : p ≤ e := by
  apply Nat.le_of_not_lt
  intro hlt
  rcases h.2.2 with h0 | h0
  · omega
  · have := nl_step t (Nat.le_refl e) hlt h0
    rw [h.2.1, hn] at this; omega
theorem En.uniq {t : Txt} {j e e' : Nat} (h : En t j e) (h' : En t j e') : e = e' := Nat.le_antisymm (h'.ge h.1 h.2.1) (h.ge h'.1 h'.2.1)
theorem En.start {t : Txt} {j e : Nat} (h : En t j e) : t.start e := by
  rcases h.2.2 with h0 | h0
  · exact ⟨t.cnt, by rw [t.pos_cnt, h0]⟩
  · rw [t.start_iff]
    intro q hq _
    apply Nat.le_of_not_lt
    intro hw
    have := t.w_cont q e hq hw
    omega
theorem En.of_next {t : Txt} {j g : Nat} (h : Ln t (j + 1) g) : ∃ e, g = e + 1 ∧ En t j e := by
  cases g with
  | zero => have := h.2.1; simp [nl] at this
  | succ e =>
    refine ⟨e, rfl, ?_⟩
    have hb : t.b e = 10 := by
      rcases h.2.2 with h0 | h0
      · omega
      · exact h0
    have h1 := h.1
    have h2 := h.2.1
    rw [nl, if_pos hb] at h2
    exact ⟨by omega, by omega, .inr hb⟩
theorem pos_inj {t : Txt} {a b : Nat} (h : t.pos a ≤ t.pos b) : a ≤ b := by
  apply Nat.le_of_not_lt
  intro h2
  have := t.pos_lt h2
  omega
theorem line_span {t : Txt} {j g e a : Nat} (hl : Ln t j g) (he : En t j e) (ha : t.pos a = g) : ∃ b, t.pos b = e ∧ a ≤ b := by
  obtain ⟨b, hb⟩ := he.start
  exact ⟨b, hb, pos_inj (by rw [ha, hb]; exact he.ge hl.1 hl.2.1)⟩
theorem ln_le {t : Txt} {j g p : Nat} (h : Ln t j g) : g ≤ p ↔ j ≤ nl t p := by
  constructor
  · intro hp
    rw [← h.2.1]; exact nl_le t hp
  · intro hp
    apply Nat.le_of_not_lt
    intro hlt
    rcases h.2.2 with h0 | h0
    · omega
    · have := nl_step t (show p ≤ g - 1 by omega) (show g - 1 < g by omega) h0
      rw [h.2.1] at this; omega
/-- The line ends of a text are told by its list of beginnings. -/
theorem begs_get (s : ByteArray) {j : Nat} (h : j ≤ nl (txt s) s.size) : ∃ g, (begs (txt s) s.size)[j]? = some g ∧ Ln (txt s) j g ∧ g ≤ s.size := by
  have hl := begs_len (txt s) s.size
  have hj : j < (begs (txt s) s.size).length := by omega
  have := begs_ln (txt s) s.size (Nat.le_refl _) j _ (List.getElem?_eq_getElem hj)
  exact ⟨_, List.getElem?_eq_getElem hj, this.1, this.2⟩
theorem line_facts (s : ByteArray) {j : Nat} (h : j ≤ nl (txt s) s.size) : ∃ g e a m : Nat, (begs (txt s) s.size)[j]? = some g ∧ Ln (txt s) j g ∧ En (txt s) j e ∧ (txt s).pos a = g ∧ (txt s).pos (a + m) = e ∧ g ≤ e ∧ e ≤ s.size ∧
    (txt (s.extract g e)).cnt = m ∧ (j < nl (txt s) s.size → (begs (txt s) s.size)[j + 1]? = some (e + 1)) ∧ (¬ j < nl (txt s) s.size → e = s.size) := by
  obtain ⟨g, hg, hl, -⟩ := begs_get s h
  obtain ⟨a, ha⟩ := hl.start
  have key : ∃ e, En (txt s) j e ∧ (j < nl (txt s) s.size → (begs (txt s) s.size)[j + 1]? = some (e + 1)) ∧ (¬ j < nl (txt s) s.size → e = s.size) := by
    by_cases hj : j < nl (txt s) s.size
    · obtain ⟨g2, h1, h2, -⟩ := begs_get s (show j + 1 ≤ nl (txt s) s.size from hj)
      obtain ⟨e, rfl, he⟩ := En.of_next h2
      exact ⟨e, he, fun _ => h1, fun h => absurd hj h⟩
    · exact ⟨s.size, ⟨Nat.le_refl _, by omega, .inl rfl⟩, fun h => absurd h hj, fun _ => rfl⟩
  obtain ⟨e, he, k1, k2⟩ := key
  obtain ⟨b, hb, hab⟩ := line_span hl he ha
  have hes : e ≤ s.size := he.1
  have hc := cnt_between s hab (by rw [hb]; exact hes)
  rw [ha, hb] at hc
  refine ⟨g, e, a, b - a, hg, hl, he, ha, ?_, he.ge hl.1 hl.2.1, hes, hc, k1, k2⟩
  rw [show a + (b - a) = b by omega]; exact hb
/-- A place in a line, and its end. -/
theorem within_facts (s : ByteArray) {j g e a m k p : Nat} (hl : Ln (txt s) j g) (he : En (txt s) j e) (ha : (txt s).pos a = g) (hb : (txt s).pos (a + m) = e) (h : Within (txt s) j k p) :
    g ≤ p ∧ p ≤ e ∧ k ≤ m ∧ (txt (s.extract g p)).cnt = k ∧ caretB (txt s) (p : Int) = true ∧ (p = s.size ∨ (txt s).b p = 10 → k = m) := by
  obtain ⟨⟨g', a', hl', ha', hp⟩, hle, hn⟩ := h
  have hps : p ≤ s.size := hle
  obtain rfl := hl'.uniq hl
  have haa : a = a' := Nat.le_antisymm (pos_inj (by rw [ha, ha']; exact Nat.le_refl _)) (pos_inj (by rw [ha, ha']; exact Nat.le_refl _))
  subst haa
  have hpe := he.ge hle hn
  have hkm : k ≤ m := by
    have := pos_inj (t := txt s) (a := a + k) (b := a + m) (by rw [hp, hb]; exact hpe)
    omega
  have hc := cnt_between s (Nat.le_add_right a k) (by rw [hp]; exact hps)
  rw [ha, hp, Nat.add_sub_cancel_left] at hc
  refine ⟨?_, hpe, hkm, hc, (caret_iff (txt s) p).2 ⟨hle, a + k, hp⟩, fun hstop => ?_⟩
  · rw [← ha, ← hp]
    rcases Nat.eq_zero_or_pos k with h0 | h0
    · subst h0; exact Nat.le_refl _
    · exact Nat.le_of_lt ((txt s).pos_lt (by omega))
  · have := En.uniq ⟨hle, hn, hstop⟩ he
    subst this
    have := pos_inj (t := txt s) (a := a + m) (b := a + k) (by rw [hp, hb]; exact Nat.le_refl _)
    omega

end Go.Proofs.YtfcdmkfbkkogbaaDoor.Edit
