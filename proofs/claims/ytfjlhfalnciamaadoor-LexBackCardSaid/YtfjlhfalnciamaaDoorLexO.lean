/- What Quote tells is read as it: texts: plain maths. -/
import Derived.Test.YtfjlhfalnciamaaDoorLexN
namespace Go.Proofs.YtfjlhfalnciamaaDoor.Lex
open Go Go.RowKit Go.Proofs.Chars
open Go.Proofs.YtfjlhfalnciamaaDoor.Utf Go.Proofs.YtfjlhfalnciamaaDoor.Chars

theorem until_run {b : Nat → Nat} {n : Nat} : ∀ (t : List UInt8) (f p : Nat), (∀ i x, t[i]? = some x → b (p + i) = x.toNat) → p + t.length ≤ n → (∀ x ∈ t, x ≠ 39 ∧ x ≠ 92) → t.length ≤ f → untilE b n 39 f p = untilE b n 39 (f - t.length) (p + t.length)
  | [], f, p, _, _, _, _ => by simp
  | x :: t, f, p, hb, hn, hx, hf => by
    simp only [List.length_cons] at hn hf
    obtain ⟨f, rfl⟩ : ∃ g, f = g + 1 := ⟨f - 1, by omega⟩
    have h0 := hb 0 x rfl
    rw [Nat.add_zero] at h0
    have hxx := hx x List.mem_cons_self
    have n1 : b p ≠ 39 := fun e => hxx.1 (UInt8.toNat_inj.1 (by rw [← h0, e]; rfl))
    have n2 : b p ≠ 92 := fun e => hxx.2 (UInt8.toNat_inj.1 (by rw [← h0, e]; rfl))
    rw [untilE, if_pos (by omega), if_neg n1, if_neg n2]
    rw [until_run t f (p + 1) (fun i y hy => by rw [show p + 1 + i = p + (i + 1) by omega]; exact hb (i + 1) y hy) (by omega) (fun y hy => hx y (List.mem_cons_of_mem _ hy)) (by omega)]
    rw [show f + 1 - (x :: t).length = f - t.length by simp, show p + (x :: t).length = p + 1 + t.length by simp; omega]
theorem enc_safe (n : Nat) (h39 : n ≠ 39) (h92 : n ≠ 92) : ∀ x ∈ (encB (n : Int)).data.toList, x ≠ 39 ∧ x ≠ 92 := fun x hx => by
  have hm : x.toNat ∈ encN n := by rw [← encB_nat]; exact List.mem_map_of_mem hx
  have key : x.toNat ≠ 39 ∧ x.toNat ≠ 92 := by
    unfold encN at hm
    split at hm
    · cases hm
    split at hm
    · simp at hm; omega
    split at hm
    · simp at hm; omega
    split at hm
    · simp at hm; omega
    · simp at hm; omega
  exact ⟨fun e => key.1 (by rw [e]; rfl), fun e => key.2 (by rw [e]; rfl)⟩
theorem until_sign {X : ByteArray} {p f n : Nat} (hv : Lib.validRune (n : Int) = true) (h : Stands X p (sign1 (n : Int))) (hf : (sign1 (n : Int)).length ≤ f) :
    ∃ f', f - (sign1 (n : Int)).length ≤ f' ∧ untilE (txt X).b X.size 39 f p = untilE (txt X).b X.size 39 f' (p + (sign1 (n : Int)).length) := by
  rcases sign1_form n hv with ⟨hs, h10, h92, h39⟩ | ⟨c, tl, hs, htl, _⟩
  · rw [hs] at h hf ⊢
    exact ⟨_, Nat.le_refl _, until_run _ f p h.2 h.1 (enc_safe n h39 h92) hf⟩
  · rw [hs] at h hf ⊢
    simp only [List.length_cons] at hf ⊢
    have hl := h.1
    simp only [List.length_cons] at hl
    obtain ⟨f, rfl⟩ : ∃ g, f = g + 1 := ⟨f - 1, by omega⟩
    have h0 := h.2 0 92 rfl
    rw [Nat.add_zero] at h0
    have e92 : (txt X).b p = 92 := h0
    refine ⟨f - tl.length, by omega, ?_⟩
    rw [untilE, if_pos (by omega), if_neg (by rw [e92]; omega), if_pos e92]
    rw [until_run tl f (p + 2) (fun i y hy => by rw [show p + 2 + i = p + (i + 1 + 1) by omega]; exact h.2 (i + 1 + 1) y hy) (by omega) htl (by omega)]
    rw [show p + 2 + tl.length = p + (tl.length + 1 + 1) by omega]
theorem stands_list {s : ByteArray} {k : Nat} {t : List UInt8} (h : Stands s k t) : (s.extract k (k + t.length)).data.toList = t := by
  apply List.ext_getElem?
  intro i
  rw [ext_list, show k + t.length - k = t.length by omega]
  by_cases hi : i < t.length
  · obtain ⟨x, hx⟩ : ∃ x, t[i]? = some x := ⟨t[i], List.getElem?_eq_getElem hi⟩
    have hb := h.2 i x hx
    have hl := h.1
    rw [List.getElem?_take_of_lt hi, List.getElem?_drop, hx]
    have hlt : k + i < s.data.toList.length := by rw [← Lib.size_eq]; omega
    rw [List.getElem?_eq_getElem hlt]
    congr 1
    apply UInt8.toNat_inj.1
    rw [← hb]
    show _ = (s.get! (k + i)).toNat
    rw [← Lib.getD_get!', List.getD_eq_getElem?_getD, List.getElem?_eq_getElem hlt]
    rfl
  · rw [List.getElem?_eq_none (by rw [List.length_take]; omega), List.getElem?_eq_none (by omega)]
theorem ext_in {s : ByteArray} {k z i : Nat} (h : k + i < z) : (txt (s.extract k z)).b i = (txt s).b (k + i) := by
  show ((s.extract k z).get! i).toNat = (s.get! (k + i)).toNat
  rw [ext_byte s h]
theorem lit_sign {X : ByteArray} {z p f n : Nat} {l : List UInt8} (hv : Lib.validRune (n : Int) = true) (h : Stands X p (sign1 (n : Int))) (hz : p + (sign1 (n : Int)).length ≤ z) (hzx : z ≤ X.size) (hpz : p < z) :
    litGo X z (f + 1) p l = litGo X z f (p + (sign1 (n : Int)).length) (l ++ (encB (n : Int)).data.toList) := by
  rcases sign1_form n hv with ⟨hs, h10, h92, h39⟩ | ⟨c, tl, hs, htl, hesc⟩
  · rw [hs] at h hz ⊢
    have hnat := encB_nat n
    have hlen : (encN n).length = (encB (n : Int)).data.toList.length := by rw [← hnat, List.length_map]
    have hne : encN n ≠ [] := by
      have := (encB_size (n : Int) hv).1
      rw [Lib.size_eq, ← hlen] at this
      intro e
      rw [e] at this
      simp at this
    have hd := (txt X).enc p n hne (by rw [hlen]; exact h.1) (fun j x hx => by
      rw [← hnat, List.getElem?_map, Option.map_eq_some_iff] at hx
      obtain ⟨c, hc, rfl⟩ := hx
      exact h.2 j c hc)
    have hr : (txt X).r p = n := by unfold Txt.r; rw [hd]
    have hw : (txt X).w p = (encN n).length := by unfold Txt.w; rw [hd]
    have hok : (txt X).ok p = true := by
      unfold Txt.ok
      rw [hr, hw]
      by_cases h1 : n = 65533
      · subst h1; decide
      · simp [h1]
    rw [litGo, if_pos hpz, hok, hr, hw, if_neg (by rintro (e | e); cases e; omega), if_pos h92, hlen, stands_list h]
  · have hl := h.1
    rw [hs] at h hz hl ⊢
    simp only [List.length_cons] at hz hl
    have h0 := h.2 0 92 rfl
    rw [Nat.add_zero] at h0
    have hd := dc_ascii h0 (by decide)
    have hr : (txt X).r p = 92 := by unfold Txt.r; rw [hd]; rfl
    have hok : (txt X).ok p = true := by unfold Txt.ok Txt.r Txt.w; rw [hd]; rfl
    have hsz := ext_size X (i := p + 1) (j := z) hzx
    have he := hesc (txt (X.extract (p + 1) z)).b (X.extract (p + 1) z).size (fun i x hx => by
      have hi := (List.getElem?_eq_some_iff.1 hx).1
      simp only [List.length_cons] at hi
      rw [ext_in (by omega)]
      have := h.2 (i + 1) x hx
      rw [show p + 1 + i = p + (i + 1) by omega]
      exact this) (by rw [hsz]; simp only [List.length_cons]; omega)
    rw [litGo, if_pos hpz, hok, hr, if_neg (by rintro (e | e); cases e; omega), if_neg (by omega)]
    simp only [he]
    simp only [List.length_cons]
    rw [show p + 1 + (tl.length + 1) = p + (tl.length + 1 + 1) by omega]

end Go.Proofs.YtfjlhfalnciamaaDoor.Lex
