/- Package texts, merged: LexN, LexO, LexP, LexQ. -/
import Derived.Test.YtfjlhfalnciamaaDoorMLexJ
import Derived.Test.YtfjlhfalnciamaaDoorMBackA
import Derived.Lib.MapLaws

namespace Go.Proofs.YtfjlhfalnciamaaDoor.Lex
open Go Go.RowKit Go.Proofs.Chars
open Go.Proofs.YtfjlhfalnciamaaDoor.Utf Go.Proofs.YtfjlhfalnciamaaDoor.Chars

def sign1 (r : Int) : List UInt8 := (signB r esc1).data.toList
theorem contains1 (n : Nat) (hv : Lib.validRune (n : Int) = true) : Lib.contains esc1.data.toList (encB (n : Int)).data.toList = true ↔ n = 39 := by
  by_cases h : n < 128
  · have key : ∀ m : Fin 128, Lib.contains esc1.data.toList (encB ((m.val : Nat) : Int)).data.toList = decide (m.val = 39) := by decide +kernel
    have := key ⟨n, h⟩
    rw [this, decide_eq_true_iff]
  · have hnat := encB_nat n
    have hvi := (valid_iff _).1 hv
    obtain ⟨c, t, hct, hc⟩ : ∃ c t, (encB (n : Int)).data.toList = c :: t ∧ 192 ≤ c.toNat := by
      cases hl : (encB (n : Int)).data.toList with
      | nil =>
        have := (encB_size (n : Int) hv).1
        rw [Lib.size_eq, hl] at this
        simp at this
      | cons c t =>
        refine ⟨c, t, rfl, ?_⟩
        rw [hl] at hnat
        simp only [List.map_cons] at hnat
        unfold encN at hnat
        rw [if_neg (by omega), if_neg h] at hnat
        split at hnat
        · injection hnat with h1 _; omega
        · split at hnat
          · injection hnat with h1 _; omega
          · injection hnat with h1 _; omega
    rw [hct]
    have n1 : (c == 39) = false := by rw [beq_eq_false_iff_ne]; intro e; subst e; simp at hc
    constructor
    · intro hh
      simp [Lib.contains, Lib.index, esc1, List.isPrefixOf, n1] at hh
    · intro hh; omega

/-- A sign's piece: its own bytes, or what stands behind a backslash. -/
theorem sign1_form (n : Nat) (hv : Lib.validRune (n : Int) = true) :
    (sign1 (n : Int) = (encB (n : Int)).data.toList ∧ n ≠ 10 ∧ n ≠ 92 ∧ n ≠ 39) ∨
    (∃ c tl, sign1 (n : Int) = 92 :: c :: tl ∧ (∀ x ∈ tl, x ≠ 39 ∧ x ≠ 92) ∧ ∀ (b : Nat → Nat) (m : Nat), (∀ i x, (c :: tl)[i]? = some x → b i = x.toNat) → (c :: tl).length ≤ m → escE b m = some ((n : Int), (c :: tl).length)) := by
  have hsg : sign1 (n : Int) = (signB (n : Int) esc1).data.toList := rfl
  have one : ∀ c : Nat, c < 256 → sign1 (n : Int) = [92, UInt8.ofNat c] → (∀ (b : Nat → Nat) (m : Nat), m ≠ 0 → b 0 = c → escE b m = some ((n : Int), 1)) →
      (∃ c tl, sign1 (n : Int) = 92 :: c :: tl ∧ (∀ x ∈ tl, x ≠ 39 ∧ x ≠ 92) ∧ ∀ (b : Nat → Nat) (m : Nat), (∀ i x, (c :: tl)[i]? = some x → b i = x.toNat) → (c :: tl).length ≤ m → escE b m = some ((n : Int), (c :: tl).length)) := fun c hc hs he =>
    ⟨UInt8.ofNat c, [], hs, by simp, fun b m hb hm => he b m (by simp at hm; omega) (by rw [hb 0 _ rfl, UInt8.toNat_ofNat']; omega)⟩
  unfold signB at hsg
  split at hsg
  · rename_i e
    exact .inr (one 110 (by omega) hsg fun b m hm hb => by unfold escE; rw [if_neg hm, if_pos hb]; rw [e])
  split at hsg
  · rename_i e
    exact .inr (one 116 (by omega) hsg fun b m hm hb => by unfold escE; rw [if_neg hm, if_neg (by omega), if_pos hb]; rw [e])
  split at hsg
  · rename_i e
    exact .inr (one 114 (by omega) hsg fun b m hm hb => by unfold escE; rw [if_neg hm, if_neg (by omega), if_neg (by omega), if_pos hb]; rw [e])
  split at hsg
  · rename_i hcase
    have hn : n = 92 ∨ n = 39 := by
      rcases hcase with e | e
      · left; omega
      · right; exact (contains1 n hv).1 e
    have hs2 : sign1 (n : Int) = [92, UInt8.ofNat n] := by
      rw [hsg]
      rcases hn with rfl | rfl <;> decide +kernel
    exact .inr (one n (by omega) hs2 fun b m hm hb => by
      unfold escE
      rw [if_neg hm, if_neg (by omega), if_neg (by omega), if_neg (by omega), if_pos (by omega), hb])
  split at hsg
  · rename_i h1 h2 h3 h4 h5
    exact .inl ⟨hsg, by omega, fun e => h4 (.inl (by omega)), fun e => h4 (.inr ((contains1 n hv).2 e))⟩
  · rename_i h1 h2 h3 h4 h5
    have hn : n < 256 := by omega
    have hs2 : sign1 (n : Int) = 92 :: 117 :: ([123] ++ (hexL n ++ [125])) := by
      rw [hsg, Int.toNat_natCast]
      simp
    have hhex : ∀ x ∈ hexL n, x ≠ 39 ∧ x ≠ 92 := by
      have key : ∀ m : Fin 256, ∀ x ∈ hexL m.val, x ≠ 39 ∧ x ≠ 92 := by decide +kernel
      exact key ⟨n, hn⟩
    refine .inr ⟨117, [123] ++ (hexL n ++ [125]), hs2, fun x hx => ?_, fun b m hb hm => ?_⟩
    · simp at hx
      rcases hx with rfl | hx | rfl
      · decide
      · exact hhex x hx
      · decide
    · have b0 : b 0 = 117 := hb 0 117 rfl
      have b1 : b 1 = 123 := hb 1 123 rfl
      have hx : ∀ i x, (hexL n)[i]? = some x → b (2 + i) = x.toNat := fun i x hx => hb (2 + i) x (by
        rw [show 2 + i = (i + 1) + 1 by omega, List.getElem?_cons_succ]
        rw [List.singleton_append, List.getElem?_cons_succ, List.getElem?_append_left (List.getElem?_eq_some_iff.1 hx).1]
        exact hx)
      have hy : b (2 + (hexL n).length) = 125 := hb (2 + (hexL n).length) 125 (by
        rw [show 2 + (hexL n).length = ((hexL n).length + 1) + 1 by omega, List.getElem?_cons_succ]
        rw [List.singleton_append, List.getElem?_cons_succ, List.getElem?_append_right (Nat.le_refl _), Nat.sub_self]
        rfl)
      have hl : (117 :: ([123] ++ (hexL n ++ [125])) : List UInt8).length = (hexL n).length + 3 := by simp
      rw [hl] at hm ⊢
      have hg := hex_read hn hx hy (n := m) (by omega)
      have hlen : 1 ≤ (hexL n).length := by unfold hexL; split <;> simp
      unfold escE
      rw [if_neg (by omega), b0, if_neg (by omega), if_neg (by omega), if_neg (by omega), if_neg (by omega), if_pos rfl]
      unfold numE
      rw [hg]
      simp only []
      rw [if_neg (by rw [b1]; omega), if_neg (by rw [hy]; omega), if_pos hv]
      simp
      omega

end Go.Proofs.YtfjlhfalnciamaaDoor.Lex

namespace Go.Proofs.YtfjlhfalnciamaaDoor.Lex
open Go Go.RowKit Go.Proofs.Chars
open Go.Proofs.YtfjlhfalnciamaaDoor.Utf Go.Proofs.YtfjlhfalnciamaaDoor.Chars

theorem until_run {b : Nat → Nat} {n : Nat} : ∀ (t : List UInt8) (f p : Nat), (∀ i x, t[i]? = some x → b (p + i) = x.toNat) → p + t.length ≤ n → (∀ x ∈ t, x ≠ 39 ∧ x ≠ 92) → t.length ≤ f → untilE b n 39 f p = untilE b n 39 (f - t.length) (p + t.length)
  | [], f, p, _, _, _, _ => by simp
  | x :: t, f, p, hb, hn, hx, hf => by
    simp only [List.length_cons] at hn hf
    obtain ⟨f, rfl⟩ : ∃ g, f = g + 1 := ⟨f - 1, by omega⟩
    have h0 := hb 0 x rfl
    rw [Nat.add_zero] at h0
    have hxx := hx x List.mem_cons_self
    have n1 : b p ≠ 39 := fun e => hxx.1 (UInt8.toNat_inj.1 (by rw [← h0, e]; rfl))
    have n2 : b p ≠ 92 := fun e => hxx.2 (UInt8.toNat_inj.1 (by rw [← h0, e]; rfl))
    rw [untilE, if_pos (by omega), if_neg n1, if_neg n2]
    rw [until_run t f (p + 1) (fun i y hy => by rw [show p + 1 + i = p + (i + 1) by omega]; exact hb (i + 1) y hy) (by omega) (fun y hy => hx y (List.mem_cons_of_mem _ hy)) (by omega)]
    rw [show f + 1 - (x :: t).length = f - t.length by simp, show p + (x :: t).length = p + 1 + t.length by simp; omega]
theorem enc_safe (n : Nat) (h39 : n ≠ 39) (h92 : n ≠ 92) : ∀ x ∈ (encB (n : Int)).data.toList, x ≠ 39 ∧ x ≠ 92 := fun x hx => by
  have hm : x.toNat ∈ encN n := by rw [← encB_nat]; exact List.mem_map_of_mem hx
  have key : x.toNat ≠ 39 ∧ x.toNat ≠ 92 := by
    unfold encN at hm
    split at hm
    · cases hm
    split at hm
    · simp at hm; omega
    split at hm
    · simp at hm; omega
    split at hm
    · simp at hm; omega
    · simp at hm; omega
  exact ⟨fun e => key.1 (by rw [e]; rfl), fun e => key.2 (by rw [e]; rfl)⟩
theorem until_sign {X : ByteArray} {p f n : Nat} (hv : Lib.validRune (n : Int) = true) (h : Stands X p (sign1 (n : Int))) (hf : (sign1 (n : Int)).length ≤ f) :
    ∃ f', f - (sign1 (n : Int)).length ≤ f' ∧ untilE (txt X).b X.size 39 f p = untilE (txt X).b X.size 39 f' (p + (sign1 (n : Int)).length) := by
  rcases sign1_form n hv with ⟨hs, h10, h92, h39⟩ | ⟨c, tl, hs, htl, _⟩
  · rw [hs] at h hf ⊢
    exact ⟨_, Nat.le_refl _, until_run _ f p h.2 h.1 (enc_safe n h39 h92) hf⟩
  · rw [hs] at h hf ⊢
    simp only [List.length_cons] at hf ⊢
    have hl := h.1
    simp only [List.length_cons] at hl
    obtain ⟨f, rfl⟩ : ∃ g, f = g + 1 := ⟨f - 1, by omega⟩
    have h0 := h.2 0 92 rfl
    rw [Nat.add_zero] at h0
    have e92 : (txt X).b p = 92 := h0
    refine ⟨f - tl.length, by omega, ?_⟩
    rw [untilE, if_pos (by omega), if_neg (by rw [e92]; omega), if_pos e92]
    rw [until_run tl f (p + 2) (fun i y hy => by rw [show p + 2 + i = p + (i + 1 + 1) by omega]; exact h.2 (i + 1 + 1) y hy) (by omega) htl (by omega)]
    rw [show p + 2 + tl.length = p + (tl.length + 1 + 1) by omega]
theorem stands_list {s : ByteArray} {k : Nat} {t : List UInt8} (h : Stands s k t) : (s.extract k (k + t.length)).data.toList = t := by
  apply List.ext_getElem?
  intro i
  rw [ext_list, show k + t.length - k = t.length by omega]
  by_cases hi : i < t.length
  · obtain ⟨x, hx⟩ : ∃ x, t[i]? = some x := ⟨t[i], List.getElem?_eq_getElem hi⟩
    have hb := h.2 i x hx
    have hl := h.1
    rw [List.getElem?_take_of_lt hi, List.getElem?_drop, hx]
    have hlt : k + i < s.data.toList.length := by rw [← Lib.size_eq]; omega
    rw [List.getElem?_eq_getElem hlt]
    congr 1
    apply UInt8.toNat_inj.1
    rw [← hb]
    show _ = (s.get! (k + i)).toNat
    rw [← Lib.getD_get!', List.getD_eq_getElem?_getD, List.getElem?_eq_getElem hlt]
    rfl
  · rw [List.getElem?_eq_none (by rw [List.length_take]; omega), List.getElem?_eq_none (by omega)]
theorem ext_in {s : ByteArray} {k z i : Nat} (h : k + i < z) : (txt (s.extract k z)).b i = (txt s).b (k + i) := by
  show ((s.extract k z).get! i).toNat = (s.get! (k + i)).toNat
  rw [ext_byte s h]
theorem lit_sign {X : ByteArray} {z p f n : Nat} {l : List UInt8} (hv : Lib.validRune (n : Int) = true) (h : Stands X p (sign1 (n : Int))) (hz : p + (sign1 (n : Int)).length ≤ z) (hzx : z ≤ X.size) (hpz : p < z) :
    litGo X z (f + 1) p l = litGo X z f (p + (sign1 (n : Int)).length) (l ++ (encB (n : Int)).data.toList) := by
  rcases sign1_form n hv with ⟨hs, h10, h92, h39⟩ | ⟨c, tl, hs, htl, hesc⟩
  · rw [hs] at h hz ⊢
    have hnat := encB_nat n
    have hlen : (encN n).length = (encB (n : Int)).data.toList.length := by rw [← hnat, List.length_map]
    have hne : encN n ≠ [] := by
      have := (encB_size (n : Int) hv).1
      rw [Lib.size_eq, ← hlen] at this
      intro e
      rw [e] at this
      simp at this
    have hd := (txt X).enc p n hne (by rw [hlen]; exact h.1) (fun j x hx => by
      rw [← hnat, List.getElem?_map, Option.map_eq_some_iff] at hx
      obtain ⟨c, hc, rfl⟩ := hx
      exact h.2 j c hc)
    have hr : (txt X).r p = n := by unfold Txt.r; rw [hd]
    have hw : (txt X).w p = (encN n).length := by unfold Txt.w; rw [hd]
    have hok : (txt X).ok p = true := by
      unfold Txt.ok
      rw [hr, hw]
      by_cases h1 : n = 65533
      · subst h1; decide
      · simp [h1]
    rw [litGo, if_pos hpz, hok, hr, hw, if_neg (by rintro (e | e); cases e; omega), if_pos h92, hlen, stands_list h]
  · have hl := h.1
    rw [hs] at h hz hl ⊢
    simp only [List.length_cons] at hz hl
    have h0 := h.2 0 92 rfl
    rw [Nat.add_zero] at h0
    have hd := dc_ascii h0 (by decide)
    have hr : (txt X).r p = 92 := by unfold Txt.r; rw [hd]; rfl
    have hok : (txt X).ok p = true := by unfold Txt.ok Txt.r Txt.w; rw [hd]; rfl
    have hsz := ext_size X (i := p + 1) (j := z) hzx
    have he := hesc (txt (X.extract (p + 1) z)).b (X.extract (p + 1) z).size (fun i x hx => by
      have hi := (List.getElem?_eq_some_iff.1 hx).1
      simp only [List.length_cons] at hi
      rw [ext_in (by omega)]
      have := h.2 (i + 1) x hx
      rw [show p + 1 + i = p + (i + 1) by omega]
      exact this) (by rw [hsz]; simp only [List.length_cons]; omega)
    rw [litGo, if_pos hpz, hok, hr, if_neg (by rintro (e | e); cases e; omega), if_neg (by omega)]
    simp only [he]
    simp only [List.length_cons]
    rw [show p + 1 + (tl.length + 1) = p + (tl.length + 1 + 1) by omega]

end Go.Proofs.YtfjlhfalnciamaaDoor.Lex

namespace Go.Proofs.YtfjlhfalnciamaaDoor.Lex
open Go Go.RowKit Go.Proofs.Chars
open Go.Proofs.YtfjlhfalnciamaaDoor.Utf Go.Proofs.YtfjlhfalnciamaaDoor.Chars

def encs (L : List Items.It) : List UInt8 := L.flatMap fun x => (encB (x.r : Int)).data.toList
def pieces1 (L : List Items.It) : List UInt8 := L.flatMap fun x => sign1 (x.r : Int)
theorem pieces_is : ∀ (L : List Items.It), (∀ x ∈ L, x.o = true) → quoteL L = pieces1 L
  | [], _ => rfl
  | x :: L, h => by
    rw [quoteL, if_pos (h x List.mem_cons_self), pieces_is L fun y hy => h y (List.mem_cons_of_mem _ hy)]
    simp [pieces1, sign1]
theorem sign1_pos (n : Nat) (hv : Lib.validRune (n : Int) = true) : 1 ≤ (sign1 (n : Int)).length := by
  rcases sign1_form n hv with ⟨hs, _⟩ | ⟨c, tl, hs, _⟩
  · rw [hs, ← Lib.size_eq]; exact (encB_size _ hv).1
  · rw [hs]; simp
theorem until_all {X : ByteArray} : ∀ (L : List Items.It) (f p : Nat), (∀ x ∈ L, Lib.validRune (x.r : Int) = true) → Stands X p (pieces1 L ++ [39]) → (pieces1 L).length < f → untilE (txt X).b X.size 39 f p = some (p + (pieces1 L).length)
  | [], f, p, _, h, hf => by
    have e : pieces1 [] = [] := rfl
    rw [e, List.nil_append] at h
    rw [e] at hf ⊢
    obtain ⟨f, rfl⟩ : ∃ g, f = g + 1 := ⟨f - 1, by simp at hf; omega⟩
    have h0 := stands_first h
    rw [untilE, if_pos h0.2, if_pos (show (txt X).b p = 39 from h0.1)]
    rfl
  | x :: L, f, p, hv, h, hf => by
    have e : pieces1 (x :: L) = sign1 (x.r : Int) ++ pieces1 L := by simp [pieces1]
    rw [e] at h hf ⊢
    rw [List.append_assoc] at h
    rw [List.length_append] at hf ⊢
    obtain ⟨ha, hb⟩ := stands_app h
    obtain ⟨f', hf', hu⟩ := until_sign (f := f) (hv x List.mem_cons_self) ha (by omega)
    rw [hu, until_all L f' _ (fun y hy => hv y (List.mem_cons_of_mem _ hy)) hb (by omega), Nat.add_assoc]
theorem lit_all {X : ByteArray} {z : Nat} (hz : z ≤ X.size) : ∀ (L : List Items.It) (f p : Nat) (l : List UInt8), (∀ x ∈ L, Lib.validRune (x.r : Int) = true) → Stands X p (pieces1 L) → p + (pieces1 L).length = z → L.length ≤ f → litGo X z f p l = .good (l ++ encs L)
  | [], f, p, l, _, _, hp, _ => by
    have : ¬ p < z := by simp [pieces1] at hp; omega
    rw [litGo_end this]
    simp [encs]
  | x :: L, f, p, l, hv, h, hp, hf => by
    have e : pieces1 (x :: L) = sign1 (x.r : Int) ++ pieces1 L := by simp [pieces1]
    rw [e] at h hp
    rw [List.length_append] at hp
    obtain ⟨ha, hb⟩ := stands_app h
    have hvx := hv x List.mem_cons_self
    have hpos := sign1_pos x.r hvx
    simp only [List.length_cons] at hf
    obtain ⟨f, rfl⟩ : ∃ g, f = g + 1 := ⟨f - 1, by omega⟩
    rw [lit_sign hvx ha (by omega) hz (by omega), lit_all hz L f _ _ (fun y hy => hv y (List.mem_cons_of_mem _ hy)) hb (by omega) (by omega), List.append_assoc]
    congr 1
theorem item_bytes {s : ByteArray} {p : Nat} (hp : p < s.size) (ho : (txt s).ok p = true) : (encB ((txt s).r p : Int)).data.toList = (s.data.toList.drop p).take ((txt s).w p) := by
  rw [enc_rune _ (ok_sign _ _ ho)]
  have hd := drop_decode s p
  have hl : s.data.toList.drop p ≠ [] := by
    intro e
    have := congrArg List.length e
    rw [List.length_drop, ← Lib.size_eq] at this
    simp at this
    omega
  have h := Lib.encode_decode (s.data.toList.drop p) hl (by
    rw [hd]
    rintro ⟨h1, h2⟩
    unfold Txt.ok Txt.r Txt.w at ho
    rw [h1, h2] at ho
    simp at ho)
  rw [hd] at h
  exact h
theorem encs_to {s : ByteArray} (hr : (txt s).right) : ∀ k, k ≤ (txt s).cnt → encs (Items.itemsTo (txt s) k) = s.data.toList.take ((txt s).pos k)
  | 0, _ => by simp [encs, Items.itemsTo, Txt.pos]
  | k + 1, hk => by
    have hlt := (txt s).pos_of_lt (show k < (txt s).cnt by omega)
    rw [Items.itemsTo_succ, encs, List.flatMap_append]
    have ih := encs_to hr k (by omega)
    unfold encs at ih
    rw [ih]
    have hb := item_bytes (s := s) hlt (hr k (by omega))
    have e : (Items.itemAt (txt s) ((txt s).pos k)).r = (txt s).r ((txt s).pos k) := rfl
    simp only [List.flatMap_cons, List.flatMap_nil, List.append_nil, e]
    rw [hb, Txt.pos, List.take_add]
theorem encs_all {s : ByteArray} (hr : (txt s).right) : encs (Items.items (txt s)) = s.data.toList := by
  unfold Items.items
  rw [encs_to hr _ (Nat.le_refl _), (txt s).pos_cnt]
  exact List.take_of_length_le (by rw [← Lib.size_eq]; exact Nat.le_refl _)
/-- A right text that is quoted is read as it. -/
theorem next_quote {s X : ByteArray} {k : Nat} (hr : (txt s).right) (hne : s.size ≠ 0) (h : Stands X k (quoteB s)) : nextX X k = .tok 3 (k + (quoteB s).length) s none := by
  have hok : ∀ x ∈ Items.items (txt s), x.o = true := fun x hx => by
    unfold Items.items Items.itemsTo at hx
    obtain ⟨j, hj, rfl⟩ := List.mem_map.1 hx
    exact hr j (List.mem_range.1 hj)
  have hv : ∀ x ∈ Items.items (txt s), Lib.validRune (x.r : Int) = true := fun x hx => by
    have ho := hok x hx
    unfold Items.items Items.itemsTo at hx
    obtain ⟨j, hj, rfl⟩ := List.mem_map.1 hx
    exact ok_sign _ _ ho
  have hq : quoteB s = [39] ++ (pieces1 (Items.items (txt s)) ++ [39]) := by
    unfold quoteB
    rw [pieces_is _ hok, List.append_assoc]
  have hlen : (quoteB s).length = (pieces1 (Items.items (txt s))).length + 2 := by rw [hq]; simp
  rw [hlen]
  rw [hq] at h
  obtain ⟨h1, h2⟩ := stands_app h
  have h0 := stands_first h1
  have hl2 := h2.1
  simp only [List.length_append, List.length_singleton] at hl2
  have b39 : (txt X).b k = 39 := h0.1
  have hL : (Items.items (txt s)).length ≤ X.size + 1 := by
    have key : ∀ L : List Items.It, (∀ x ∈ L, Lib.validRune (x.r : Int) = true) → L.length ≤ (pieces1 L).length := fun L => by
      induction L with
      | nil => intro _; simp
      | cons x L ih =>
        intro hx
        have := ih fun y hy => hx y (List.mem_cons_of_mem _ hy)
        have h1 := sign1_pos x.r (hx x List.mem_cons_self)
        have e : pieces1 (x :: L) = sign1 (x.r : Int) ++ pieces1 L := by simp [pieces1]
        rw [e, List.length_append, List.length_cons]
        omega
    have := key _ hv
    omega
  have hu := until_all (X := X) (Items.items (txt s)) (X.size + 1) (k + 1) hv h2 (by omega)
  have hg := lit_all (X := X) (z := k + 1 + (pieces1 (Items.items (txt s))).length) (by omega) (Items.items (txt s)) (X.size + 1) (k + 1) [] hv (stands_app h2).1 rfl hL
  rw [List.nil_append, encs_all hr] at hg
  unfold nextX
  rw [b39, if_neg (by decide), if_pos rfl]
  unfold litX
  rw [hu]
  simp only [hg]
  have hs : s.data.toList ≠ [] := by
    intro e
    have := congrArg List.length e
    rw [← Lib.size_eq] at this
    exact hne this
  rw [if_neg hs]
  have e1 : k + 1 + (pieces1 (Items.items (txt s))).length + 1 = k + ((pieces1 (Items.items (txt s))).length + 2) := by omega
  rw [e1]

end Go.Proofs.YtfjlhfalnciamaaDoor.Lex

namespace Go.Proofs.YtfjlhfalnciamaaDoor.Lex
open Go Go.RowKit Go.Proofs.Chars
open Go.Proofs.YtfjlhfalnciamaaDoor.Utf Go.Proofs.YtfjlhfalnciamaaDoor.Chars

def tailL : List UInt8 := [10, 47, 47, 32, 39, 120, 10]
theorem blank_not {b : Nat → Nat} {n f a : Nat} (h1 : wsN (b a) = false) (h2 : b a ≠ 47) : blankE b n f a = a := by
  cases f with
  | zero => rfl
  | succ f => rw [blankE, if_neg (by rw [h1]; simp), if_neg (by rintro ⟨_, h, _⟩; exact h2 h)]
theorem blank_end {b : Nat → Nat} {n f : Nat} : blankE b n f n = n := by
  cases f with
  | zero => rfl
  | succ f => rw [blankE, if_neg (by omega), if_neg (by omega)]
theorem blank_ws {b : Nat → Nat} {n f a : Nat} (ha : a < n) (h : wsN (b a) = true) : blankE b n (f + 1) a = blankE b n f (a + 1) := by
  rw [blankE, if_pos ⟨ha, h⟩]
theorem line_step {b : Nat → Nat} {n f a : Nat} (ha : a < n) (h : b a ≠ 10) : lineE b n (f + 1) a = lineE b n f (a + 1) := by
  rw [lineE, if_pos ⟨ha, h⟩]
theorem line_stop {b : Nat → Nat} {n f a : Nat} (h : b a = 10) : lineE b n (f + 1) a = a := by
  rw [lineE, if_neg (by rintro ⟨_, h2⟩; exact h2 h)]
/-- Behind the second literal all is blank. -/
theorem tail_blank {X : ByteArray} {p f : Nat} (h : Stands X p tailL) (hn : p + 7 = X.size) (hf : 3 ≤ f) : blankE (txt X).b X.size f p = X.size := by
  obtain ⟨f, rfl⟩ : ∃ g, f = g + 3 := ⟨f - 3, by omega⟩
  have b0 : (txt X).b p = 10 := h.2 0 10 rfl
  have b1 : (txt X).b (p + 1) = 47 := h.2 1 47 rfl
  have b2 : (txt X).b (p + 2) = 47 := h.2 2 47 rfl
  have b3 : (txt X).b (p + 3) = 32 := h.2 3 32 rfl
  have b4 : (txt X).b (p + 4) = 39 := h.2 4 39 rfl
  have b5 : (txt X).b (p + 5) = 120 := h.2 5 120 rfl
  have b6 : (txt X).b (p + 6) = 10 := h.2 6 10 rfl
  have hl : lineE (txt X).b X.size X.size (p + 1) = p + 6 := by
    obtain ⟨g, hg⟩ : ∃ g, X.size = g + 6 := ⟨X.size - 6, by omega⟩
    have key : ∀ q, lineE (txt X).b X.size (q + 6) (p + 1) = p + 6 := fun q => by
      rw [line_step (by omega) (by rw [b1]; decide), line_step (by omega) (by rw [b2]; decide), line_step (by omega) (by rw [b3]; decide), line_step (by omega) (by rw [b4]; decide), line_step (by omega) (by rw [b5]; decide), line_stop b6]
    have := key g
    rw [← hg] at this
    exact this
  rw [show f + 3 = (f + 2) + 1 by omega, blank_ws (by omega) (by rw [b0]; rfl)]
  rw [show f + 2 = (f + 1) + 1 by omega, blankE, if_neg (by rw [b1]; rintro ⟨_, h⟩; cases h), if_pos ⟨by omega, b1, b2⟩, hl]
  rw [blank_ws (by omega) (by rw [b6]; rfl), show p + 6 + 1 = X.size by omega]
  exact blank_end
/-- A text twice in quotes is read as it, twice. -/
theorem back_all {s X : ByteArray} (hr : (txt s).right) (hne : s.size ≠ 0) (hX : Stands X 0 (quoteB s ++ ([32] ++ (quoteB s ++ tailL)))) (hs : (quoteB s).length + (1 + ((quoteB s).length + 7)) = X.size) (hbig : X.size ≤ 20000) :
    allE X = .good [(3, 0, (quoteB s).length, s), (3, (quoteB s).length + 1, (quoteB s).length + 1 + (quoteB s).length, s), (0, X.size, X.size, ⟨#[]⟩)] := by
  obtain ⟨h1, h2⟩ := stands_app hX
  obtain ⟨h3, h4⟩ := stands_app h2
  obtain ⟨h5, h6⟩ := stands_app h4
  rw [Nat.zero_add] at h3 h5 h6
  simp only [List.length_singleton] at h5 h6
  have n1 := next_quote hr hne h1
  have n2 := next_quote hr hne h5
  have q0 : ∀ k, Stands X k (quoteB s) → (txt X).b k = 39 := fun k h => by
    have e : quoteB s = 39 :: (quoteL (Items.items (txt s)) ++ [39]) := by unfold quoteB; simp
    rw [e] at h
    exact (stands_first h).1
  have b0 := q0 0 h1
  have b1 := q0 _ h5
  have bs : (txt X).b (quoteB s).length = 32 := (stands_first h3).1
  generalize (quoteB s).length = m at *
  unfold allE
  rw [if_neg (by omega), blank_not (by rw [b0]; rfl) (by rw [b0]; decide)]
  obtain ⟨g, hg⟩ : ∃ g, X.size = g + 3 := ⟨X.size - 3, by omega⟩
  have hb1 : blankE (txt X).b X.size (X.size + 1) m = m + 1 := by
    rw [blank_ws (by omega) (by rw [bs]; rfl)]
    exact blank_not (by rw [b1]; rfl) (by rw [b1]; decide)
  have hb2 : blankE (txt X).b X.size (X.size + 1) (m + 1 + m) = X.size := tail_blank h6 (by omega) (by omega)
  have key : ∀ q, allGo X (q + 3) 0 [] = .good [(3, 0, m, s), (3, m + 1, m + 1 + m, s), (0, X.size, X.size, ⟨#[]⟩)] := fun q => by
    rw [allGo, if_pos (by omega)]
    simp only [n1, Nat.zero_add, hb1]
    rw [allGo, if_pos (by omega)]
    simp only [n2, hb2]
    rw [allGo, if_neg (by omega)]
    rfl
  have := key (g + 1)
  rw [show X.size + 1 = g + 1 + 3 by omega]
  exact this
/-- The empty text in quotes is no literal. -/
theorem back_none {s X : ByteArray} (h0 : s.size = 0) (hX : Stands X 0 (quoteB s ++ ([32] ++ (quoteB s ++ tailL)))) (hbig : X.size ≤ 20000) : allE X = .bad 14 0 := by
  have hc : (txt s).cnt = 0 := Txt.cnt_of _ (by show 0 = s.size; exact h0.symm)
  have hq : quoteB s = [39, 39] := by
    unfold quoteB Items.items
    rw [hc]
    rfl
  rw [hq] at hX
  have h2 := (stands_app hX).1
  have b0 : (txt X).b 0 = 39 := (stands_first h2).1
  have b1 : (txt X).b 1 = 39 := h2.2 1 39 rfl
  have hl := h2.1
  simp at hl
  have hu : untilE (txt X).b X.size 39 (X.size + 1) (0 + 1) = some 1 := by
    rw [untilE, if_pos (by omega), if_pos b1]
  have hg : litGo X 1 (X.size + 1) (0 + 1) [] = .good [] := litGo_end (by omega)
  have hn : nextX X 0 = .bad 14 0 := by
    unfold nextX
    rw [b0, if_neg (by decide), if_pos rfl]
    unfold litX
    rw [hu]
    simp only [hg]
    rw [if_pos trivial]
  unfold allE
  rw [if_neg (by omega), blank_not (by rw [b0]; rfl) (by rw [b0]; decide), allGo, if_pos (by omega)]
  simp only [hn]

/-- Parts rise, and do not lie over one another. -/
def Rise (n a : Nat) (l : List (Int × Nat × Nat × ByteArray)) : Prop :=
  (∀ (i : Nat) (x : Int × Nat × Nat × ByteArray), l[i]? = some x → x.2.1 ≤ x.2.2.1 ∧ x.2.2.1 ≤ n) ∧ (∀ (i : Nat) (x y : Int × Nat × Nat × ByteArray), l[i]? = some y → l[i + 1]? = some x → y.2.2.1 ≤ x.2.1) ∧ ∀ (y : Int × Nat × Nat × ByteArray), l[l.length - 1]? = some y → y.2.2.1 ≤ a
theorem Rise.snoc {n a p : Nat} {l : List (Int × Nat × Nat × ByteArray)} {x : Int × Nat × Nat × ByteArray} (h : Rise n a l) (h1 : a ≤ x.2.1) (h2 : x.2.1 ≤ x.2.2.1) (h3 : x.2.2.1 ≤ n) (h4 : x.2.2.1 ≤ p) : Rise n p (l ++ [x]) := by
  obtain ⟨g1, g2, g3⟩ := h
  have at_end : ∀ y, (l ++ [x])[l.length]? = some y → y = x := fun y hy => by
    rw [List.getElem?_append_right (Nat.le_refl _), Nat.sub_self] at hy
    cases hy; rfl
  refine ⟨fun i y hy => ?_, fun i y z hz hy => ?_, fun y hy => ?_⟩
  · by_cases hi : i < l.length
    · rw [List.getElem?_append_left hi] at hy
      exact g1 i y hy
    · have hl := (List.getElem?_eq_some_iff.1 hy).1
      simp only [List.length_append, List.length_singleton] at hl
      have e : i = l.length := by omega
      subst e
      rw [at_end y hy]
      exact ⟨h2, h3⟩
  · have hl := (List.getElem?_eq_some_iff.1 hy).1
    simp only [List.length_append, List.length_singleton] at hl
    have hi : i < l.length := by omega
    rw [List.getElem?_append_left hi] at hz
    by_cases h5 : i + 1 < l.length
    · rw [List.getElem?_append_left h5] at hy
      exact g2 i y z hz hy
    · have e : i + 1 = l.length := by omega
      rw [e] at hy
      rw [at_end y hy]
      have := g3 z (by rw [show l.length - 1 = i by omega]; exact hz)
      omega
  · rw [show (l ++ [x]).length - 1 = l.length by simp] at hy
    rw [at_end y hy]
    exact h4
theorem rise_go {s : ByteArray} : ∀ (f a : Nat) (l m : List (Int × Nat × Nat × ByteArray)), a ≤ s.size → Rise s.size a l → allGo s f a l = .good m → ∃ p, Rise s.size p m
  | 0, a, l, m, _, h, e => by
    rw [allGo] at e
    cases e
    exact ⟨a, h⟩
  | f + 1, a, l, m, ha, h, e => by
    rw [allGo] at e
    split at e
    · rename_i hlt
      cases hn : nextX s a with
      | bad c p => simp only [hn] at e; cases e
      | tok k z t g =>
        simp only [hn] at e
        have hin := nextX_in hlt hn
        have hb := blankE_in (txt s).b s.size (s.size + 1) z hin.2
        exact rise_go f _ _ m hb.2 (h.snoc (x := (k, a, z, t)) (Nat.le_refl _) (by show a ≤ z; omega) hin.2 hb.1) e
    · cases e
      exact ⟨s.size, h.snoc (x := (0, s.size, s.size, ⟨#[]⟩)) ha (Nat.le_refl _) (Nat.le_refl _) (Nat.le_refl _)⟩
theorem rise_all {s : ByteArray} {m : List (Int × Nat × Nat × ByteArray)} (h : allE s = .good m) : ∃ p, Rise s.size p m := by
  unfold allE at h
  split at h
  · cases h
  · exact rise_go _ _ _ _ (blankE_in _ _ _ _ (Nat.zero_le _)).2 ⟨fun i x h => by simp at h, fun i x y h => by simp at h, fun y h => by simp at h⟩ h
theorem all_code {s : ByteArray} {c : Int} {p : Nat} (h : allE s = .bad c p) : c ≠ 0 := by
  have key : ∀ f a l, allGo s f a l = .bad c p → c ≠ 0 := fun f => by
    induction f with
    | zero => intro a l h; rw [allGo] at h; cases h
    | succ f ih =>
      intro a l h
      rw [allGo] at h
      split at h
      · cases hn : nextX s a with
        | bad c' p' => simp only [hn] at h; cases h; exact nextX_code hn
        | tok k z t g => simp only [hn] at h; exact ih _ _ h
      · cases h
  unfold allE at h
  split at h
  · cases h; decide
  · exact key _ _ _ h

end Go.Proofs.YtfjlhfalnciamaaDoor.Lex
