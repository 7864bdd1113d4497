/- Package texts, merged: LexR, LexS, LexT, LexU. -/
import Derived.Test.YtfjlhfalnciamaaDoorMLexN
import Derived.Test.YtfjlhfalnciamaaDoorMLexE
import Derived.Test.YtfjlhfalnciamaaDoorMLexB
import Derived.Laws.BitsLemmas

namespace Go.Proofs.YtfjlhfalnciamaaDoor.Lex
open Go Go.RowKit Go.Proofs.Chars
open Go.Proofs.YtfjlhfalnciamaaDoor.Utf Go.Proofs.YtfjlhfalnciamaaDoor.Chars

/-- From one place up to another one the bytes of a text stand in another text, further on. -/
structure Agree (s u : ByteArray) (d lo hi : Nat) : Prop where
  inS : hi ≤ s.size
  inU : hi + d ≤ u.size
  same : ∀ i, lo ≤ i → i < hi → (txt u).b (i + d) = (txt s).b i
theorem Agree.cut {s u : ByteArray} {d lo hi lo' hi' : Nat} (h : Agree s u d lo hi) (h1 : lo ≤ lo') (h2 : hi' ≤ hi) : Agree s u d lo' hi' :=
  ⟨by have := h.inS; omega, by have := h.inU; omega, fun i a b => h.same i (by omega) (by omega)⟩
theorem Agree.ext {s u : ByteArray} {d lo hi i j : Nat} (h : Agree s u d lo hi) (hi' : lo ≤ i) (hj : j ≤ hi) : u.extract (i + d) (j + d) = s.extract i j := by
  have hS := h.inS
  have hU := h.inU
  have e : (u.extract (i + d) (j + d)).data.toList = (s.extract i j).data.toList := by
    apply List.ext_getElem?
    intro k
    rw [ext_list, ext_list, show j + d - (i + d) = j - i by omega]
    by_cases hk : k < j - i
    · rw [List.getElem?_take_of_lt hk, List.getElem?_take_of_lt hk, List.getElem?_drop, List.getElem?_drop]
      have l1 : i + d + k < u.data.toList.length := by rw [← Lib.size_eq]; omega
      have l2 : i + k < s.data.toList.length := by rw [← Lib.size_eq]; omega
      rw [List.getElem?_eq_getElem l1, List.getElem?_eq_getElem l2]
      congr 1
      apply UInt8.toNat_inj.1
      have hs := h.same (i + k) (by omega) (by omega)
      have e1 : (txt u).b (i + k + d) = (u.get! (i + d + k)).toNat := by rw [show i + k + d = i + d + k by omega]; rfl
      have e2 : (txt s).b (i + k) = (s.get! (i + k)).toNat := rfl
      rw [e1, e2, ← Lib.getD_get!', ← Lib.getD_get!', List.getD_eq_getElem?_getD, List.getD_eq_getElem?_getD, List.getElem?_eq_getElem l1, List.getElem?_eq_getElem l2] at hs
      exact hs
    · rw [List.getElem?_eq_none (by rw [List.length_take]; omega), List.getElem?_eq_none (by rw [List.length_take]; omega)]
  exact ByteArray.ext (Array.toList_inj.1 e)

theorem untilE_al {s u : ByteArray} {d lo hi c : Nat} (h : Agree s u d lo hi) : ∀ (f f' a z : Nat), lo ≤ a → z < hi → z < a + f' → untilE (txt s).b s.size c f a = some z → untilE (txt u).b u.size c f' (a + d) = some (z + d)
  | 0, _, _, _, _, _, _, h => by cases h
  | f + 1, f', a, z, ha, hz, hf, hu => by
    have hin := untilE_in _ _ _ _ _ _ hu
    have hS := h.inS
    have hU := h.inU
    obtain ⟨f', rfl⟩ : ∃ g, f' = g + 1 := ⟨f' - 1, by omega⟩
    rw [untilE, if_pos (by omega)] at hu ⊢
    rw [h.same a ha (by omega)]
    split at hu
    · rename_i h1
      cases hu
      rw [if_pos h1]
    · rename_i h1
      rw [if_neg h1]
      split at hu
      · rename_i h2
        have hin2 := untilE_in _ _ _ _ _ _ hu
        rw [if_pos h2, show a + d + 2 = a + 2 + d by omega]
        exact untilE_al h f f' (a + 2) z (by omega) hz (by omega) hu
      · rename_i h2
        have hin2 := untilE_in _ _ _ _ _ _ hu
        rw [if_neg h2, show a + d + 1 = a + 1 + d by omega]
        exact untilE_al h f f' (a + 1) z (by omega) hz (by omega) hu
theorem untilE_at (b : Nat → Nat) (n c : Nat) : ∀ f a e, untilE b n c f a = some e → b e = c
  | 0, a, e, h => by cases h
  | f + 1, a, e, h => by
    rw [untilE] at h
    split at h
    · split at h
      · cases h; assumption
      · split at h
        · exact untilE_at b n c f _ e h
        · exact untilE_at b n c f _ e h
    · cases h
theorem dc_al {s u : ByteArray} {d lo hi p z : Nat} (h : Agree s u d lo hi) (hp : lo ≤ p) (hpz : p < z) (hz : z < hi) (h39 : (txt s).b z < 128) (ho : (txt s).ok p = true) : (txt u).dc (p + d) = (txt s).dc p ∧ p + (txt s).w p ≤ z := by
  have hw : p + (txt s).w p ≤ z := by
    by_cases hc : p + (txt s).w p ≤ z
    · exact hc
    · have := ((txt s).w_cont p z hpz (by omega)).1
      omega
  have hU := h.inU
  refine ⟨(txt s).moved (txt u) p (p + d) ((Txt.ok_iff _ _).1 ho) (by show p + d + (txt s).w p ≤ u.size; omega) fun k hk => ?_, hw⟩
  rw [show p + d + k = p + k + d by omega]
  exact h.same _ (by omega) (by omega)
theorem litGo_al {s u : ByteArray} {d lo hi z : Nat} (h : Agree s u d lo hi) (hz : z < hi) (h39 : (txt s).b z < 128) : ∀ (f f' p : Nat) (l r : List UInt8), lo ≤ p → z ≤ p + f → z ≤ p + f' → litGo s z f p l = .good r → litGo u (z + d) f' (p + d) l = .good r
  | 0, f', p, l, r, _, hf, _, hg => by
    rw [litGo] at hg
    cases hg
    cases f' with
    | zero => rfl
    | succ f' => rw [litGo, if_neg (by omega)]
  | f + 1, f', p, l, r, hp, hf, hf', hg => by
    have hS := h.inS
    have hU := h.inU
    by_cases hpz : p < z
    · obtain ⟨f', rfl⟩ : ∃ g, f' = g + 1 := ⟨f' - 1, by omega⟩
      rw [litGo, if_pos hpz] at hg
      split at hg
      · cases hg
      · rename_i hok
        have ho : (txt s).ok p = true := by
          cases e : (txt s).ok p with
          | true => rfl
          | false => exact absurd (.inl e) hok
        obtain ⟨hd, hw⟩ := dc_al h hp hpz hz h39 ho
        have hr : (txt u).r (p + d) = (txt s).r p := by unfold Txt.r; rw [hd]
        have hw2 : (txt u).w (p + d) = (txt s).w p := by unfold Txt.w; rw [hd]
        have ho2 : (txt u).ok (p + d) = (txt s).ok p := by unfold Txt.ok; rw [hr, hw2]
        have hpos := (txt s).w_pos p
        rw [litGo, if_pos (by omega), ho2, hr, if_neg hok]
        split at hg
        · rename_i h92
          rw [if_pos h92, hw2, show p + d + (txt s).w p = p + (txt s).w p + d by omega, h.ext hp (by omega)]
          exact litGo_al h hz h39 f f' _ _ r (by omega) (by omega) (by omega) hg
        · rename_i h92
          rw [if_neg h92, show p + d + 1 = p + 1 + d by omega, h.ext (i := p + 1) (j := z) (by omega) (by omega)]
          cases he : escE (txt (s.extract (p + 1) z)).b (s.extract (p + 1) z).size with
          | none => rw [he] at hg; cases hg
          | some x =>
            obtain ⟨y, n⟩ := x
            rw [he] at hg
            simp only [] at hg ⊢
            rw [show p + 1 + d + n = p + 1 + n + d by omega]
            exact litGo_al h hz h39 f f' _ _ r (by omega) (by omega) (by omega) hg
    · rw [litGo, if_neg hpz] at hg
      cases hg
      cases f' with
      | zero => rfl
      | succ f' => rw [litGo, if_neg (by omega)]

/-- How far a name goes. -/
theorem runP_is {b : Nat → Nat} {n : Nat} : ∀ (f i : Nat), n ≤ i + f → i ≤ n → (∀ j, i ≤ j → j < runP b n f i → partN (b j) = true) ∧ (runP b n f i = n ∨ partN (b (runP b n f i)) = false)
  | 0, i, h1, h2 => by
    rw [runP]
    exact ⟨fun j a b => by omega, .inl (by omega)⟩
  | f + 1, i, h1, h2 => by
    rw [runP]
    split
    · rename_i hc
      have ih := runP_is (b := b) (n := n) f (i + 1) (by omega) (by omega)
      refine ⟨fun j h3 h4 => ?_, ih.2⟩
      by_cases e : j = i
      · subst e; exact hc.2
      · exact ih.1 j (by omega) h4
    · rename_i hc
      refine ⟨fun j a b => by omega, ?_⟩
      by_cases e : i < n
      · right
        cases hp : partN (b i) with
        | false => rfl
        | true => exact absurd ⟨e, hp⟩ hc
      · left; omega
theorem runP_of {b : Nat → Nat} {n m : Nat} : ∀ (f i : Nat), n ≤ i + f → i ≤ m → m ≤ n → (∀ j, i ≤ j → j < m → partN (b j) = true) → (m = n ∨ partN (b m) = false) → runP b n f i = m
  | 0, i, h1, h2, h3, h4, h5 => by rw [runP]; omega
  | f + 1, i, h1, h2, h3, h4, h5 => by
    rw [runP]
    by_cases e : i = m
    · subst e
      rw [if_neg]
      rintro ⟨h6, h7⟩
      rcases h5 with h5 | h5
      · omega
      · rw [h5] at h7; cases h7
    · rw [if_pos ⟨by omega, h4 i (Nat.le_refl _) (by omega)⟩]
      exact runP_of f (i + 1) (by omega) (by omega) h3 (fun j a b => h4 j (by omega) b) h5
/-- Where a name ends, the other text's name ends. -/
theorem nameX_al {s u : ByteArray} {d lo hi a : Nat} (h : Agree s u d lo hi) (ha : lo ≤ a) (hah : a < hi) (hl : letterN ((txt s).b a) = true) {k : Int} {e : Nat} {t : ByteArray} {g : Option (List Rg)}
    (hx : nameX s a = .tok k e t g) (he : e ≤ hi) (hend : hi + d = u.size ∨ partN ((txt u).b (hi + d)) = false) : nameX u (a + d) = .tok k (e + d) t g := by
  have hS := h.inS
  have hU := h.inU
  have hsz : (s.extract a s.size).size = s.size - a := ext_size s (Nat.le_refl _)
  have hszu : (u.extract (a + d) u.size).size = u.size - (a + d) := ext_size u (Nat.le_refl _)
  unfold nameX at hx ⊢
  simp only [] at hx ⊢
  have hb0 : (txt (s.extract a s.size)).b 0 = (txt s).b a := by rw [ext_b, Nat.add_zero]
  have hb0u : (txt (u.extract (a + d) u.size)).b 0 = (txt s).b a := by rw [ext_b, Nat.add_zero, h.same a ha hah]
  have hm : namedE (txt (u.extract (a + d) u.size)).b (u.extract (a + d) u.size).size = namedE (txt (s.extract a s.size)).b (s.extract a s.size).size := by
    have hem : e = a + namedE (txt (s.extract a s.size)).b (s.extract a s.size).size := by
      split at hx
      · cases hx
      · cases hx; rfl
    unfold namedE at hem ⊢
    rw [if_neg (by omega), hb0, if_pos hl] at hem
    rw [if_neg (by omega), hb0u, if_pos hl, if_neg (by omega), hb0, if_pos hl]
    have hr := runP_is (b := (txt (s.extract a s.size)).b) (n := (s.extract a s.size).size) (s.extract a s.size).size 1 (by omega) (by omega)
    have hin := runP_in (txt (s.extract a s.size)).b (s.extract a s.size).size (s.extract a s.size).size 1 (by omega)
    generalize runP (txt (s.extract a s.size)).b (s.extract a s.size).size (s.extract a s.size).size 1 = m at *
    have hq : ∀ j, a + j < hi → (txt (u.extract (a + d) u.size)).b j = (txt (s.extract a s.size)).b j := fun j hj => by
      rw [ext_b, ext_b, show a + d + j = a + j + d by omega]
      exact h.same _ (by omega) hj
    refine runP_of _ 1 (by omega) hin.1 (by omega) (fun j h1 h2 => ?_) ?_
    · rw [hq j (by omega)]
      exact hr.1 j h1 h2
    · by_cases hc : a + m < hi
      · rw [hq m hc]
        right
        rcases hr.2 with h2 | h2
        · omega
        · exact h2
      · have hmh : a + m = hi := by omega
        rcases hend with h2 | h2
        · left; omega
        · right
          rw [ext_b, show a + d + m = hi + d by omega]
          exact h2
  rw [hm]
  split at hx
  · cases hx
  · rename_i h60
    cases hx
    rw [if_neg h60, h.same a ha hah, show a + d + namedE (txt (s.extract a s.size)).b (s.extract a s.size).size = a + namedE (txt (s.extract a s.size)).b (s.extract a s.size).size + d by omega, h.ext ha he]
theorem litX_al {s u : ByteArray} {d lo hi a : Nat} (h : Agree s u d lo hi) (ha : lo ≤ a) {k : Int} {e : Nat} {t : ByteArray} {g : Option (List Rg)}
    (hx : litX s a = .tok k e t g) (he : e ≤ hi) : litX u (a + d) = .tok k (e + d) t g := by
  have hS := h.inS
  have hU := h.inU
  unfold litX at hx ⊢
  cases hu : untilE (txt s).b s.size 39 (s.size + 1) (a + 1) with
  | none => rw [hu] at hx; cases hx
  | some z =>
    rw [hu] at hx
    have hin := untilE_in _ _ _ _ _ _ hu
    have hat := untilE_at _ _ _ _ _ _ hu
    simp only [] at hx
    cases hg : litGo s z (s.size + 1) (a + 1) [] with
    | bad c p => rw [hg] at hx; cases hx
    | good l =>
      rw [hg] at hx
      simp only [] at hx
      split at hx
      · cases hx
      · rename_i hne
        cases hx
        have h1 := untilE_al h (s.size + 1) (u.size + 1) (a + 1) z (by omega) (by omega) (by omega) hu
        rw [show a + d + 1 = a + 1 + d by omega, h1]
        simp only []
        have h2 := litGo_al h (z := z) (by omega) (by rw [hat]; omega) (s.size + 1) (u.size + 1) (a + 1) [] l (by omega) (by omega) (by omega) hg
        rw [h2]
        simp only []
        rw [if_neg hne, show z + d + 1 = z + 1 + d by omega]
theorem classX_al {s u : ByteArray} {d lo hi a : Nat} (h : Agree s u d lo hi) (ha : lo ≤ a) {k : Int} {e : Nat} {t : ByteArray} {g : Option (List Rg)}
    (hx : classX s a = .tok k e t g) (he : e ≤ hi) : classX u (a + d) = .tok k (e + d) t g := by
  have hS := h.inS
  have hU := h.inU
  unfold classX at hx ⊢
  cases hu : untilE (txt s).b s.size 93 (s.size + 1) (a + 1) with
  | none => rw [hu] at hx; cases hx
  | some z =>
    rw [hu] at hx
    have hin := untilE_in _ _ _ _ _ _ hu
    simp only [] at hx
    cases hg : readE (s.extract (a + 1) z) with
    | bad c p => rw [hg] at hx; cases hx
    | good l =>
      rw [hg] at hx
      simp only [] at hx
      cases hx
      have h1 := untilE_al h (s.size + 1) (u.size + 1) (a + 1) z (by omega) (by omega) (by omega) hu
      rw [show a + d + 1 = a + 1 + d by omega, h1]
      simp only []
      rw [h.ext (i := a + 1) (j := z) (by omega) (by omega), hg, show z + d + 1 = z + 1 + d by omega]
theorem sign_not : ∀ c : Fin 256, 0 ≤ signI c.val → c.val ≠ 45 := by decide +kernel
theorem nextX_al {s u : ByteArray} {d lo hi a : Nat} (h : Agree s u d lo hi) (ha : lo ≤ a) (has : a < s.size) {k : Int} {e : Nat} {t : ByteArray} {g : Option (List Rg)}
    (hx : nextX s a = .tok k e t g) (he : e ≤ hi) (hend : hi + d = u.size ∨ partN ((txt u).b (hi + d)) = false) : nextX u (a + d) = .tok k (e + d) t g := by
  have hin := nextX_in has hx
  have hS := h.inS
  have hU := h.inU
  have hsa := h.same a ha (by omega)
  have hbl : (txt s).b a < 256 := UInt8.toNat_lt _
  unfold nextX at hx ⊢
  rw [hsa]
  split at hx
  · rename_i h1
    rw [if_pos h1]
    exact nameX_al h ha (by omega) h1 hx he hend
  rename_i h1
  rw [if_neg h1]
  split at hx
  · rename_i h2
    rw [if_pos h2]
    exact litX_al h ha hx he
  rename_i h2
  rw [if_neg h2]
  split at hx
  · rename_i h3
    rw [if_pos h3]
    exact classX_al h ha hx he
  rename_i h3
  rw [if_neg h3]
  split at hx
  · rename_i h4
    cases hx
    have h5 := h.same (a + 1) (by omega) (by omega)
    rw [if_pos ⟨by omega, h4.2.1, by rw [show a + d + 1 = a + 1 + d by omega, h5]; exact h4.2.2⟩, show a + d + 2 = a + 2 + d by omega]
  rename_i h4
  split at hx
  · rename_i h5
    cases hx
    have h6 := sign_not ⟨(txt s).b a, hbl⟩ h5
    rw [if_neg (fun hh => h6 hh.2.1), if_pos h5, show a + d + 1 = a + 1 + d by omega]
  · cases hx
theorem nextX_slash {s : ByteArray} {a : Nat} {k : Int} {e : Nat} {t : ByteArray} {g : Option (List Rg)} (hx : nextX s a = .tok k e t g) : (txt s).b a ≠ 47 := by
  intro h47
  unfold nextX at hx
  rw [h47] at hx
  rw [if_neg (by decide), if_neg (by decide), if_neg (by decide), if_neg (by rintro ⟨_, h, _⟩; cases h), if_neg (by decide +kernel)] at hx
  cases hx

end Go.Proofs.YtfjlhfalnciamaaDoor.Lex

namespace Go.Proofs.YtfjlhfalnciamaaDoor.Lex
open Go Go.RowKit Go.Proofs.Chars
open Go.Proofs.YtfjlhfalnciamaaDoor.Utf Go.Proofs.YtfjlhfalnciamaaDoor.Chars

theorem lineE_is {b : Nat → Nat} {n : Nat} : ∀ (f a : Nat), n ≤ a + f → a ≤ n → (∀ j, a ≤ j → j < lineE b n f a → b j ≠ 10) ∧ (lineE b n f a = n ∨ b (lineE b n f a) = 10)
  | 0, a, h1, h2 => by
    rw [lineE]
    exact ⟨fun j a b => by omega, .inl (by omega)⟩
  | f + 1, a, h1, h2 => by
    rw [lineE]
    split
    · rename_i hc
      have ih := lineE_is (b := b) (n := n) f (a + 1) (by omega) (by omega)
      refine ⟨fun j h3 h4 => ?_, ih.2⟩
      by_cases e : j = a
      · subst e; exact hc.2
      · exact ih.1 j (by omega) h4
    · rename_i hc
      refine ⟨fun j a b => by omega, ?_⟩
      by_cases e : a < n
      · right
        by_cases h10 : b a = 10
        · exact h10
        · exact absurd ⟨e, h10⟩ hc
      · left; omega
theorem lineE_of {b : Nat → Nat} {n m : Nat} : ∀ (f a : Nat), n ≤ a + f → a ≤ m → m ≤ n → (∀ j, a ≤ j → j < m → b j ≠ 10) → (m = n ∨ b m = 10) → lineE b n f a = m
  | 0, a, h1, h2, h3, h4, h5 => by rw [lineE]; omega
  | f + 1, a, h1, h2, h3, h4, h5 => by
    rw [lineE]
    by_cases e : a = m
    · subst e
      rw [if_neg]
      rintro ⟨h6, h7⟩
      rcases h5 with h5 | h5
      · omega
      · exact h7 h5
    · rw [if_pos ⟨by omega, h4 a (Nat.le_refl _) (by omega)⟩]
      exact lineE_of f (a + 1) (by omega) (by omega) h3 (fun j a b => h4 j (by omega) b) h5

theorem blank_shift {s u : ByteArray} {d lo : Nat} (h : Agree s u d lo s.size) (hu : u.size = s.size + d) : ∀ (f f' a : Nat), lo ≤ a → a ≤ s.size → s.size < a + f → u.size < a + d + f' → blankE (txt u).b u.size f' (a + d) = blankE (txt s).b s.size f a + d
  | 0, _, a, _, _, _, _ => by omega
  | f + 1, f', a, h1, h2, h3, h4 => by
    obtain ⟨f', rfl⟩ : ∃ g, f' = g + 1 := ⟨f' - 1, by omega⟩
    rw [blankE, blankE]
    by_cases hw : a < s.size ∧ wsN ((txt s).b a) = true
    · rw [if_pos hw, if_pos ⟨by omega, by rw [h.same a h1 hw.1]; exact hw.2⟩, show a + d + 1 = a + 1 + d by omega]
      exact blank_shift h hu f f' (a + 1) (by omega) (by omega) (by omega) (by omega)
    · rw [if_neg hw, if_neg (by
        rintro ⟨h5, h6⟩
        rw [h.same a h1 (by omega)] at h6
        exact hw ⟨by omega, h6⟩)]
      by_cases hc : a + 1 < s.size ∧ (txt s).b a = 47 ∧ (txt s).b (a + 1) = 47
      · have e1 := h.same a h1 (by omega)
        have e2 := h.same (a + 1) (by omega) (by omega)
        rw [if_pos hc, if_pos ⟨by omega, by rw [e1]; exact hc.2.1, by rw [show a + d + 1 = a + 1 + d by omega, e2]; exact hc.2.2⟩]
        have hL := lineE_is (b := (txt s).b) (n := s.size) s.size a (by omega) h2
        have hin := lineE_in (txt s).b s.size s.size a h2
        have hgt := lineE_past (b := (txt s).b) (n := s.size) (f := s.size) (a := a) (by omega) (by rw [hc.2.1]; omega) (by omega)
        generalize lineE (txt s).b s.size s.size a = L at *
        have hLu : lineE (txt u).b u.size u.size (a + d) = L + d := lineE_of _ _ (by omega) (by omega) (by omega) (fun j h6 h7 => by
          have := h.same (j - d) (by omega) (by omega)
          rw [show j - d + d = j by omega] at this
          rw [this]
          exact hL.1 (j - d) (by omega) (by omega)) (by
          rcases hL.2 with h8 | h8
          · left; omega
          · by_cases h9 : L = s.size
            · left; omega
            · right
              rw [h.same L (by omega) (by omega)]
              exact h8)
        rw [hLu]
        exact blank_shift h hu f f' L (by omega) (by omega) (by omega) (by omega)
      · rw [if_neg hc, if_neg]
        rintro ⟨h5, h6, h7⟩
        rw [h.same a h1 (by omega)] at h6
        rw [show a + d + 1 = a + 1 + d by omega, h.same (a + 1) (by omega) (by omega)] at h7
        exact hc ⟨by omega, h6, h7⟩
/-- Up to where the bytes are alike what is blank is left behind alike, or what is blank ends within a line that goes on. -/
theorem blank_to {s u : ByteArray} {p : Nat} (h : Agree s u 0 0 p) : ∀ (f f' a : Nat), a ≤ s.size → a ≤ p → s.size < a + f → u.size < a + f' → blankE (txt s).b s.size f a = p →
    (∃ g, u.size < p + g ∧ blankE (txt u).b u.size f' a = blankE (txt u).b u.size g p) ∨ (p = s.size ∧ ∃ g, u.size < p + g ∧ blankE (txt u).b u.size f' a = blankE (txt u).b u.size g (lineE (txt u).b u.size u.size p))
  | 0, _, a, _, _, _, _, _ => by omega
  | f + 1, f', a, h2, hap, h3, h4, hb => by
    have hS := h.inS
    have hU := h.inU
    have hsame : ∀ i, i < p → (txt u).b i = (txt s).b i := fun i hi => h.same i (Nat.zero_le _) hi
    obtain ⟨f', rfl⟩ : ∃ g, f' = g + 1 := ⟨f' - 1, by omega⟩
    rw [blankE] at hb
    by_cases hw : a < s.size ∧ wsN ((txt s).b a) = true
    · rw [if_pos hw] at hb
      have hin := blankE_in (txt s).b s.size f (a + 1) (by omega)
      rw [hb] at hin
      have e : blankE (txt u).b u.size (f' + 1) a = blankE (txt u).b u.size f' (a + 1) := by
        rw [blankE, if_pos ⟨by omega, by rw [hsame a (by omega)]; exact hw.2⟩]
      rw [e]
      exact blank_to h f f' (a + 1) (by omega) (by omega) (by omega) (by omega) hb
    · rw [if_neg hw] at hb
      by_cases hc : a + 1 < s.size ∧ (txt s).b a = 47 ∧ (txt s).b (a + 1) = 47
      · rw [if_pos hc] at hb
        have hL := lineE_is (b := (txt s).b) (n := s.size) s.size a (by omega) h2
        have hin := lineE_in (txt s).b s.size s.size a h2
        have hgt := lineE_past (b := (txt s).b) (n := s.size) (f := s.size) (a := a) (by omega) (by rw [hc.2.1]; omega) (by omega)
        generalize lineE (txt s).b s.size s.size a = L at *
        have hin2 := blankE_in (txt s).b s.size f L hin.2
        rw [hb] at hin2
        have hL2 : a + 2 ≤ L := by
          rcases Nat.lt_or_ge (a + 1) L with h9 | h9
          · exact h9
          · have hLa : L = a + 1 := by omega
            rcases hL.2 with h8 | h8
            · omega
            · rw [hLa, hc.2.2] at h8; omega
        have e : blankE (txt u).b u.size (f' + 1) a = blankE (txt u).b u.size f' (lineE (txt u).b u.size u.size a) := by
          rw [blankE, if_neg, if_pos ⟨by omega, by rw [hsame a (by omega)]; exact hc.2.1, by rw [hsame (a + 1) (by omega)]; exact hc.2.2⟩]
          rintro ⟨_, h6⟩
          rw [hsame a (by omega), hc.2.1] at h6
          cases h6
        rw [e]
        by_cases hLn : L = s.size
        · right
          have hpn : p = s.size := by omega
          refine ⟨hpn, f', by omega, ?_⟩
          congr 1
          have hlu := lineE_is (b := (txt u).b) (n := u.size) u.size p (by omega) (by omega)
          have hlin := lineE_in (txt u).b u.size u.size p (by omega)
          refine lineE_of _ _ (by omega) (by omega) hlin.2 (fun j h6 h7 => ?_) hlu.2
          by_cases hj : j < p
          · rw [hsame j hj]
            exact hL.1 j h6 (by omega)
          · exact hlu.1 j (by omega) h7
        · have h10 : (txt s).b L = 10 := by
            rcases hL.2 with h8 | h8
            · omega
            · exact h8
          have hLp : L < p := by
            obtain ⟨f, rfl⟩ : ∃ g, f = g + 1 := ⟨f - 1, by omega⟩
            rw [blankE, if_pos ⟨by omega, by rw [h10]; rfl⟩] at hb
            have := (blankE_in (txt s).b s.size f (L + 1) (by omega)).1
            omega
          have hLu : lineE (txt u).b u.size u.size a = L := lineE_of _ _ (by omega) (by omega) (by omega) (fun j h6 h7 => by
            rw [hsame j (by omega)]
            exact hL.1 j h6 h7) (.inr (by rw [hsame L hLp]; exact h10))
          rw [hLu]
          exact blank_to h f f' L (by omega) (by omega) (by omega) (by omega) hb
      · rw [if_neg hc] at hb
        subst hb
        exact .inl ⟨f' + 1, by omega, rfl⟩
/-- What is not blank ends it. -/
def StopAt (b : Nat → Nat) (n q : Nat) : Prop := q = n ∨ (wsN (b q) = false ∧ b q ≠ 47)
theorem blank_stop {b : Nat → Nat} {n q : Nat} (h : StopAt b n q) (f : Nat) : blankE b n f q = q := by
  rcases h with rfl | ⟨h1, h2⟩
  · exact blank_end
  · exact blank_not h1 h2
theorem blank_stops {b : Nat → Nat} {n : Nat} : ∀ (f a : Nat), a ≤ n → n < a + f → (blankE b n f a = n ∨ wsN (b (blankE b n f a)) = false)
  | 0, a, _, _ => by omega
  | f + 1, a, h1, h2 => by
    rw [blankE]
    split
    · exact blank_stops f (a + 1) (by omega) (by omega)
    · rename_i hw
      split
      · rename_i hc
        have hgt := lineE_past (b := b) (n := n) (f := n) (a := a) (by omega) (by rw [hc.2.1]; omega) (by omega)
        have hin := lineE_in b n n a h1
        exact blank_stops f _ hin.2 (by omega)
      · by_cases e : a = n
        · exact .inl e
        · right
          cases hww : wsN (b a) with
          | false => rfl
          | true => exact absurd ⟨by omega, hww⟩ hw
/-- What is put in is left behind. -/
structure Blanks (u : ByteArray) (p m : Nat) : Prop where
  fits : p + m ≤ u.size
  first : partN ((txt u).b p) = false
  some_ : 0 < m
  left : ∀ f, u.size < p + f → StopAt (txt u).b u.size (p + m) → blankE (txt u).b u.size f p = p + m
  line : p + m = u.size → ∀ f, u.size < p + f → blankE (txt u).b u.size f (lineE (txt u).b u.size u.size p) = p + m
theorem line_to {u : ByteArray} {q : Nat} {T : List UInt8} (h : Stands u q (T ++ [10])) (hT : ∀ x ∈ T, x ≠ 10) : lineE (txt u).b u.size u.size q = q + T.length := by
  have hl := h.1
  simp only [List.length_append, List.length_singleton] at hl
  refine lineE_of _ _ (by omega) (by omega) (by omega) (fun j h1 h2 => ?_) (.inr ?_)
  · obtain ⟨i, rfl⟩ : ∃ i, j = q + i := ⟨j - q, by omega⟩
    have hi : i < T.length := by omega
    rw [h.2 i T[i] (by rw [List.getElem?_append_left hi]; exact List.getElem?_eq_getElem hi)]
    intro e
    exact hT T[i] (List.getElem_mem hi) (UInt8.toNat_inj.1 e)
  · exact h.2 T.length 10 (by rw [List.getElem?_append_right (Nat.le_refl _), Nat.sub_self]; rfl)
theorem comment_to {u : ByteArray} {q f : Nat} {T : List UInt8} (h : Stands u q (47 :: 47 :: (T ++ [10]))) (hT : ∀ x ∈ T, x ≠ 10) (hf : u.size < q + f) : ∃ g, u.size < q + (T.length + 3) + g ∧ blankE (txt u).b u.size f q = blankE (txt u).b u.size g (q + (T.length + 3)) := by
  have hl := h.1
  simp only [List.length_cons, List.length_append, List.length_nil] at hl
  have b0 : (txt u).b q = 47 := h.2 0 47 rfl
  have b1 : (txt u).b (q + 1) = 47 := h.2 1 47 rfl
  have hL := line_to (q := q) (T := 47 :: 47 :: T) (by simpa using h) (by
    intro x hx
    simp only [List.mem_cons] at hx
    rcases hx with rfl | rfl | hx
    · decide
    · decide
    · exact hT x hx)
  have b10 : (txt u).b (q + (T.length + 2)) = 10 := h.2 (T.length + 2) 10 (by
    rw [List.getElem?_cons_succ, List.getElem?_cons_succ, List.getElem?_append_right (Nat.le_refl _), Nat.sub_self]
    rfl)
  simp only [List.length_cons] at hL
  obtain ⟨f, rfl⟩ : ∃ g, f = g + 2 := ⟨f - 2, by omega⟩
  refine ⟨f, by omega, ?_⟩
  rw [show f + 2 = (f + 1) + 1 by omega, blankE, if_neg (by rw [b0]; rintro ⟨_, h⟩; cases h), if_pos ⟨by omega, b0, b1⟩, hL]
  rw [show q + (T.length + 1 + 1) = q + (T.length + 2) by omega, blank_ws (by omega) (by rw [b10]; rfl)]
  rfl
theorem blanks0 {u : ByteArray} {p : Nat} (h : Stands u p [32]) : Blanks u p 1 where
  fits := h.1
  first := by rw [show (txt u).b p = 32 from h.2 0 32 rfl]; decide
  some_ := by omega
  left f hf hs := by
    have hl := h.1
    have b0 : (txt u).b p = 32 := h.2 0 32 rfl
    simp only [List.length_singleton] at hl
    obtain ⟨f, rfl⟩ : ∃ g, f = g + 1 := ⟨f - 1, by omega⟩
    rw [blank_ws (by omega) (by rw [b0]; rfl)]
    exact blank_stop hs f
  line hn f hf := by
    have b0 : (txt u).b p = 32 := h.2 0 32 rfl
    have hL : lineE (txt u).b u.size u.size p = p + 1 := lineE_of _ _ (by omega) (by omega) (by omega) (fun j h1 h2 => by
      rw [show j = p by omega, b0]; omega) (.inl hn)
    rw [hL]
    exact blank_stop (.inl hn) f
theorem blanks1 {u : ByteArray} {p : Nat} (h : Stands u p [10, 9]) : Blanks u p 2 where
  fits := h.1
  first := by rw [show (txt u).b p = 10 from h.2 0 10 rfl]; decide
  some_ := by omega
  left f hf hs := by
    have hl := h.1
    have b0 : (txt u).b p = 10 := h.2 0 10 rfl
    have b1 : (txt u).b (p + 1) = 9 := h.2 1 9 rfl
    simp only [List.length_cons, List.length_nil] at hl
    obtain ⟨f, rfl⟩ : ∃ g, f = g + 2 := ⟨f - 2, by omega⟩
    rw [show f + 2 = (f + 1) + 1 by omega, blank_ws (by omega) (by rw [b0]; rfl), blank_ws (by omega) (by rw [b1]; rfl)]
    exact blank_stop hs f
  line hn f hf := by
    have b0 : (txt u).b p = 10 := h.2 0 10 rfl
    have b1 : (txt u).b (p + 1) = 9 := h.2 1 9 rfl
    have hL : lineE (txt u).b u.size u.size p = p := lineE_of _ _ (by omega) (by omega) (by omega) (fun j h1 h2 => by omega) (.inr b0)
    rw [hL]
    obtain ⟨f, rfl⟩ : ∃ g, f = g + 2 := ⟨f - 2, by omega⟩
    rw [show f + 2 = (f + 1) + 1 by omega, blank_ws (by omega) (by rw [b0]; rfl), blank_ws (by omega) (by rw [b1]; rfl)]
    exact blank_stop (.inl hn) f
theorem blanks2 {u : ByteArray} {p : Nat} (h : Stands u p [47, 47, 32, 105, 116, 39, 115, 10]) : Blanks u p 8 where
  fits := h.1
  first := by rw [show (txt u).b p = 47 from h.2 0 47 rfl]; decide
  some_ := by omega
  left f hf hs := by
    obtain ⟨g, _, e⟩ := comment_to (T := [32, 105, 116, 39, 115]) h (by decide) hf
    rw [e]
    exact blank_stop hs g
  line hn f hf := by
    have hL := line_to (T := [47, 47, 32, 105, 116, 39, 115]) h (by decide)
    have b7 : (txt u).b (p + 7) = 10 := h.2 7 10 rfl
    rw [hL]
    obtain ⟨f, rfl⟩ : ∃ g, f = g + 1 := ⟨f - 1, by omega⟩
    show blankE _ _ (f + 1) (p + 7) = _
    rw [blank_ws (by omega) (by rw [b7]; rfl)]
    exact blank_stop (.inl hn) f
theorem blanks3 {u : ByteArray} {p : Nat} (h : Stands u p [47, 47, 10, 47, 47, 93, 10]) : Blanks u p 7 where
  fits := h.1
  first := by rw [show (txt u).b p = 47 from h.2 0 47 rfl]; decide
  some_ := by omega
  left f hf hs := by
    obtain ⟨h1, h2⟩ := stands_app (t := [47, 47, 10]) (u := [47, 47, 93, 10]) h
    obtain ⟨g, hg, e⟩ := comment_to (T := []) h1 (by simp) hf
    obtain ⟨g2, _, e2⟩ := comment_to (T := [93]) h2 (by decide) hg
    rw [e]
    have e3 : p + ([] : List UInt8).length + 3 = p + 3 := rfl
    exact e2.trans (blank_stop hs g2)
  line hn f hf := by
    obtain ⟨h1, h2⟩ := stands_app (t := [47, 47, 10]) (u := [47, 47, 93, 10]) h
    have hL := line_to (T := [47, 47]) h1 (by decide)
    have b2 : (txt u).b (p + 2) = 10 := h.2 2 10 rfl
    rw [hL]
    obtain ⟨f, rfl⟩ : ∃ g, f = g + 1 := ⟨f - 1, by omega⟩
    show blankE _ _ (f + 1) (p + 2) = _
    rw [blank_ws (by omega) (by rw [b2]; rfl)]
    obtain ⟨g2, _, e2⟩ := comment_to (T := [93]) (f := f) h2 (by decide) (by simp only [List.length_cons, List.length_nil]; omega)
    exact e2.trans (blank_stop (.inl hn) g2)
/-- Behind a part, or ahead of all, what is blank is left behind up to the next part, with what is put in. -/
theorem blank_step {s u : ByteArray} {p m e q : Nat} (hu : u.size = s.size + m) (h1 : Agree s u 0 0 p) (h2 : Agree s u m p s.size) (hB : Blanks u p m) (he : e ≤ s.size) (hq : blankE (txt s).b s.size (s.size + 1) e = q) (hqp : q ≤ p) (h47 : q < s.size → (txt s).b q ≠ 47) :
    blankE (txt u).b u.size (u.size + 1) e = if q = p then q + m else q := by
  have hS := h1.inS
  have hst := blank_stops (b := (txt s).b) (n := s.size) (s.size + 1) e he (by omega)
  have hin := blankE_in (txt s).b s.size (s.size + 1) e he
  rw [hq] at hst hin
  split
  · rename_i hqe
    subst hqe
    rcases blank_to h1 (s.size + 1) (u.size + 1) e he hin.1 (by omega) (by omega) hq with ⟨g, hg, e1⟩ | ⟨hn, g, hg, e1⟩
    · rw [e1]
      refine hB.left g hg ?_
      by_cases hqn : q = s.size
      · left; omega
      · right
        have := h2.same q (Nat.le_refl _) (by omega)
        rw [this]
        rcases hst with h3 | h3
        · omega
        · exact ⟨h3, h47 (by omega)⟩
    · rw [e1]
      exact hB.line (by omega) g hg
  · rename_i hqe
    rcases blank_to (h1.cut (Nat.le_refl _) hqp) (s.size + 1) (u.size + 1) e he hin.1 (by omega) (by omega) hq with ⟨g, hg, e1⟩ | ⟨hn, g, hg, e1⟩
    · rw [e1]
      refine blank_stop (.inr ?_) g
      rw [show (txt u).b q = (txt s).b q from h1.same q (Nat.zero_le _) (by omega)]
      rcases hst with h3 | h3
      · omega
      · exact ⟨h3, h47 (by omega)⟩
    · omega

/-- A part, its set as it is read. -/
structure Pt where
  k : Int
  a : Nat
  e : Nat
  t : ByteArray
  g : Option (List Rg)
def Pt.by (d : Nat) (x : Pt) : Pt := ⟨x.k, x.a + d, x.e + d, x.t, x.g⟩
def allL (s : ByteArray) : Nat → Nat → Option (List Pt)
  | 0, _ => some []
  | f + 1, a =>
    if a < s.size then
      match nextX s a with
      | .bad _ _ => none
      | .tok k e t g => (allL s f (blankE (txt s).b s.size (s.size + 1) e)).map (⟨k, a, e, t, g⟩ :: ·)
    else some [⟨0, s.size, s.size, ⟨#[]⟩, none⟩]
theorem allL_shift {s u : ByteArray} {p m : Nat} (hu : u.size = s.size + m) (h2 : Agree s u m p s.size) : ∀ (f f' a : Nat) (l : List Pt), p ≤ a → a ≤ s.size → s.size < a + f → u.size < a + m + f' → allL s f a = some l → allL u f' (a + m) = some (l.map (Pt.by m))
  | 0, _, a, _, _, _, _, _ => by omega
  | f + 1, f', a, l, h3, h4, h5, h6 => by
    intro hl
    obtain ⟨f', rfl⟩ : ∃ g, f' = g + 1 := ⟨f' - 1, by omega⟩
    rw [allL] at hl ⊢
    by_cases hlt : a < s.size
    · rw [if_pos hlt] at hl
      rw [if_pos (by omega)]
      cases hx : nextX s a with
      | bad c q => rw [hx] at hl; cases hl
      | tok k e t g =>
        rw [hx] at hl
        simp only [Option.map_eq_some_iff] at hl
        obtain ⟨r, hr, rfl⟩ := hl
        have hin := nextX_in hlt hx
        rw [nextX_al h2 h3 hlt hx hin.2 (.inl hu.symm)]
        simp only []
        have hbi := blankE_in (txt s).b s.size (s.size + 1) e hin.2
        rw [blank_shift h2 hu (s.size + 1) (u.size + 1) e (by omega) hin.2 (by omega) (by omega)]
        rw [allL_shift hu h2 f f' _ r (by omega) hbi.2 (by omega) (by omega) hr]
        rfl
    · rw [if_neg hlt] at hl
      cases hl
      rw [if_neg (by omega)]
      simp [Pt.by, hu]
theorem allL_at {s : ByteArray} {f a : Nat} {l : List Pt} (h : allL s f a = some l) (ha : a ≤ s.size) (hf : s.size < a + f) : ∃ x r, l = x :: r ∧ x.a = a ∧ (a < s.size → (txt s).b a ≠ 47) := by
  obtain ⟨f, rfl⟩ : ∃ g, f = g + 1 := ⟨f - 1, by omega⟩
  rw [allL] at h
  by_cases hlt : a < s.size
  · rw [if_pos hlt] at h
    cases hx : nextX s a with
    | bad c q => rw [hx] at h; cases h
    | tok k e t g =>
      rw [hx] at h
      simp only [Option.map_eq_some_iff] at h
      obtain ⟨r, hr, rfl⟩ := h
      exact ⟨_, r, rfl, rfl, fun _ => nextX_slash hx⟩
  · rw [if_neg hlt] at h
    cases h
    exact ⟨_, [], rfl, by show s.size = a; omega, fun h => absurd h hlt⟩
theorem allL_ge {s : ByteArray} : ∀ (f a : Nat) (l : List Pt) (k : Nat) (x : Pt), allL s f a = some l → a ≤ s.size → l[k]? = some x → a + k ≤ x.a ∧ x.a ≤ s.size
  | 0, a, l, k, x, h, _, hx => by
    rw [allL] at h
    cases h
    cases hx
  | f + 1, a, l, k, x, h, ha, hk => by
    rw [allL] at h
    by_cases hlt : a < s.size
    · rw [if_pos hlt] at h
      cases hx : nextX s a with
      | bad c q => rw [hx] at h; cases h
      | tok k0 e t g =>
        rw [hx] at h
        simp only [Option.map_eq_some_iff] at h
        obtain ⟨r, hr, rfl⟩ := h
        have hin := nextX_in hlt hx
        have hbi := blankE_in (txt s).b s.size (s.size + 1) e hin.2
        cases k with
        | zero =>
          simp only [List.getElem?_cons_zero, Option.some.injEq] at hk
          subst hk
          exact ⟨Nat.le_refl _, ha⟩
        | succ k =>
          rw [List.getElem?_cons_succ] at hk
          have := allL_ge f _ r k x hr hbi.2 hk
          exact ⟨by omega, this.2⟩
    · rw [if_neg hlt] at h
      cases h
      cases k with
      | zero =>
        simp only [List.getElem?_cons_zero, Option.some.injEq] at hk
        subst hk
        exact ⟨by show a + 0 ≤ s.size; omega, Nat.le_refl _⟩
      | succ k => simp at hk
theorem spread {s u : ByteArray} {p m : Nat} (hu : u.size = s.size + m) (h1 : Agree s u 0 0 p) (h2 : Agree s u m p s.size) (hB : Blanks u p m) : ∀ (f f' a : Nat) (l : List Pt) (k : Nat) (x : Pt), allL s f a = some l → a ≤ s.size → s.size < a + f → u.size < a + f' → l[k]? = some x → x.a = p →
    allL u f' (if k = 0 then a + m else a) = some (l.take k ++ (l.drop k).map (Pt.by m))
  | 0, _, a, _, _, _, _, _, hf, _, _, _ => by omega
  | f + 1, f', a, l, k, x, hl, ha, hf, hf', hk, hxp => by
    have hS := h1.inS
    by_cases hk0 : k = 0
    · subst hk0
      rw [if_pos rfl, List.take_zero, List.drop_zero, List.nil_append]
      obtain ⟨y, r, rfl, hy, _⟩ := allL_at hl ha hf
      simp only [List.getElem?_cons_zero, Option.some.injEq] at hk
      subst hk
      exact allL_shift hu h2 (f + 1) f' a _ (by omega) ha hf (by omega) hl
    · obtain ⟨j, rfl⟩ : ∃ j, k = j + 1 := ⟨k - 1, by omega⟩
      rw [if_neg hk0]
      have hge := allL_ge _ _ _ _ _ hl ha hk
      obtain ⟨f', rfl⟩ : ∃ g, f' = g + 1 := ⟨f' - 1, by omega⟩
      rw [allL] at hl ⊢
      have hlt : a < s.size := by omega
      rw [if_pos hlt] at hl
      rw [if_pos (by omega)]
      cases hx : nextX s a with
      | bad c q => rw [hx] at hl; cases hl
      | tok k0 e t g =>
        rw [hx] at hl
        simp only [Option.map_eq_some_iff] at hl
        obtain ⟨r, hr, rfl⟩ := hl
        have hin := nextX_in hlt hx
        have hbi := blankE_in (txt s).b s.size (s.size + 1) e hin.2
        rw [List.getElem?_cons_succ] at hk
        obtain ⟨q, hq⟩ : ∃ q, blankE (txt s).b s.size (s.size + 1) e = q := ⟨_, rfl⟩
        rw [hq] at hr hbi
        have hgr := allL_ge _ _ _ _ _ hr hbi.2 hk
        obtain ⟨y, r', hyr, hy, h47⟩ := allL_at hr hbi.2 (by omega)
        have hxn := nextX_al h1 (Nat.zero_le a) hlt hx (by omega) (.inr (by rw [Nat.add_zero]; exact hB.first))
        rw [Nat.add_zero, Nat.add_zero] at hxn
        rw [hxn]
        simp only []
        rw [blank_step hu h1 h2 hB hin.2 hq (by omega) h47]
        have hc : (if q = p then q + m else q) = if j = 0 then q + m else q := by
          by_cases hj : j = 0
          · subst hj
            rw [hyr] at hk
            simp only [List.getElem?_cons_zero, Option.some.injEq] at hk
            subst hk
            rw [if_pos (by omega), if_pos rfl]
          · rw [if_neg (by omega), if_neg hj]
        rw [hc, spread hu h1 h2 hB f f' q r j x hr hbi.2 (by omega) (by omega) hk hxp]
        rfl
/-- The law's maths: what is blank put ahead of a part lets the parts stay the same. -/
theorem spread_all {s u : ByteArray} {p m : Nat} (hu : u.size = s.size + m) (h1 : Agree s u 0 0 p) (h2 : Agree s u m p s.size) (hB : Blanks u p m) {l : List Pt} {k : Nat} {x : Pt} (hl : allL s (s.size + 1) (blankE (txt s).b s.size (s.size + 1) 0) = some l) (hk : l[k]? = some x) (hxp : x.a = p) :
    allL u (u.size + 1) (blankE (txt u).b u.size (u.size + 1) 0) = some (l.take k ++ (l.drop k).map (Pt.by m)) := by
  have hbi := blankE_in (txt s).b s.size (s.size + 1) 0 (Nat.zero_le _)
  obtain ⟨q, hq⟩ : ∃ q, blankE (txt s).b s.size (s.size + 1) 0 = q := ⟨_, rfl⟩
  rw [hq] at hl hbi
  obtain ⟨y, r', hyr, hy, h47⟩ := allL_at hl hbi.2 (by omega)
  have hge := allL_ge _ _ _ _ _ hl hbi.2 hk
  rw [blank_step hu h1 h2 hB (Nat.zero_le _) hq (by omega) h47]
  have hc : (if q = p then q + m else q) = if k = 0 then q + m else q := by
    by_cases hj : k = 0
    · subst hj
      rw [hyr] at hk
      simp only [List.getElem?_cons_zero, Option.some.injEq] at hk
      subst hk
      rw [if_pos (by omega), if_pos rfl]
    · rw [if_neg (by omega), if_neg hj]
  rw [hc]
  exact spread hu h1 h2 hB _ _ q l k x hl hbi.2 (by omega) (by omega) hk hxp

end Go.Proofs.YtfjlhfalnciamaaDoor.Lex

namespace Go.Proofs.YtfjlhfalnciamaaDoor.Lex
open Go Go.RowKit Go.Proofs.Chars
open Go.Proofs.YtfjlhfalnciamaaDoor.Utf Go.Proofs.YtfjlhfalnciamaaDoor.Chars

/-- A part's set in memory, as it is read. -/
def SetAt (w : World) (S : Nat) : Option (List Rg) → Value → Prop
  | none, v => v = .slice none 0 0
  | some l, v => ∃ O, Rowed w S v O ∧ IsOf l O ∧ O.length ≤ l.length
theorem SetAt.of {W w' : World} {g : Option (List Rg)} {v : Value} (h : SetIs W w' g v) : SetAt w' W.heap.size g v := by
  cases g with
  | none => exact h
  | some l => exact h
theorem SetAt.low {w : World} {S S' : Nat} {g : Option (List Rg)} {v : Value} (h : SetAt w S g v) (hS : S' ≤ S) : SetAt w S' g v := by
  cases g with
  | none => exact h
  | some l => obtain ⟨O, h1, h2⟩ := h; exact ⟨O, h1.low hS, h2⟩
theorem SetAt.stay {w w' : World} {S : Nat} {g : Option (List Rg)} {v : Value} (h : SetAt w S g v) (hb : Below w.heap.size w w') : SetAt w' S g v := by
  cases g with
  | none => exact h
  | some l => obtain ⟨O, h1, h2⟩ := h; exact ⟨O, h1.stay hb, h2⟩
theorem SetAt.setLow {w : World} {S : Nat} {g : Option (List Rg)} {v : Value} (h : SetAt w S g v) {p : Addr} (hp : p.block < S) (u : Value) : SetAt (w.setCell p u) S g v := by
  cases g with
  | none => exact h
  | some l =>
    obtain ⟨O, h1, h2⟩ := h
    exact ⟨O, h1.setFar (p := p) (fun e => by have := (h1.lt _ e).1; omega) u, h2⟩
theorem rowed_apart {w : World} {S B e n : Nat} {v v' : Value} {L : List Rg} {xs : List Value} {size : Nat} (h : Rowed w S v L) (h' : w.ownsRow B e size v' n xs) (hne : e ≠ 44) : apart v v' := by
  intro g hg hg'
  rcases h.2 with ⟨rfl, _⟩ | ⟨g1, cap, cur, rfl, _, e3, _⟩
  · cases hg
  · rcases h'.2 with ⟨rfl, _⟩ | ⟨g2, cap2, cur2, rfl, _, e32, _⟩
    · cases hg'
    · cases hg
      cases hg'
      rw [e3] at e32
      cases e32
      exact hne rfl
theorem SetAt.grown {w w' : World} {S B e n size : Nat} {g : Option (List Rg)} {v v' : Value} {xs : List Value} (h : SetAt w S g v) (h' : w.ownsRow B e size v' n xs) (hne : e ≠ 44) (hg : w.grownBy w' v'.ownBlock) : SetAt w' S g v := by
  cases g with
  | none => exact h
  | some l =>
    obtain ⟨O, h1, h2⟩ := h
    exact ⟨O, h1.grown hg (rowed_apart h1 h' hne), h2⟩
/-- The parts are these, their sets as they are read. -/
def SetsOf (w : World) (S : Nat) (L : List Tk) (G : List Pt) : Prop :=
  L.length = G.length ∧ ∀ (i : Nat) (x : Tk) (y : Pt), L[i]? = some x → G[i]? = some y → keyT x = (y.k, y.a, y.e, y.t) ∧ SetAt w S y.g x.v
theorem SetsOf.nil {w : World} {S : Nat} : SetsOf w S [] [] := ⟨rfl, fun i x y h => by cases h⟩
theorem SetsOf.stay {w w' : World} {S : Nat} {L : List Tk} {G : List Pt} (h : SetsOf w S L G) (hb : Below w.heap.size w w') : SetsOf w' S L G :=
  ⟨h.1, fun i x y hx hy => ⟨(h.2 i x y hx hy).1, (h.2 i x y hx hy).2.stay hb⟩⟩
theorem SetsOf.low {w : World} {S S' : Nat} {L : List Tk} {G : List Pt} (h : SetsOf w S L G) (hS : S' ≤ S) : SetsOf w S' L G :=
  ⟨h.1, fun i x y hx hy => ⟨(h.2 i x y hx hy).1, (h.2 i x y hx hy).2.low hS⟩⟩
theorem SetsOf.setLow {w : World} {S : Nat} {L : List Tk} {G : List Pt} (h : SetsOf w S L G) {p : Addr} (hp : p.block < S) (u : Value) : SetsOf (w.setCell p u) S L G :=
  ⟨h.1, fun i x y hx hy => ⟨(h.2 i x y hx hy).1, (h.2 i x y hx hy).2.setLow hp u⟩⟩
theorem SetsOf.grown {w w' : World} {S B e n size : Nat} {L : List Tk} {G : List Pt} {v' : Value} {xs : List Value} (h : SetsOf w S L G) (h' : w.ownsRow B e size v' n xs) (hne : e ≠ 44) (hg : w.grownBy w' v'.ownBlock) : SetsOf w' S L G :=
  ⟨h.1, fun i x y hx hy => ⟨(h.2 i x y hx hy).1, (h.2 i x y hx hy).2.grown h' hne hg⟩⟩
theorem SetsOf.snoc {w : World} {S : Nat} {L : List Tk} {G : List Pt} (h : SetsOf w S L G) {x : Tk} {y : Pt} (hk : keyT x = (y.k, y.a, y.e, y.t)) (hs : SetAt w S y.g x.v) : SetsOf w S (L ++ [x]) (G ++ [y]) := by
  refine ⟨by simp [h.1], fun i a b ha hb => ?_⟩
  by_cases hi : i < L.length
  · rw [List.getElem?_append_left hi] at ha
    rw [List.getElem?_append_left (by rw [← h.1]; exact hi)] at hb
    exact h.2 i a b ha hb
  · rw [List.getElem?_append_right (by omega)] at ha
    rw [List.getElem?_append_right (by rw [← h.1]; omega), ← h.1] at hb
    generalize i - L.length = j at ha hb
    cases j with
    | zero =>
      simp only [List.getElem?_cons_zero, Option.some.injEq] at ha hb
      subst ha; subst hb
      exact ⟨hk, hs⟩
    | succ j => simp at ha
def partsE (s : ByteArray) : Option (List Pt) := allL s (s.size + 1) (blankE (txt s).b s.size (s.size + 1) 0)
def AllS (W : World) (o : Option (List Pt)) (e : Ending) (w' : World) : Prop :=
  match o with
  | none => ∃ (c : Int) (p : Nat), c ≠ 0 ∧ e = .returned (.tuple #[.slice none 0 0, stopV c p]) ∧ Below W.heap.size W w'
  | some G => ∃ v L, e = .returned (.tuple #[v, stopV 0 0]) ∧ Toks w' W.heap.size v L ∧ SetsOf w' W.heap.size L G ∧ Below W.heap.size W w'
theorem allL_end {s : ByteArray} {f a : Nat} (h : ¬ a < s.size) (hf : 0 < f) : allL s f a = some [⟨0, s.size, s.size, ⟨#[]⟩, none⟩] := by
  obtain ⟨f, rfl⟩ : ∃ g, f = g + 1 := ⟨f - 1, by omega⟩
  rw [allL, if_neg h]

set_option maxHeartbeats 2000000 in
set_option maxRecDepth 100000 in
theorem all_sets (s : ByteArray) (hbig : ¬ 20000 < s.size) (W : World) (T : U8 W) : Calls Tryd.prog 35 #[.string s] W fun e w' => AllS W (partsE s) e w' := by
  obtain ⟨i0, hi, hz0, hz1, hz2⟩ := info_parts info62
  obtain ⟨E, hE⟩ : ∃ E, partsE s = E := ⟨_, rfl⟩
  rw [hE]
  unfold partsE at hE
  have hbS : Below W.heap.size W (W.alloc S0) := (Below.refl _ _).alloc (Nat.le_refl _) _
  · have d1 : ¬ (20000 : Int) < (s.size : Int) := by omega
    have d2 : decide ((20000 : Int) < (s.size : Int)) = false := decide_eq_false d1
    have hbk := blankE_in (txt s).b s.size (s.size + 1) 0 (Nat.zero_le _)
    have HB0 := Lib.hid (fun w => blank_any s (by omega) 0 (Nat.zero_le _) w)
    obtain ⟨p0, hp0⟩ : ∃ p0, blankE (txt s).b s.size (s.size + 1) 0 = p0 := ⟨_, rfl⟩
    rw [hp0] at hE hbk HB0
    have HE := Lib.hid hE
    have HT := Lib.hid T
    have HBS := Lib.hid hbS
    clear T hbS hE hp0 hbig
    go_enter Tryd.func35, Tryd.ntmps35
    go_wp2_with (go_at_call 60; refine (HB0.out _).mono ?_; rintro e w' ⟨rfl, rfl⟩)
    go_loopw [4, 5, 6, 7] (fun x4 x5 x6 x7 wx => ∃ (p f : Nat) (L : List Tk) (G : List Pt), p ≤ s.size ∧ s.size < p + f ∧ x5 = .int .i64 (p : Int) ∧ L.length ≤ p ∧ (allL s f p).map (G ++ ·) = E ∧ SetsOf wx (W.heap.size + 1) L G ∧ Toks wx (W.heap.size + 1) x4 L ∧ Below (W.heap.size + 1) (W.alloc S0) wx) (fun _ x5 _ _ _ => s.size - (intOf x5).toNat)
    case atStart => exact ⟨p0, s.size + 1, [], [], hbk.2, by omega, rfl, Nat.zero_le _, by rw [← HE.out]; cases allL s (s.size + 1) p0 <;> rfl, SetsOf.nil, ⟨rfl, .inl ⟨rfl, rfl⟩⟩, Below.refl _ _⟩
    case round =>
      obtain ⟨p, f, L, G, hp, hf, rfl, hLp, hgo, hso, htk, hB⟩ := hrel
      have HS := Lib.hid hso
      have HG := Lib.hid hgo
      have HK := Lib.hid htk
      have HB := Lib.hid hB
      have hszr : W.heap.size + 1 ≤ wr.heap.size := by have := hB.size; simpa using this
      have hbl : wr.heap[W.heap.size]? = some (.cells #[.int .i64 0, .int .i64 0] 48 (0, 0)) := (hB.block _ (by omega)).trans (heap_alloc_new W S0)
      have HBL := Lib.hid hbl
      clear hgo htk hB hbl hso
      by_cases hlt : p < s.size
      · have g1 : (p : Int) < (s.size : Int) := by omega
        have g2 : decide ((p : Int) < (s.size : Int)) = true := decide_eq_true g1
        obtain ⟨f, rfl⟩ : ∃ g, f = g + 1 := ⟨f - 1, by omega⟩
        have hWr : Below W.heap.size W wr := HBS.out.trans (HB.out.mono (by omega))
        have HN := Lib.hid (nextX_any s (by omega) p hlt wr (HT.out.stay hWr))
        have hgo := HG.out
        rw [allL, if_pos hlt] at hgo
        cases hnx : nextX s p with
        | bad c q =>
          simp only [hnx, Option.map_none] at hgo
          rw [hnx] at HN
          have EQ := Lib.hid hgo.symm
          have hnx2 := Lib.hid hnx
          clear hgo HG hnx hWr
          go_wp2_with fail
          refine HN.out.mono ?_
          rintro e w1 ⟨rfl, hb⟩
          have hb2 : Below wr.heap.size wr ((w1.alloc T0).alloc (.cells #[.int .i64 c, .int .i64 (q : Int)] 48)) := (hb.alloc hb.size _).alloc (by have := hb.size; simp; omega) _
          have hB2 := HBS.out.trans ((HB.out.trans (hb2.mono hszr)).mono (by omega))
          have hy : ((w1.alloc T0).alloc (.cells #[.int .i64 c, .int .i64 (q : Int)] 48)).heap[w1.heap.size + 1]? = some (.cells #[.int .i64 c, .int .i64 (q : Int)] 48 (0, 0)) := by
            have h := (MapKept.heap_alloc (w1.alloc T0) (.cells #[.int .i64 c, .int .i64 (q : Int)] 48)).1
            rw [show (w1.alloc T0).heap.size = w1.heap.size + 1 by simp] at h
            exact h
          have hbl2 := (hb2.block W.heap.size (by omega)).trans HBL.out
          have hc0 : (c != 0) = true := by simpa using nextX_code hnx2.out
          have HC0 := Lib.hid (nextX_code hnx2.out)
          have HF := Lib.hid (fun p q => ((hB2.setCell (p := ⟨W.heap.size, 0, none⟩) (Nat.le_refl _) p).setCell (p := ⟨W.heap.size, 1, none⟩) (Nat.le_refl _) q).drew)
          have hne : w1.heap.size + 1 ≠ W.heap.size := by have := hb.size; omega
          clear hb hb2 hB2 HN HK HB hnx2
          unfold tokV stopV
          go_upto_region 8 with fail
          generalize ((w1.alloc T0).alloc (.cells #[.int .i64 c, .int .i64 (q : Int)] 48)) = w2 at *
          have y0 : w2.cell? ⟨w1.heap.size + 1, 0, none⟩ = some (.int .i64 c) := by rw [Lib.cell_of_heap hy]; rfl
          have y1 : w2.cell? ⟨w1.heap.size + 1, 1, none⟩ = some (.int .i64 (q : Int)) := by rw [Lib.cell_of_heap hy]; rfl
          have c0 : w2.cell? ⟨W.heap.size, 0, none⟩ = some (.int .i64 0) := by rw [Lib.cell_of_heap hbl2]; rfl
          have c1 : w2.cell? ⟨W.heap.size, 1, none⟩ = some (.int .i64 0) := by rw [Lib.cell_of_heap hbl2]; rfl
          have f0 := Lib.frozen_of_heap hbl2 0
          have f1 := Lib.frozen_of_heap hbl2 1
          clear hy hbl2
          go_region
          go_wp2
          refine bodyPost_ret (v := .tuple #[.slice none 0 0, stopV c q]) (by simp [results, Tryd.results35, go_sem, stopV, c0, c1]) rfl ?_
          rw [EQ.out]
          exact ⟨c, q, HC0.out, rfl, HF.out _ _⟩
        | tok k z t g =>
          simp only [hnx] at hgo
          rw [hnx] at HN
          have hin := nextX_in hlt hnx
          have hbz := blankE_in (txt s).b s.size (s.size + 1) z hin.2
          have HBK := Lib.hid (fun w => blank_any s (by omega) z hin.2 w)
          obtain ⟨p', hp'⟩ : ∃ p', blankE (txt s).b s.size (s.size + 1) z = p' := ⟨_, rfl⟩
          rw [hp'] at hgo hbz HBK
          have HGO := Lib.hid hgo
          clear hgo HG hnx hWr hp'
          go_wp2_with fail
          refine HN.out.mono ?_
          rintro e w1 ⟨v, rfl, hset, hb⟩
          obtain ⟨A, m, cap, rfl⟩ := hset.form
          have HSA := Lib.hid ((SetAt.of hset).low hszr)
          have hb2 : Below wr.heap.size wr ((w1.alloc (.cells #[.int .i64 k, .int .i64 (p : Int), .int .i64 (z : Int), .string t, .slice A m cap] 62)).alloc S0) := (hb.alloc hb.size _).alloc (by have := hb.size; simp; omega) _
          have HK2 := Lib.hid (HK.out.stay hb2)
          have HB2 := Lib.hid (HB.out.trans (hb2.mono hszr))
          have HS2 := Lib.hid ((HS.out.stay hb2).snoc (x := ⟨k, p, z, t, .slice A m cap⟩) (y := ⟨k, p, z, t, g⟩) rfl (HSA.out.stay (two_allocs w1 _ S0)))
          have hx : ((w1.alloc (.cells #[.int .i64 k, .int .i64 (p : Int), .int .i64 (z : Int), .string t, .slice A m cap] 62)).alloc S0).heap[w1.heap.size]? = some (.cells #[.int .i64 k, .int .i64 (p : Int), .int .i64 (z : Int), .string t, .slice A m cap] 62 (0, 0)) := (((MapKept.heap_alloc _ _).2 _ (by simp))).trans (heap_alloc_new _ _)
          have hy : ((w1.alloc (.cells #[.int .i64 k, .int .i64 (p : Int), .int .i64 (z : Int), .string t, .slice A m cap] 62)).alloc S0).heap[w1.heap.size + 1]? = some (.cells #[.int .i64 0, .int .i64 0] 48 (0, 0)) := by
            have h := (MapKept.heap_alloc (w1.alloc (.cells #[.int .i64 k, .int .i64 (p : Int), .int .i64 (z : Int), .string t, .slice A m cap] 62)) S0).1
            rw [show (w1.alloc (.cells #[.int .i64 k, .int .i64 (p : Int), .int .i64 (z : Int), .string t, .slice A m cap] 62)).heap.size = w1.heap.size + 1 by simp] at h
            exact h
          have hsz1 := hb.size
          have hszx : ((w1.alloc (.cells #[.int .i64 k, .int .i64 (p : Int), .int .i64 (z : Int), .string t, .slice A m cap] 62)).alloc S0).heap.size = w1.heap.size + 2 := by simp
          have HNE : Hid (∀ g, u4.ownBlock = some g → g ≠ w1.heap.size) := Lib.hid fun g hg => by have := HK.out.block_lt hg; have := hb.size; omega
          clear hb hb2 hset HN HK HB HS HSA
          unfold tokV stopV
          go_upto_region 7 with fail
          generalize ((w1.alloc (.cells #[.int .i64 k, .int .i64 (p : Int), .int .i64 (z : Int), .string t, .slice A m cap] 62)).alloc S0) = w2 at *
          have x0 : w2.cell? ⟨w1.heap.size, 0, none⟩ = some (.int .i64 k) := by rw [Lib.cell_of_heap hx]; rfl
          have x1 : w2.cell? ⟨w1.heap.size, 1, none⟩ = some (.int .i64 (p : Int)) := by rw [Lib.cell_of_heap hx]; rfl
          have x2 : w2.cell? ⟨w1.heap.size, 2, none⟩ = some (.int .i64 (z : Int)) := by rw [Lib.cell_of_heap hx]; rfl
          have x3 : w2.cell? ⟨w1.heap.size, 3, none⟩ = some (.string t) := by rw [Lib.cell_of_heap hx]; rfl
          have x4 : w2.cell? ⟨w1.heap.size, 4, none⟩ = some (.slice A m cap) := by rw [Lib.cell_of_heap hx]; rfl
          have y0 : w2.cell? ⟨w1.heap.size + 1, 0, none⟩ = some (.int .i64 0) := by rw [Lib.cell_of_heap hy]; rfl
          have hne : some w1.heap.size ≠ u4.ownBlock := fun e => HNE.out _ e.symm rfl
          have hown := Lib.hid (show w2.ownsRow (W.heap.size + 1) 62 5 u4 L.length (tcells L) from HK2.out)
          have hlt1 : w1.heap.size + 1 < w2.heap.size := by omega
          clear hx hy HK2 hszx
          go_wp2_with (at_builtin; refine wpList_append_own _ rfl _ _ 58 rfl (W.heap.size + 1) 62 i0 (.agg #[.int .i64 0, .int .i64 0, .int .i64 0, .string ⟨#[]⟩, .slice none 0 0]) 5 64 Tryd.underlying58 hi hz0 hz1 hz2 rfl (by decide) _ _ _ rfl (hown.out.alloc _) ⟨w2.heap.size, 0, none⟩ 1 1 [.int .i64 k, .int .i64 (p : Int), .int .i64 (z : Int), .string t, .slice A m cap] rfl rfl ?c1 ?c2 ?c3 ?c4 ?c5 ?_)
          case c1 => exact news1 _ #[_, _, _, _, _] _
          case c2 => intro u hu; simp at hu; rcases hu with rfl | rfl | rfl | rfl | rfl <;> rfl
          case c3 => unfold maxLen; omega
          case c4 => omega
          case c5 => simp; omega
          intro v' w5 hown2 hgrow _
          have HR2 : Hid (Toks w5 (W.heap.size + 1) v' (L ++ [⟨k, p, z, t, .slice A m cap⟩])) := by
            unfold Toks
            rw [tcells_snoc, List.length_append]
            exact Lib.hid hown2
          have HB5 : Hid (Below (W.heap.size + 1) (W.alloc S0) w5) := ((HB2.out.alloc (by omega) _).grown hgrow (by simp; omega) fun k hk => (hown.out.lt k hk).1)
          have x2' : w5.cell? ⟨w1.heap.size, 2, none⟩ = some (.int .i64 (z : Int)) := (hgrow.cell_far ⟨w1.heap.size, 2, none⟩ (by simp; omega) hne).trans (((Below.refl w2.heap.size w2).alloc (Nat.le_refl _) _).cell (p := ⟨w1.heap.size, 2, none⟩) (by show w1.heap.size < _; omega) |>.trans x2)
          have HGO2 : Hid ((allL s f p').map (fun r => (G ++ [(⟨k, p, z, t, g⟩ : Pt)]) ++ r) = E) := Lib.hid (by rw [← HGO.out, Option.map_map]; congr 1; funext r; simp)
          have HS3 : Hid (SetsOf w5 (W.heap.size + 1) (L ++ [(⟨k, p, z, t, .slice A m cap⟩ : Tk)]) (G ++ [(⟨k, p, z, t, g⟩ : Pt)])) := Lib.hid ((HS2.out.stay (((Below.refl _ _).alloc (Nat.le_refl _) _))).grown (hown.out.alloc _) (by decide) hgrow)
          have hll : (L ++ [(⟨k, p, z, t, .slice A m cap⟩ : Tk)]).length ≤ p' := by simp; omega
          clear hown2 hgrow hown x0 x1 x2 x3 x4 y0 HS2
          go_wp2_with (go_at_call 60; refine (HBK.out _).mono ?_; rintro e w' ⟨rfl, rfl⟩)
          go_roundw
          case rel => exact ⟨p', f, _, _, by omega, by omega, rfl, hll, HGO2.out, HS3.out, HR2.out, HB5.out⟩
          case measure => simp [intOf]; omega
      · have g1 : ¬ (p : Int) < (s.size : Int) := by omega
        have g2 : decide ((p : Int) < (s.size : Int)) = false := decide_eq_false g1
        have hgo := HG.out
        rw [allL_end hlt (by omega), Option.map_some] at hgo
        have EQ := Lib.hid hgo.symm
        have hown := Lib.hid (show wr.ownsRow (W.heap.size + 1) 62 5 u4 L.length (tcells L) from HK.out)
        have hne : some W.heap.size ≠ u4.ownBlock := fun e => by have := HK.out.lt e.symm; omega
        have HS2 := Lib.hid (HS.out.snoc (x := ⟨0, s.size, s.size, ⟨#[]⟩, .slice none 0 0⟩) (y := ⟨0, s.size, s.size, ⟨#[]⟩, none⟩) rfl rfl)
        clear hgo HG HK HS
        go_wp2_with (at_builtin; refine wpList_append_own _ rfl _ _ 58 rfl (W.heap.size + 1) 62 i0 (.agg #[.int .i64 0, .int .i64 0, .int .i64 0, .string ⟨#[]⟩, .slice none 0 0]) 5 64 Tryd.underlying58 hi hz0 hz1 hz2 rfl (by decide) _ _ _ rfl (hown.out.alloc _) ⟨wr.heap.size, 0, none⟩ 1 1 [.int .i64 0, .int .i64 (s.size : Int), .int .i64 (s.size : Int), .string ⟨#[]⟩, .slice none 0 0] rfl rfl ?e1 ?e2 ?e3 ?e4 ?e5 ?_)
        case e2 => exact ⟨rfl, rfl, rfl, rfl⟩
        case e3 => unfold maxLen; omega
        case e4 => omega
        case e5 => omega
        intro v' w5 hown2 hgrow _
        have HR2 : Toks w5 (W.heap.size + 1) v' (L ++ [⟨0, s.size, s.size, ⟨#[]⟩, .slice none 0 0⟩]) := by
          unfold Toks
          rw [tcells_snoc, List.length_append]
          exact hown2
        have HS3 := Lib.hid ((HS2.out.stay (((Below.refl _ _).alloc (Nat.le_refl _) _))).grown (hown.out.alloc _) (by decide) hgrow)
        obtain ⟨A, cap, rfl⟩ := HR2.form
        have hbl5 : w5.heap[W.heap.size]? = some (.cells #[.int .i64 0, .int .i64 0] 48 (0, 0)) := by
          rw [hgrow.block W.heap.size (by simp; omega) hne]
          exact (Below.heap_alloc wr _ _ (by omega)).trans HBL.out
        have c0 : w5.cell? ⟨W.heap.size, 0, none⟩ = some (.int .i64 0) := by rw [Lib.cell_of_heap hbl5]; rfl
        have c1 : w5.cell? ⟨W.heap.size, 1, none⟩ = some (.int .i64 0) := by rw [Lib.cell_of_heap hbl5]; rfl
        have f0 := Lib.frozen_of_heap hbl5 0
        have f1 := Lib.frozen_of_heap hbl5 1
        have hB5 : Below W.heap.size W w5 := HBS.out.trans (((HB.out.alloc (by omega) _).grown hgrow (by simp; omega) fun k hk => (hown.out.lt k hk).1).mono (by omega))
        have HF := Lib.hid (fun p q => (hB5.setCell (p := ⟨W.heap.size, 0, none⟩) (Nat.le_refl _) p).setCell (p := ⟨W.heap.size, 1, none⟩) (Nat.le_refl _) q)
        have hn5 : (Value.slice A (L ++ [(⟨0, s.size, s.size, ⟨#[]⟩, .slice none 0 0⟩ : Tk)]).length cap).ownBlock ≠ some W.heap.size := fun e => by have := HR2.lt e; omega
        have HRR := Lib.hid (fun p q => (((HR2.setFar (p := ⟨W.heap.size, 0, none⟩) hn5 p).setFar (p := ⟨W.heap.size, 1, none⟩) hn5 q).low (Nat.le_succ W.heap.size)))
        have HSS := Lib.hid (fun p q => (((HS3.out.setLow (p := ⟨W.heap.size, 0, none⟩) (Nat.lt_succ_self _) p).setLow (p := ⟨W.heap.size, 1, none⟩) (Nat.lt_succ_self _) q).low (Nat.le_succ W.heap.size)))
        obtain ⟨nn, hnn⟩ : ∃ nn, (L ++ [(⟨0, s.size, s.size, ⟨#[]⟩, .slice none 0 0⟩ : Tk)]).length = nn := ⟨_, rfl⟩
        rw [hnn] at HRR ⊢
        clear hown2 hgrow hown hbl5 hB5 HR2 hn5 hnn HS3 HS2
        go_wp2
        refine bodyPost_ret (v := .tuple #[.slice A nn cap, stopV 0 0]) (by simp [results, Tryd.results35, go_sem, stopV, c0, c1]) rfl ?_
        rw [EQ.out]
        exact ⟨_, _, rfl, HRR.out _ _, HSS.out _ _, HF.out _ _⟩

end Go.Proofs.YtfjlhfalnciamaaDoor.Lex

namespace Go.Proofs.YtfjlhfalnciamaaDoor.Lex
open Go Go.RowKit Go.Proofs.Chars
open Go.Proofs.YtfjlhfalnciamaaDoor.Utf Go.Proofs.YtfjlhfalnciamaaDoor.Chars

theorem mask_in (a : Int) (m : Nat) (hm : m < 9223372036854775808) : ∃ r : Nat, r ≤ m ∧ bits .and .i64 a (m : Int) = (r : Int) := by
  refine ⟨(BitVec.ofInt 64 a).toNat &&& (m % 2 ^ 64), ?_, ?_⟩
  · rw [Nat.mod_eq_of_lt (by omega)]
    exact Nat.and_le_right
  · have hle : (BitVec.ofInt 64 a).toNat &&& (m % 2 ^ 64) ≤ m := by
      rw [Nat.mod_eq_of_lt (by omega)]
      exact Nat.and_le_right
    have e : bits .and .i64 a (m : Int) = IntKind.i64.wrap (((BitVec.ofInt 64 a).toNat &&& (m % 2 ^ 64) : Nat) : Int) := by
      have e2 : bits .and .i64 a (m : Int) = IntKind.i64.wrap (((BitVec.ofInt 64 a &&& BitVec.ofInt 64 (m : Int)).toNat : Nat) : Int) := rfl
      rw [e2, BitVec.toNat_and, BitVec.ofInt_natCast, BitVec.toNat_ofNat]
    rw [e, IntKind.wrap_i64]
    generalize (BitVec.ofInt 64 a).toNat &&& (m % 2 ^ 64) = q at hle ⊢
    omega
theorem tcells_all : ∀ {L : List Tk} {i : Nat} {x : Tk}, L[i]? = some x → (tcells L)[i * 5]? = some (.int .i64 x.k) ∧ (tcells L)[i * 5 + 1]? = some (.int .i64 (x.a : Int)) ∧ (tcells L)[i * 5 + 2]? = some (.int .i64 (x.e : Int)) ∧ (tcells L)[i * 5 + 3]? = some (.string x.t) ∧ (tcells L)[i * 5 + 4]? = some x.v
  | y :: L, 0, x, h => by
    cases h
    exact ⟨rfl, rfl, rfl, rfl, rfl⟩
  | y :: L, i + 1, x, h => by
    have h2 : L[i]? = some x := h
    have := tcells_all h2
    have e : tcells (y :: L) = tokC y ++ tcells L := by simp [tcells]
    have hl : (tokC y).length = 5 := rfl
    have key : ∀ j, (tokC y ++ tcells L)[(i + 1) * 5 + j]? = (tcells L)[i * 5 + j]? := fun j => by
      rw [List.getElem?_append_right (by rw [hl]; omega), hl, show (i + 1) * 5 + j - 5 = i * 5 + j by omega]
    rw [e]
    exact ⟨(key 0).trans this.1, (key 1).trans this.2.1, (key 2).trans this.2.2.1, (key 3).trans this.2.2.2.1, (key 4).trans this.2.2.2.2⟩
/-- The cells of a row of parts. -/
def CellsOf (w : World) (g : Nat) (L : List Tk) : Prop :=
  ∀ i x, L[i]? = some x → w.cell? ⟨g, i * 5, none⟩ = some (.int .i64 x.k) ∧ w.cell? ⟨g, i * 5 + 1, none⟩ = some (.int .i64 (x.a : Int)) ∧ w.cell? ⟨g, i * 5 + 2, none⟩ = some (.int .i64 (x.e : Int)) ∧ w.cell? ⟨g, i * 5 + 3, none⟩ = some (.string x.t) ∧ w.cell? ⟨g, i * 5 + 4, none⟩ = some x.v
theorem CellsOf.stay {w w' : World} {g : Nat} {L : List Tk} (h : CellsOf w g L) (hg : g < w.heap.size) (hb : Below w.heap.size w w') : CellsOf w' g L := fun i x hx => by
  obtain ⟨h0, h1, h2, h3, h4⟩ := h i x hx
  exact ⟨(hb.cell (p := ⟨g, _, none⟩) hg).trans h0, (hb.cell (p := ⟨g, _, none⟩) hg).trans h1, (hb.cell (p := ⟨g, _, none⟩) hg).trans h2, (hb.cell (p := ⟨g, _, none⟩) hg).trans h3, (hb.cell (p := ⟨g, _, none⟩) hg).trans h4⟩
theorem toks_all {w : World} {S : Nat} {v : Value} {L : List Tk} (h : Toks w S v L) (hne : 0 < L.length) : ∃ g cap, v = .slice (some ⟨g, 0, none⟩) L.length cap ∧ L.length ≤ maxLen ∧ g < w.heap.size ∧ CellsOf w g L := by
  have h' := h
  rcases h.2 with ⟨_, h0⟩ | ⟨g, cap, cur, hv, h1, h3, h4, h5, h6, h7⟩
  · omega
  · refine ⟨g, cap, hv, Nat.le_trans h4 h5, (Array.getElem?_eq_some_iff.1 h3).1, fun i x hx => ?_⟩
    have hc : ∀ i u, (tcells L)[i]? = some u → w.cell? ⟨g, i, none⟩ = some u := fun i u hi => by
      have := World.ownsRow.cells h' (g := g) (by rw [hv]; rfl) i u hi
      rw [addr_add] at this
      exact this
    obtain ⟨e0, e1, e2, e3, e4⟩ := tcells_all hx
    exact ⟨hc _ _ e0, hc _ _ e1, hc _ _ e2, hc _ _ e3, hc _ _ e4⟩
theorem SetAt.rgs {w : World} {S : Nat} {g : Option (List Rg)} {v : Value} (h : SetAt w S g v) (hl : ∀ l, g = some l → l.length ≤ 50000) : ∃ O, Rgs w v O ∧ O.length ≤ 50000 ∧ IsOf (g.getD []) O := by
  cases g with
  | none =>
    refine ⟨[], ?_, Nat.zero_le _, ?_⟩
    · rw [show v = .slice none 0 0 from h]
      exact ⟨(fun x hx => by cases hx), none, 0, rfl, Nat.le_refl _, (by simp [maxLen]), (fun hn => by simp at hn)⟩
    · refine ⟨trivial, fun r => ⟨fun h => ?_, fun h => ?_⟩⟩
      · obtain ⟨x, hx, _⟩ := h
        cases hx
      · obtain ⟨_, _, x, hx, _⟩ := h
        cases hx
  | some l =>
    obtain ⟨O, h1, h2, h3⟩ := h
    have := hl l rfl
    exact ⟨O, h1.rgs (canon_in32 h2.1 (Int.le_refl _)), by omega, h2⟩
theorem allL_sets {s : ByteArray} : ∀ (f a : Nat) (l : List Pt), allL s f a = some l → a ≤ s.size → ∀ x ∈ l, ∀ r, x.g = some r → r.length ≤ s.size
  | 0, a, l, h, _, x, hx, _, _ => by
    rw [allL] at h
    cases h
    cases hx
  | f + 1, a, l, h, ha, x, hx, r, hr => by
    rw [allL] at h
    by_cases hlt : a < s.size
    · rw [if_pos hlt] at h
      cases hn : nextX s a with
      | bad c q => rw [hn] at h; cases h
      | tok k e t g =>
        rw [hn] at h
        simp only [Option.map_eq_some_iff] at h
        obtain ⟨l', hl', rfl⟩ := h
        have hin := nextX_in hlt hn
        have hbi := blankE_in (txt s).b s.size (s.size + 1) e hin.2
        rcases List.mem_cons.1 hx with rfl | hx
        · simp only [] at hr
          subst hr
          unfold nextX at hn
          split at hn
          · unfold nameX at hn
            simp only [] at hn
            split at hn <;> cases hn
          split at hn
          · unfold litX at hn
            split at hn
            · cases hn
            split at hn
            · cases hn
            split at hn <;> cases hn
          split at hn
          · unfold classX at hn
            split at hn
            · cases hn
            · rename_i z hz
              split at hn
              · cases hn
              · rename_i m hm
                cases hn
                have h1 := good_len hm
                have h2 := untilE_in _ _ _ _ _ _ hz
                rw [ext_size s (by omega)] at h1
                omega
          split at hn
          · cases hn
          split at hn
          · cases hn
          · cases hn
        · exact allL_sets f _ l' hl' hbi.2 x hx r hr
    · rw [if_neg hlt] at h
      cases h
      simp only [List.mem_singleton] at hx
      subst hx
      cases hr
/-- A blank text: whoever puts it in, it is left behind. -/
def BlankT (b : ByteArray) : Prop := b.size ≤ 8 ∧ ∀ (u : ByteArray) (p : Nat), Stands u p b.data.toList → Blanks u p b.size
theorem blankT0 : BlankT ⟨#[32]⟩ := ⟨by decide, fun _ _ h => blanks0 h⟩
theorem blankT1 : BlankT ⟨#[10, 9]⟩ := ⟨by decide, fun _ _ h => blanks1 h⟩
theorem blankT2 : BlankT ⟨#[47, 47, 32, 105, 116, 39, 115, 10]⟩ := ⟨by decide, fun _ _ h => blanks2 h⟩
theorem blankT3 : BlankT ⟨#[47, 47, 10, 47, 47, 93, 10]⟩ := ⟨by decide, fun _ _ h => blanks3 h⟩
/-- The text with a blank put in. -/
def putIn (s b : ByteArray) (p : Nat) : ByteArray := (s.extract 0 p ++ b) ++ s.extract p s.size
theorem putIn_list (s b : ByteArray) (p : Nat) : (putIn s b p).data.toList = s.data.toList.take p ++ (b.data.toList ++ s.data.toList.drop p) := by
  unfold putIn
  simp only [ByteArray.data_append, Array.toList_append, ext_list, List.drop_zero, Nat.sub_zero, List.append_assoc]
  rw [List.take_of_length_le (l := s.data.toList.drop p) (by rw [List.length_drop, ← Lib.size_eq]; exact Nat.le_refl _)]
theorem putIn_size (s b : ByteArray) {p : Nat} (hp : p ≤ s.size) : (putIn s b p).size = s.size + b.size := by
  rw [Lib.size_eq, putIn_list]
  simp only [List.length_append, List.length_take, List.length_drop, ← Lib.size_eq]
  omega
theorem putIn_stands (s b : ByteArray) {p : Nat} (hp : p ≤ s.size) : Stands (putIn s b p) 0 (s.data.toList.take p) ∧ Stands (putIn s b p) p b.data.toList ∧ Stands (putIn s b p) (p + b.size) (s.data.toList.drop p) := by
  have h := stands_data (putIn s b p)
  rw [putIn_list] at h
  obtain ⟨h1, h2⟩ := stands_app h
  obtain ⟨h3, h4⟩ := stands_app h2
  have hl : (s.data.toList.take p).length = p := by rw [List.length_take, ← Lib.size_eq]; omega
  rw [Nat.zero_add, hl] at h3 h4
  rw [← Lib.size_eq] at h4
  exact ⟨h1, h3, h4⟩
theorem byte_list (s : ByteArray) {i : Nat} (h : i < s.size) : ∃ x, s.data.toList[i]? = some x ∧ x.toNat = (txt s).b i := by
  have hl : i < s.data.toList.length := by rw [← Lib.size_eq]; exact h
  refine ⟨s.data.toList[i], List.getElem?_eq_getElem hl, ?_⟩
  show _ = (s.get! i).toNat
  rw [← Lib.getD_get!', List.getD_eq_getElem?_getD, List.getElem?_eq_getElem hl]
  rfl
theorem putIn_agree (s b : ByteArray) {p : Nat} (hp : p ≤ s.size) : Agree s (putIn s b p) 0 0 p ∧ Agree s (putIn s b p) b.size p s.size := by
  have hsz := putIn_size s b hp
  obtain ⟨h1, _, h3⟩ := putIn_stands s b hp
  refine ⟨⟨hp, by omega, fun i _ hi => ?_⟩, ⟨Nat.le_refl _, by omega, fun i hi hn => ?_⟩⟩
  · obtain ⟨x, hx, hb⟩ := byte_list s (i := i) (by omega)
    have := h1.2 i x (by rw [List.getElem?_take_of_lt hi]; exact hx)
    rw [Nat.zero_add] at this
    rw [Nat.add_zero, this, hb]
  · obtain ⟨x, hx, hb⟩ := byte_list s hn
    have := h3.2 (i - p) x (by rw [List.getElem?_drop, show p + (i - p) = i by omega]; exact hx)
    rw [show p + b.size + (i - p) = i + b.size by omega] at this
    rw [this, hb]
/-- The law's maths. -/
theorem putIn_parts {s b : ByteArray} (hb : BlankT b) {G : List Pt} {k : Nat} {x : Pt} (h : partsE s = some G) (hk : G[k]? = some x) : x.a ≤ s.size ∧ partsE (putIn s b x.a) = some (G.take k ++ (G.drop k).map (Pt.by b.size)) := by
  have hbi := blankE_in (txt s).b s.size (s.size + 1) 0 (Nat.zero_le _)
  have hge := allL_ge _ _ _ _ _ h hbi.2 hk
  have hp : x.a ≤ s.size := hge.2
  obtain ⟨h1, h2⟩ := putIn_agree s b hp
  exact ⟨hp, spread_all (putIn_size s b hp) h1 h2 (hb.2 _ _ (putIn_stands s b hp).2.1) h hk rfl⟩
theorem spread_get {G : List Pt} {k m i : Nat} {x : Pt} (hk : k ≤ G.length) (hx : G[i]? = some x) : (G.take k ++ (G.drop k).map (Pt.by m))[i]? = some (if k ≤ i then x.by m else x) := by
  have hi := (List.getElem?_eq_some_iff.1 hx).1
  have hl : (G.take k).length = k := by rw [List.length_take]; omega
  by_cases h : k ≤ i
  · rw [List.getElem?_append_right (by omega), hl, List.getElem?_map, List.getElem?_drop, show k + (i - k) = i by omega, hx, if_pos h]
    rfl
  · rw [List.getElem?_append_left (by omega), List.getElem?_take_of_lt (by omega), hx, if_neg h]
theorem spread_len {G : List Pt} {k m : Nat} : (G.take k ++ (G.drop k).map (Pt.by m)).length = G.length := by
  simp
  omega
theorem partsE_some {s : ByteArray} {G : List Pt} (h : partsE s = some G) : 0 < G.length := by
  have hbi := blankE_in (txt s).b s.size (s.size + 1) 0 (Nat.zero_le _)
  obtain ⟨x, r, rfl, _⟩ := allL_at h hbi.2 (by omega)
  simp
theorem partsE_sets {s : ByteArray} {G : List Pt} (h : partsE s = some G) : ∀ x ∈ G, ∀ r, x.g = some r → r.length ≤ s.size := by
  have hbi := blankE_in (txt s).b s.size (s.size + 1) 0 (Nat.zero_le _)
  exact allL_sets _ _ _ h hbi.2
theorem partsE_len {s : ByteArray} {G : List Pt} (h : partsE s = some G) : G.length ≤ s.size + 1 := by
  have hbi := blankE_in (txt s).b s.size (s.size + 1) 0 (Nat.zero_le _)
  have hp := partsE_some h
  have := (allL_ge _ _ _ (G.length - 1) G[G.length - 1] h hbi.2 (List.getElem?_eq_getElem (by omega)))
  omega
theorem allL_e {s : ByteArray} : ∀ (f a : Nat) (l : List Pt), allL s f a = some l → a ≤ s.size → ∀ x ∈ l, x.e ≤ s.size
  | 0, a, l, h, _, x, hx => by
    rw [allL] at h
    cases h
    cases hx
  | f + 1, a, l, h, ha, x, hx => by
    rw [allL] at h
    by_cases hlt : a < s.size
    · rw [if_pos hlt] at h
      cases hn : nextX s a with
      | bad c q => rw [hn] at h; cases h
      | tok k e t g =>
        rw [hn] at h
        simp only [Option.map_eq_some_iff] at h
        obtain ⟨l', hl', rfl⟩ := h
        have hin := nextX_in hlt hn
        have hbi := blankE_in (txt s).b s.size (s.size + 1) e hin.2
        rcases List.mem_cons.1 hx with rfl | hx
        · exact hin.2
        · exact allL_e f _ l' hl' hbi.2 x hx
    · rw [if_neg hlt] at h
      cases h
      simp only [List.mem_singleton] at hx
      subst hx
      exact Nat.le_refl _
theorem partsE_in {s : ByteArray} {G : List Pt} (h : partsE s = some G) {i : Nat} {x : Pt} (hx : G[i]? = some x) : x.a ≤ s.size ∧ x.e ≤ s.size := by
  have hbi := blankE_in (txt s).b s.size (s.size + 1) 0 (Nat.zero_le _)
  exact ⟨(allL_ge _ _ _ _ _ h hbi.2 hx).2, allL_e _ _ _ h hbi.2 x (List.mem_of_getElem? hx)⟩

end Go.Proofs.YtfjlhfalnciamaaDoor.Lex
