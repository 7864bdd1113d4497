/- What Quote tells is read as it: a sign's piece: plain maths. -/
import Derived.Test.YtfjlhfalnciamaaDoorLexK
import Derived.Test.YtfjlhfalnciamaaDoorCharsBackA
namespace Go.Proofs.YtfjlhfalnciamaaDoor.Lex
open Go Go.RowKit Go.Proofs.Chars
open Go.Proofs.YtfjlhfalnciamaaDoor.Utf Go.Proofs.YtfjlhfalnciamaaDoor.Chars

def sign1 (r : Int) : List UInt8 := (signB r esc1).data.toList
theorem contains1 (n : Nat) (hv : Lib.validRune (n : Int) = true) : Lib.contains esc1.data.toList (encB (n : Int)).data.toList = true ↔ n = 39 := by
  by_cases h : n < 128
  · have key : ∀ m : Fin 128, Lib.contains esc1.data.toList (encB ((m.val : Nat) : Int)).data.toList = decide (m.val = 39) := by decide +kernel
    have := key ⟨n, h⟩
    rw [this, decide_eq_true_iff]
  · have hnat := encB_nat n
    have hvi := (valid_iff _).1 hv
    obtain ⟨c, t, hct, hc⟩ : ∃ c t, (encB (n : Int)).data.toList = c :: t ∧ 192 ≤ c.toNat := by
      cases hl : (encB (n : Int)).data.toList with
      | nil =>
        have := (encB_size (n : Int) hv).1
        rw [Lib.size_eq, hl] at this
        simp at this
      | cons c t =>
        refine ⟨c, t, rfl, ?_⟩
        rw [hl] at hnat
        simp only [List.map_cons] at hnat
        unfold encN at hnat
        rw [if_neg (by omega), if_neg h] at hnat
        split at hnat
        · injection hnat with h1 _; omega
        · split at hnat
          · injection hnat with h1 _; omega
          · injection hnat with h1 _; omega
    rw [hct]
    have n1 : (c == 39) = false := by rw [beq_eq_false_iff_ne]; intro e; subst e; simp at hc
    constructor
    · intro hh
      simp [Lib.contains, Lib.index, esc1, List.isPrefixOf, n1] at hh
    · intro hh; omega

/-- A sign's piece: its own bytes, or what stands behind a backslash. -/
theorem sign1_form (n : Nat) (hv : Lib.validRune (n : Int) = true) :
    (sign1 (n : Int) = (encB (n : Int)).data.toList ∧ n ≠ 10 ∧ n ≠ 92 ∧ n ≠ 39) ∨
    (∃ c tl, sign1 (n : Int) = 92 :: c :: tl ∧ (∀ x ∈ tl, x ≠ 39 ∧ x ≠ 92) ∧ ∀ (b : Nat → Nat) (m : Nat), (∀ i x, (c :: tl)[i]? = some x → b i = x.toNat) → (c :: tl).length ≤ m → escE b m = some ((n : Int), (c :: tl).length)) := by
  have hsg : sign1 (n : Int) = (signB (n : Int) esc1).data.toList := rfl
  have one : ∀ c : Nat, c < 256 → sign1 (n : Int) = [92, UInt8.ofNat c] → (∀ (b : Nat → Nat) (m : Nat), m ≠ 0 → b 0 = c → escE b m = some ((n : Int), 1)) →
      (∃ c tl, sign1 (n : Int) = 92 :: c :: tl ∧ (∀ x ∈ tl, x ≠ 39 ∧ x ≠ 92) ∧ ∀ (b : Nat → Nat) (m : Nat), (∀ i x, (c :: tl)[i]? = some x → b i = x.toNat) → (c :: tl).length ≤ m → escE b m = some ((n : Int), (c :: tl).length)) := fun c hc hs he =>
    ⟨UInt8.ofNat c, [], hs, by simp, fun b m hb hm => he b m (by simp at hm; omega) (by rw [hb 0 _ rfl, UInt8.toNat_ofNat']; omega)⟩
  unfold signB at hsg
  split at hsg
  · rename_i e
    exact .inr (one 110 (by omega) hsg fun b m hm hb => by unfold escE; rw [if_neg hm, if_pos hb]; rw [e])
  split at hsg
  · rename_i e
    exact .inr (one 116 (by omega) hsg fun b m hm hb => by unfold escE; rw [if_neg hm, if_neg (by omega), if_pos hb]; rw [e])
  split at hsg
  · rename_i e
    exact .inr (one 114 (by omega) hsg fun b m hm hb => by unfold escE; rw [if_neg hm, if_neg (by omega), if_neg (by omega), if_pos hb]; rw [e])
  split at hsg
  · rename_i hcase
    have hn : n = 92 ∨ n = 39 := by
      rcases hcase with e | e
      · left; omega
      · right; exact (contains1 n hv).1 e
    have hs2 : sign1 (n : Int) = [92, UInt8.ofNat n] := by
      rw [hsg]
      rcases hn with rfl | rfl <;> decide +kernel
    exact .inr (one n (by omega) hs2 fun b m hm hb => by
      unfold escE
      rw [if_neg hm, if_neg (by omega), if_neg (by omega), if_neg (by omega), if_pos (by omega), hb])
  split at hsg
  · rename_i h1 h2 h3 h4 h5
    exact .inl ⟨hsg, by omega, fun e => h4 (.inl (by omega)), fun e => h4 (.inr ((contains1 n hv).2 e))⟩
  · rename_i h1 h2 h3 h4 h5
    have hn : n < 256 := by omega
    have hs2 : sign1 (n : Int) = 92 :: 117 :: ([123] ++ (hexL n ++ [125])) := by
      rw [hsg, Int.toNat_natCast]
      simp
    have hhex : ∀ x ∈ hexL n, x ≠ 39 ∧ x ≠ 92 := by
      have key : ∀ m : Fin 256, ∀ x ∈ hexL m.val, x ≠ 39 ∧ x ≠ 92 := by decide +kernel
      exact key ⟨n, hn⟩
    refine .inr ⟨117, [123] ++ (hexL n ++ [125]), hs2, fun x hx => ?_, fun b m hb hm => ?_⟩
    · simp at hx
      rcases hx with rfl | hx | rfl
      · decide
      · exact hhex x hx
      · decide
    · have b0 : b 0 = 117 := hb 0 117 rfl
      have b1 : b 1 = 123 := hb 1 123 rfl
      have hx : ∀ i x, (hexL n)[i]? = some x → b (2 + i) = x.toNat := fun i x hx => hb (2 + i) x (by
        rw [show 2 + i = (i + 1) + 1 by omega, List.getElem?_cons_succ]
        rw [List.singleton_append, List.getElem?_cons_succ, List.getElem?_append_left (List.getElem?_eq_some_iff.1 hx).1]
        exact hx)
      have hy : b (2 + (hexL n).length) = 125 := hb (2 + (hexL n).length) 125 (by
        rw [show 2 + (hexL n).length = ((hexL n).length + 1) + 1 by omega, List.getElem?_cons_succ]
        rw [List.singleton_append, List.getElem?_cons_succ, List.getElem?_append_right (Nat.le_refl _), Nat.sub_self]
        rfl)
      have hl : (117 :: ([123] ++ (hexL n ++ [125])) : List UInt8).length = (hexL n).length + 3 := by simp
      rw [hl] at hm ⊢
      have hg := hex_read hn hx hy (n := m) (by omega)
      have hlen : 1 ≤ (hexL n).length := by unfold hexL; split <;> simp
      unfold escE
      rw [if_neg (by omega), b0, if_neg (by omega), if_neg (by omega), if_neg (by omega), if_neg (by omega), if_pos rfl]
      unfold numE
      rw [hg]
      simp only []
      rw [if_neg (by rw [b1]; omega), if_neg (by rw [hy]; omega), if_pos hv]
      simp
      omega

end Go.Proofs.YtfjlhfalnciamaaDoor.Lex
