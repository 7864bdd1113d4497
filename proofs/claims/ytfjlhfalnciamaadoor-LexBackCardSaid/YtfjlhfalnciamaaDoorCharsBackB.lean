/- What is told of a set is read as it: plain maths, range for range. -/
import Derived.Test.YtfjlhfalnciamaaDoorCharsBackA
namespace Go.Proofs.YtfjlhfalnciamaaDoor.Chars
open Go Go.RowKit Go.Proofs.Chars
open Go.Proofs.YtfjlhfalnciamaaDoor.Utf

/-- How a range is read again. -/
def againR (x : Rg) : List Rg := if x.1 = x.2 then [(x.1, x.1)] else if x.1 + 1 < x.2 then [(x.1, x.2)] else [(x.1, x.1), (x.2, x.2)]
def againL (O : List Rg) : List Rg := O.flatMap againR
theorem again_mem {O : List Rg} (h : ∀ x ∈ O, x.1 ≤ x.2) (r : Int) : memU (againL O) r ↔ memU O r := by
  have key : (∃ y ∈ againL O, y.1 ≤ r ∧ r ≤ y.2) ↔ ∃ x ∈ O, x.1 ≤ r ∧ r ≤ x.2 := by
    constructor
    · rintro ⟨y, hy, h1, h2⟩
      obtain ⟨x, hx, hy⟩ := List.mem_flatMap.1 hy
      refine ⟨x, hx, ?_⟩
      have := h x hx
      unfold againR at hy
      split at hy
      · simp at hy; subst hy; simp at h1 h2; omega
      · split at hy
        · simp at hy; subst hy; exact ⟨h1, h2⟩
        · simp at hy
          rcases hy with rfl | rfl
          · simp at h1 h2; omega
          · simp at h1 h2; omega
    · rintro ⟨x, hx, h1, h2⟩
      have := h x hx
      by_cases e : x.1 = x.2
      · exact ⟨(x.1, x.1), List.mem_flatMap.2 ⟨x, hx, by unfold againR; rw [if_pos e]; simp⟩, h1, by show r ≤ x.1; omega⟩
      · by_cases g : x.1 + 1 < x.2
        · exact ⟨(x.1, x.2), List.mem_flatMap.2 ⟨x, hx, by unfold againR; rw [if_neg e, if_pos g]; simp⟩, h1, h2⟩
        · by_cases e2 : r = x.1
          · exact ⟨(x.1, x.1), List.mem_flatMap.2 ⟨x, hx, by unfold againR; rw [if_neg e, if_neg g]; simp⟩, h1, by show r ≤ x.1; omega⟩
          · exact ⟨(x.2, x.2), List.mem_flatMap.2 ⟨x, hx, by unfold againR; rw [if_neg e, if_neg g]; simp⟩, by show x.2 ≤ r; omega, h2⟩
  unfold memU
  rw [key]
/-- No '-' stands at a place, or the text ends there. -/
def NoDash (s : ByteArray) (k : Nat) : Prop := s.size ≤ k ∨ (txt s).b k ≠ 45
theorem stands_first {s : ByteArray} {k : Nat} {c : UInt8} {t : List UInt8} (h : Stands s k (c :: t)) : (txt s).b k = c.toNat ∧ k < s.size := by
  have h1 := h.2 0 c rfl
  have h2 := h.1
  rw [Nat.add_zero] at h1
  simp at h2
  exact ⟨h1, by omega⟩
theorem read_one {s : ByteArray} {k f : Nat} {l : List Rg} {r : Int} (hv : Lib.validRune r = true) (h : Stands s k (signS r)) (hn : NoDash s (k + (signS r).length)) (hf : 1 ≤ f) :
    readGo s f k l = readGo s (f - 1) (k + (signS r).length) (l ++ [(r, r)]) := by
  obtain ⟨f, rfl⟩ : ∃ g, f = g + 1 := ⟨f - 1, by omega⟩
  obtain ⟨c, t, hs, _⟩ := sign_first r hv
  have hk : k < s.size := by have := h; rw [hs] at this; exact (stands_first this).2
  rw [readGo, if_pos hk, sgn_back hv h]
  simp only []
  rw [if_neg (by
    rintro ⟨h1, h2⟩
    rcases hn with h3 | h3
    · omega
    · exact h3 h2)]
  rfl
theorem dash_first {s : ByteArray} {k : Nat} {r : Int} (hv : Lib.validRune r = true) (h : Stands s k (signS r)) : NoDash s k := by
  obtain ⟨c, t, hs, hc⟩ := sign_first r hv
  rw [hs] at h
  right
  rw [(stands_first h).1]
  intro e
  exact hc (UInt8.toNat_inj.1 (by rw [e]; rfl))
/-- A range that is told is read again. -/
theorem read_piece {s : ByteArray} {k f : Nat} {l : List Rg} {x : Rg} (h1 : Lib.validRune x.1 = true) (h2 : Lib.validRune x.2 = true) (_ : x.1 ≤ x.2) (h : Stands s k (pieceT x)) (hn : NoDash s (k + (pieceT x).length)) (hf : (pieceT x).length ≤ f) :
    ∃ f', f - (pieceT x).length ≤ f' ∧ readGo s f k l = readGo s f' (k + (pieceT x).length) (l ++ againR x) := by
  unfold pieceT at h hn hf ⊢
  unfold againR
  obtain ⟨c1, t1, hs1, _⟩ := sign_first x.1 h1
  obtain ⟨c2, t2, hs2, _⟩ := sign_first x.2 h2
  have l1 : 1 ≤ (signS x.1).length := by rw [hs1]; simp
  have l2 : 1 ≤ (signS x.2).length := by rw [hs2]; simp
  by_cases e : x.1 = x.2
  · rw [if_pos e, List.append_nil] at h hn hf ⊢
    rw [if_pos e]
    exact ⟨f - 1, by omega, read_one h1 h hn (by omega)⟩
  · rw [if_neg e] at h hn hf ⊢
    rw [if_neg e]
    obtain ⟨ha, hb⟩ := stands_app h
    by_cases g : x.1 + 1 < x.2
    · rw [if_pos g] at hb hn hf ⊢
      rw [if_pos g]
      obtain ⟨hd, hc⟩ := stands_app hb
      have hdash := stands_first (t := []) hd
      simp only [List.length_singleton] at hc
      have hk : k < s.size := by have := ha; rw [hs1] at this; exact (stands_first this).2
      have hk2 : k + (signS x.1).length + 1 < s.size := by have := hc; rw [hs2] at this; exact (stands_first this).2
      rw [List.length_append, List.length_append, List.length_singleton] at hf ⊢
      obtain ⟨f, rfl⟩ : ∃ q, f = q + 1 := ⟨f - 1, by omega⟩
      refine ⟨f, by omega, ?_⟩
      rw [readGo, if_pos hk, sgn_back h1 ha]
      simp only []
      rw [if_pos ⟨hk2, by rw [hdash.1]; rfl⟩, sgn_back h2 hc]
      simp only []
      rw [if_neg (by omega), show k + (signS x.1).length + 1 + (signS x.2).length = k + ((signS x.1).length + (1 + (signS x.2).length)) by omega]
    · rw [if_neg g, List.nil_append] at hb hn hf ⊢
      rw [if_neg g]
      rw [List.length_append] at hf hn ⊢
      refine ⟨f - 1 - 1, by omega, ?_⟩
      rw [read_one h1 ha (dash_first h2 hb) (by omega), read_one h2 hb (by rw [Nat.add_assoc]; exact hn) (by omega), Nat.add_assoc, List.append_assoc]
      rfl
theorem read_all {s : ByteArray} : ∀ (O : List Rg) (k f : Nat) (l : List Rg), (∀ x ∈ O, Lib.validRune x.1 = true ∧ Lib.validRune x.2 = true ∧ x.1 ≤ x.2) → Stands s k (textL O) → k + (textL O).length = s.size → (textL O).length ≤ f →
    readGo s f k l = .good (l ++ againL O)
  | [], k, f, l, _, _, hk, _ => by
    have hk' : k = s.size := by simpa [textL] using hk
    cases f with
    | zero => rw [readGo]; simp [againL]
    | succ f => rw [readGo, if_neg (by omega)]; simp [againL]
  | x :: O, k, f, l, hv, h, hk, hf => by
    have hx := hv x List.mem_cons_self
    have e : textL (x :: O) = pieceT x ++ textL O := by simp [textL]
    rw [e] at h hk hf
    rw [List.length_append] at hk hf
    obtain ⟨ha, hb⟩ := stands_app h
    have hn : NoDash s (k + (pieceT x).length) := by
      cases O with
      | nil => left; simp [textL] at hk; omega
      | cons y O =>
        have hy := hv y (List.mem_cons_of_mem _ List.mem_cons_self)
        have e2 : textL (y :: O) = signS y.1 ++ ((if y.1 = y.2 then [] else (if y.1 + 1 < y.2 then [45] else []) ++ signS y.2) ++ textL O) := by simp [textL, pieceT]
        rw [e2] at hb
        exact dash_first hy.1 (stands_app hb).1
    obtain ⟨f', hf', hr⟩ := read_piece (f := f) (l := l) hx.1 hx.2.1 hx.2.2 ha hn (by omega)
    rw [hr, read_all O _ f' _ (fun y hy => hv y (List.mem_cons_of_mem _ hy)) hb (by omega) (by omega), List.append_assoc]
    congr 1
/-- What is told of a set that has a sign is read as it. -/
theorem text_read {O : List Rg} (hv : ∀ x ∈ O, Lib.validRune x.1 = true ∧ Lib.validRune x.2 = true ∧ x.1 ≤ x.2) (hne : O ≠ []) : readE ⟨(textL O).toArray⟩ = .good (againL O) := by
  have hsz : (⟨(textL O).toArray⟩ : ByteArray).size = (textL O).length := by simp [ByteArray.size]
  unfold readE
  rw [if_neg (by
    rw [hsz]
    cases O with
    | nil => exact absurd rfl hne
    | cons x O =>
      obtain ⟨c, t, hs, _⟩ := sign_first x.1 (hv x List.mem_cons_self).1
      have e2 : textL (x :: O) = signS x.1 ++ ((if x.1 = x.2 then [] else (if x.1 + 1 < x.2 then [45] else []) ++ signS x.2) ++ textL O) := by simp [textL, pieceT]
      rw [e2, hs]
      simp)]
  rw [read_all O 0 _ [] hv (stands_whole _) (by rw [hsz]; omega) (by rw [hsz]; omega)]
  rfl
theorem text_none : readE ⟨(textL []).toArray⟩ = .bad 14 0 := by
  kernel_rfl
/-- What is read has a sign. -/
theorem read_some {s : ByteArray} : ∀ (f a : Nat) (l m : List Rg), readGo s f a l = .good m → ∃ q, m = l ++ q ∧ (∀ x ∈ q, Lib.validRune x.1 = true ∧ Lib.validRune x.2 = true ∧ x.1 ≤ x.2) ∧ (a < s.size → 1 ≤ f → q ≠ [])
  | 0, a, l, m, h => by
    rw [readGo] at h
    cases h
    exact ⟨[], by simp, by simp, fun _ h => by omega⟩
  | f + 1, a, l, m, h => by
    rw [readGo] at h
    by_cases ha : a < s.size
    · rw [if_pos ha] at h
      cases hs : sgnE s a with
      | err c => rw [hs] at h; cases h
      | sgn lo nx =>
        rw [hs] at h
        simp only [] at h
        have h1 := sgnE_in ha hs
        split at h
        · rename_i hd
          cases hs2 : sgnE s (nx + 1) with
          | err c => rw [hs2] at h; cases h
          | sgn hi n2 =>
            rw [hs2] at h
            simp only [] at h
            have h2 := sgnE_in hd.1 hs2
            split at h
            · cases h
            · rename_i hle
              obtain ⟨q, e1, e2, _⟩ := read_some f n2 _ m h
              refine ⟨(lo, hi) :: q, by rw [e1]; simp, fun x hx => ?_, fun _ _ => by simp⟩
              rcases List.mem_cons.1 hx with rfl | hx
              · exact ⟨h1.1, h2.1, by show lo ≤ hi; omega⟩
              · exact e2 x hx
        · obtain ⟨q, e1, e2, _⟩ := read_some f nx _ m h
          refine ⟨(lo, lo) :: q, by rw [e1]; simp, fun x hx => ?_, fun _ _ => by simp⟩
          rcases List.mem_cons.1 hx with rfl | hx
          · exact ⟨h1.1, h1.1, Int.le_refl _⟩
          · exact e2 x hx
    · rw [if_neg ha] at h
      cases h
      exact ⟨[], by simp, by simp, fun h => absurd h ha⟩
theorem good_some {s : ByteArray} {l : List Rg} (h : readE s = .good l) : ∃ r, memU l r ∧ ¬ memU sur r := by
  unfold readE at h
  split at h
  · cases h
  · rename_i h0
    obtain ⟨q, e1, h2, h3⟩ := read_some _ _ _ _ h
    rw [List.nil_append] at e1
    subst e1
    have hq := h3 (by omega) (by omega)
    cases l with
    | nil => exact absurd rfl hq
    | cons x q =>
      have hx := h2 x List.mem_cons_self
      have hv := (valid_iff x.1).1 hx.1
      refine ⟨x.1, ⟨by omega, by unfold most; omega, x, List.mem_cons_self, Int.le_refl _, hx.2.2⟩, fun hh => ?_⟩
      obtain ⟨_, _, y, hy, h5, h6⟩ := hh
      simp [sur] at hy
      subst hy
      simp at h5 h6
      omega

end Go.Proofs.YtfjlhfalnciamaaDoor.Chars
