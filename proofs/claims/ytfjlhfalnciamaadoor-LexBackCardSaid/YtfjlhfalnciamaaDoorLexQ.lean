/- What the law LexBack asks of texts: plain maths. -/
import Derived.Test.YtfjlhfalnciamaaDoorLexP
namespace Go.Proofs.YtfjlhfalnciamaaDoor.Lex
open Go Go.RowKit Go.Proofs.Chars
open Go.Proofs.YtfjlhfalnciamaaDoor.Utf Go.Proofs.YtfjlhfalnciamaaDoor.Chars

def tailL : List UInt8 := [10, 47, 47, 32, 39, 120, 10]
theorem blank_not {b : Nat → Nat} {n f a : Nat} (h1 : wsN (b a) = false) (h2 : b a ≠ 47) : blankE b n f a = a := by
  cases f with
  | zero => rfl
  | succ f => rw [blankE, if_neg (by rw [h1]; simp), if_neg (by rintro ⟨_, h, _⟩; exact h2 h)]
theorem blank_end {b : Nat → Nat} {n f : Nat} : blankE b n f n = n := by
  cases f with
  | zero => rfl
  | succ f => rw [blankE, if_neg (by omega), if_neg (by omega)]
theorem blank_ws {b : Nat → Nat} {n f a : Nat} (ha : a < n) (h : wsN (b a) = true) : blankE b n (f + 1) a = blankE b n f (a + 1) := by
  rw [blankE, if_pos ⟨ha, h⟩]
theorem line_step {b : Nat → Nat} {n f a : Nat} (ha : a < n) (h : b a ≠ 10) : lineE b n (f + 1) a = lineE b n f (a + 1) := by
  rw [lineE, if_pos ⟨ha, h⟩]
theorem line_stop {b : Nat → Nat} {n f a : Nat} (h : b a = 10) : lineE b n (f + 1) a = a := by
  rw [lineE, if_neg (by rintro ⟨_, h2⟩; exact h2 h)]
/-- Behind the second literal all is blank. -/
theorem tail_blank {X : ByteArray} {p f : Nat} (h : Stands X p tailL) (hn : p + 7 = X.size) (hf : 3 ≤ f) : blankE (txt X).b X.size f p = X.size := by
  obtain ⟨f, rfl⟩ : ∃ g, f = g + 3 := ⟨f - 3, by omega⟩
  have b0 : (txt X).b p = 10 := h.2 0 10 rfl
  have b1 : (txt X).b (p + 1) = 47 := h.2 1 47 rfl
  have b2 : (txt X).b (p + 2) = 47 := h.2 2 47 rfl
  have b3 : (txt X).b (p + 3) = 32 := h.2 3 32 rfl
  have b4 : (txt X).b (p + 4) = 39 := h.2 4 39 rfl
  have b5 : (txt X).b (p + 5) = 120 := h.2 5 120 rfl
  have b6 : (txt X).b (p + 6) = 10 := h.2 6 10 rfl
  have hl : lineE (txt X).b X.size X.size (p + 1) = p + 6 := by
    obtain ⟨g, hg⟩ : ∃ g, X.size = g + 6 := ⟨X.size - 6, by omega⟩
    have key : ∀ q, lineE (txt X).b X.size (q + 6) (p + 1) = p + 6 := fun q => by
      rw [line_step (by omega) (by rw [b1]; decide), line_step (by omega) (by rw [b2]; decide), line_step (by omega) (by rw [b3]; decide), line_step (by omega) (by rw [b4]; decide), line_step (by omega) (by rw [b5]; decide), line_stop b6]
    have := key g
    rw [← hg] at this
    exact this
  rw [show f + 3 = (f + 2) + 1 by omega, blank_ws (by omega) (by rw [b0]; rfl)]
  rw [show f + 2 = (f + 1) + 1 by omega, blankE, if_neg (by rw [b1]; rintro ⟨_, h⟩; cases h), if_pos ⟨by omega, b1, b2⟩, hl]
  rw [blank_ws (by omega) (by rw [b6]; rfl), show p + 6 + 1 = X.size by omega]
  exact blank_end
/-- A text twice in quotes is read as it, twice. -/
theorem back_all {s X : ByteArray} (hr : (txt s).right) (hne : s.size ≠ 0) (hX : Stands X 0 (quoteB s ++ ([32] ++ (quoteB s ++ tailL)))) (hs : (quoteB s).length + (1 + ((quoteB s).length + 7)) = X.size) (hbig : X.size ≤ 20000) :
    allE X = .good [(3, 0, (quoteB s).length, s), (3, (quoteB s).length + 1, (quoteB s).length + 1 + (quoteB s).length, s), (0, X.size, X.size, ⟨#[]⟩)] := by
  obtain ⟨h1, h2⟩ := stands_app hX
  obtain ⟨h3, h4⟩ := stands_app h2
  obtain ⟨h5, h6⟩ := stands_app h4
  rw [Nat.zero_add] at h3 h5 h6
  simp only [List.length_singleton] at h5 h6
  have n1 := next_quote hr hne h1
  have n2 := next_quote hr hne h5
  have q0 : ∀ k, Stands X k (quoteB s) → (txt X).b k = 39 := fun k h => by
    have e : quoteB s = 39 :: (quoteL (Items.items (txt s)) ++ [39]) := by unfold quoteB; simp
    rw [e] at h
    exact (stands_first h).1
  have b0 := q0 0 h1
  have b1 := q0 _ h5
  have bs : (txt X).b (quoteB s).length = 32 := (stands_first h3).1
  generalize (quoteB s).length = m at *
  unfold allE
  rw [if_neg (by omega), blank_not (by rw [b0]; rfl) (by rw [b0]; decide)]
  obtain ⟨g, hg⟩ : ∃ g, X.size = g + 3 := ⟨X.size - 3, by omega⟩
  have hb1 : blankE (txt X).b X.size (X.size + 1) m = m + 1 := by
    rw [blank_ws (by omega) (by rw [bs]; rfl)]
    exact blank_not (by rw [b1]; rfl) (by rw [b1]; decide)
  have hb2 : blankE (txt X).b X.size (X.size + 1) (m + 1 + m) = X.size := tail_blank h6 (by omega) (by omega)
  have key : ∀ q, allGo X (q + 3) 0 [] = .good [(3, 0, m, s), (3, m + 1, m + 1 + m, s), (0, X.size, X.size, ⟨#[]⟩)] := fun q => by
    rw [allGo, if_pos (by omega)]
    simp only [n1, Nat.zero_add, hb1]
    rw [allGo, if_pos (by omega)]
    simp only [n2, hb2]
    rw [allGo, if_neg (by omega)]
    rfl
  have := key (g + 1)
  rw [show X.size + 1 = g + 1 + 3 by omega]
  exact this
/-- The empty text in quotes is no literal. -/
theorem back_none {s X : ByteArray} (h0 : s.size = 0) (hX : Stands X 0 (quoteB s ++ ([32] ++ (quoteB s ++ tailL)))) (hbig : X.size ≤ 20000) : allE X = .bad 14 0 := by
  have hc : (txt s).cnt = 0 := Txt.cnt_of _ (by show 0 = s.size; exact h0.symm)
  have hq : quoteB s = [39, 39] := by
    unfold quoteB Items.items
    rw [hc]
    rfl
  rw [hq] at hX
  have h2 := (stands_app hX).1
  have b0 : (txt X).b 0 = 39 := (stands_first h2).1
  have b1 : (txt X).b 1 = 39 := h2.2 1 39 rfl
  have hl := h2.1
  simp at hl
  have hu : untilE (txt X).b X.size 39 (X.size + 1) (0 + 1) = some 1 := by
    rw [untilE, if_pos (by omega), if_pos b1]
  have hg : litGo X 1 (X.size + 1) (0 + 1) [] = .good [] := litGo_end (by omega)
  have hn : nextX X 0 = .bad 14 0 := by
    unfold nextX
    rw [b0, if_neg (by decide), if_pos rfl]
    unfold litX
    rw [hu]
    simp only [hg]
    rw [if_pos trivial]
  unfold allE
  rw [if_neg (by omega), blank_not (by rw [b0]; rfl) (by rw [b0]; decide), allGo, if_pos (by omega)]
  simp only [hn]

/-- Parts rise, and do not lie over one another. -/
def Rise (n a : Nat) (l : List (Int × Nat × Nat × ByteArray)) : Prop :=
  (∀ (i : Nat) (x : Int × Nat × Nat × ByteArray), l[i]? = some x → x.2.1 ≤ x.2.2.1 ∧ x.2.2.1 ≤ n) ∧ (∀ (i : Nat) (x y : Int × Nat × Nat × ByteArray), l[i]? = some y → l[i + 1]? = some x → y.2.2.1 ≤ x.2.1) ∧ ∀ (y : Int × Nat × Nat × ByteArray), l[l.length - 1]? = some y → y.2.2.1 ≤ a
theorem Rise.snoc {n a p : Nat} {l : List (Int × Nat × Nat × ByteArray)} {x : Int × Nat × Nat × ByteArray} (h : Rise n a l) (h1 : a ≤ x.2.1) (h2 : x.2.1 ≤ x.2.2.1) (h3 : x.2.2.1 ≤ n) (h4 : x.2.2.1 ≤ p) : Rise n p (l ++ [x]) := by
  obtain ⟨g1, g2, g3⟩ := h
  have at_end : ∀ y, (l ++ [x])[l.length]? = some y → y = x := fun y hy => by
    rw [List.getElem?_append_right (Nat.le_refl _), Nat.sub_self] at hy
    cases hy; rfl
  refine ⟨fun i y hy => ?_, fun i y z hz hy => ?_, fun y hy => ?_⟩
  · by_cases hi : i < l.length
    · rw [List.getElem?_append_left hi] at hy
      exact g1 i y hy
    · have hl := (List.getElem?_eq_some_iff.1 hy).1
      simp only [List.length_append, List.length_singleton] at hl
      have e : i = l.length := by omega
      subst e
      rw [at_end y hy]
      exact ⟨h2, h3⟩
  · have hl := (List.getElem?_eq_some_iff.1 hy).1
    simp only [List.length_append, List.length_singleton] at hl
    have hi : i < l.length := by omega
    rw [List.getElem?_append_left hi] at hz
    by_cases h5 : i + 1 < l.length
    · rw [List.getElem?_append_left h5] at hy
      exact g2 i y z hz hy
    · have e : i + 1 = l.length := by omega
      rw [e] at hy
      rw [at_end y hy]
      have := g3 z (by rw [show l.length - 1 = i by omega]; exact hz)
      omega
  · rw [show (l ++ [x]).length - 1 = l.length by simp] at hy
    rw [at_end y hy]
    exact h4
theorem rise_go {s : ByteArray} : ∀ (f a : Nat) (l m : List (Int × Nat × Nat × ByteArray)), a ≤ s.size → Rise s.size a l → allGo s f a l = .good m → ∃ p, Rise s.size p m
  | 0, a, l, m, _, h, e => by
    rw [allGo] at e
    cases e
    exact ⟨a, h⟩
  | f + 1, a, l, m, ha, h, e => by
    rw [allGo] at e
    split at e
    · rename_i hlt
      cases hn : nextX s a with
      | bad c p => simp only [hn] at e; cases e
      | tok k z t g =>
        simp only [hn] at e
        have hin := nextX_in hlt hn
        have hb := blankE_in (txt s).b s.size (s.size + 1) z hin.2
        exact rise_go f _ _ m hb.2 (h.snoc (x := (k, a, z, t)) (Nat.le_refl _) (by show a ≤ z; omega) hin.2 hb.1) e
    · cases e
      exact ⟨s.size, h.snoc (x := (0, s.size, s.size, ⟨#[]⟩)) ha (Nat.le_refl _) (Nat.le_refl _) (Nat.le_refl _)⟩
theorem rise_all {s : ByteArray} {m : List (Int × Nat × Nat × ByteArray)} (h : allE s = .good m) : ∃ p, Rise s.size p m := by
  unfold allE at h
  split at h
  · cases h
  · exact rise_go _ _ _ _ (blankE_in _ _ _ _ (Nat.zero_le _)).2 ⟨fun i x h => by simp at h, fun i x y h => by simp at h, fun y h => by simp at h⟩ h
theorem all_code {s : ByteArray} {c : Int} {p : Nat} (h : allE s = .bad c p) : c ≠ 0 := by
  have key : ∀ f a l, allGo s f a l = .bad c p → c ≠ 0 := fun f => by
    induction f with
    | zero => intro a l h; rw [allGo] at h; cases h
    | succ f ih =>
      intro a l h
      rw [allGo] at h
      split at h
      · cases hn : nextX s a with
        | bad c' p' => simp only [hn] at h; cases h; exact nextX_code hn
        | tok k z t g => simp only [hn] at h; exact ih _ _ h
      · cases h
  unfold allE at h
  split at h
  · cases h; decide
  · exact key _ _ _ h

end Go.Proofs.YtfjlhfalnciamaaDoor.Lex
