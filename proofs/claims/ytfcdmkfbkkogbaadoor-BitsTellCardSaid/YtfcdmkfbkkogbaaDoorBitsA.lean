/- Sets as rows of words: how far a set counts (tidyLong). -/
import Derived.Test.YtfcdmkfbkkogbaaDoorRows
import Derived.Deep.CutBlock
import Derived.Deep.DeepCutAuto
import Derived.WalkKit
import Derived.BigRegion
import Derived.WalkSpells
import Derived.Lib.Hide
import Derived.Deep.QuietTactic
import Derived.BigQuiet
import Derived.Deep.LoopGhost
namespace Go.Proofs.YtfcdmkfbkkogbaaDoor.Bits
open Go Go.RowKit

abbrev wordV (x : Nat) : Value := .int .u64 (x : Int)
def words (l : List Nat) : List Value := l.map wordV
theorem words_length (l : List Nat) : (words l).length = l.length := List.length_map _
theorem words_get (l : List Nat) (i : Nat) : (words l)[i]? = l[i]?.map wordV := List.getElem?_map

/-- A value that is the row of these words. -/
def Words (w : World) (v : Value) (l : List Nat) : Prop :=
  ((v = .slice none 0 0 ∧ l = []) ∨ (∃ x cap, v = .slice (some x) 0 cap ∧ l = []) ∨
    (∃ b off cap, v = .slice (some ⟨b, off, none⟩) l.length cap ∧ l ≠ [] ∧ l.length ≤ cap ∧ cap ≤ maxLen ∧ ∀ i x, l[i]? = some x → w.cell? ⟨b, off + i, none⟩ = some (wordV x))) ∧
  (∀ x ∈ l, x < 18446744073709551616) ∧ l.length ≤ maxLen

/-- How far the first n words count. -/
def tlN : Nat → List Nat → Nat
  | 0, _ => 0
  | n + 1, l => if l.getD n 0 = 0 then tlN n l else n + 1
def tl (l : List Nat) : Nat := tlN (min l.length 1024) l

theorem tlN_le : ∀ n l, tlN n l ≤ n
  | 0, _ => Nat.le_refl _
  | n + 1, l => by
    unfold tlN; split
    · exact Nat.le_succ_of_le (tlN_le n l)
    · exact Nat.le_refl _
theorem tl_le (l : List Nat) : tl l ≤ l.length ∧ tl l ≤ 1024 := by
  have := tlN_le (min l.length 1024) l
  unfold tl; omega

theorem tidyLong_any {w : World} {v : Value} {l : List Nat} (H : Words w v l) : Calls Tryd.prog 67 #[v] w fun e w' => e = .returned (.int .i64 (tl l : Int)) ∧ w = w' := by
  obtain ⟨h, hlt, hmax⟩ := H
  rcases h with ⟨rfl, rfl⟩ | ⟨x, cap, rfl, rfl⟩ | ⟨b, off, cap, rfl, hne, hcap, hcm, hc⟩
  · go_enter Tryd.func67, Tryd.ntmps67
    go_wp2
    go_loop [3] (fun n => n = .int .i64 0) (fun _ => 0)
    case atStart => rfl
    case round =>
      obtain rfl := hrel
      go_wp2
      go_ret
      exact ⟨rfl, rfl⟩
  · go_enter Tryd.func67, Tryd.ntmps67
    go_wp2
    go_loop [3] (fun n => n = .int .i64 0) (fun _ => 0)
    case atStart => rfl
    case round =>
      obtain rfl := hrel
      go_wp2
      go_ret
      exact ⟨rfl, rfl⟩
  · have HT := Lib.hid (show tlN (min l.length 1024) l = tl l from rfl)
    have HC := Lib.hid hc
    unfold maxLen at hmax
    obtain ⟨n, hn⟩ : ∃ n, n = l.length := ⟨_, rfl⟩
    rw [← hn] at HT hmax ⊢
    have Hn := Lib.hid hn
    have hcase : n ≤ 1024 ∨ 1024 < n := by omega
    clear hc hn hlt hne hcap hcm
    rcases hcase with h | h
    · rw [show min n 1024 = n by omega] at HT
      go_enter Tryd.func67, Tryd.ntmps67
      go_wp2
      go_loop [3] (fun t => ∃ k : Nat, k ≤ n ∧ t = .int .i64 k ∧ Hid (tlN k l = tl l)) (fun t => (intOf t).toNat)
      case atStart => exact ⟨n, Nat.le_refl _, rfl, HT⟩
      case round =>
        obtain ⟨k, hk, rfl, hT⟩ := hrel
        cases k with
        | zero =>
          have HT2 := Lib.hid hT.out
          clear hT
          go_wp2
          go_ret
          exact ⟨by rw [← HT2.out]; rfl, rfl⟩
        | succ k =>
          obtain ⟨x, hx⟩ : ∃ x, l[k]? = some x := ⟨l[k]'(by rw [← Hn.out]; omega), List.getElem?_eq_getElem _⟩
          have hcell := HC.out k x hx
          have hgd : l.getD k 0 = x := by rw [List.getD_eq_getElem?_getD, hx]; rfl
          by_cases h0 : x = 0
          · subst h0
            have HT2 : Hid (tlN k l = tl l) := by have := hT.out; unfold tlN at this; rw [if_pos hgd] at this; exact this
            clear hT hx hgd
            go_wp2
            go_round
            case rel => exact ⟨k, by omega, by go_num, HT2⟩
            case measure => simp [intOf]
          · have HT2 : Hid (k + 1 = tl l) := by have := hT.out; unfold tlN at this; rw [if_neg (by rw [hgd]; exact h0)] at this; exact this
            have hz : ((x : Int) == 0) = false := by simp; omega
            clear hT hx hgd h0
            go_wp2
            go_ret
            exact ⟨by rw [← HT2.out]; rfl, rfl⟩
    · rw [show min n 1024 = 1024 by omega] at HT
      go_enter Tryd.func67, Tryd.ntmps67
      go_wp2
      go_loop [3] (fun t => ∃ k : Nat, k ≤ n ∧ t = .int .i64 k ∧ Hid (tlN k l = tl l)) (fun t => (intOf t).toNat)
      case atStart => exact ⟨1024, by omega, rfl, HT⟩
      case round =>
        obtain ⟨k, hk, rfl, hT⟩ := hrel
        cases k with
        | zero =>
          have HT2 := Lib.hid hT.out
          clear hT
          go_wp2
          go_ret
          exact ⟨by rw [← HT2.out]; rfl, rfl⟩
        | succ k =>
          obtain ⟨x, hx⟩ : ∃ x, l[k]? = some x := ⟨l[k]'(by rw [← Hn.out]; omega), List.getElem?_eq_getElem _⟩
          have hcell := HC.out k x hx
          have hgd : l.getD k 0 = x := by rw [List.getD_eq_getElem?_getD, hx]; rfl
          by_cases h0 : x = 0
          · subst h0
            have HT2 : Hid (tlN k l = tl l) := by have := hT.out; unfold tlN at this; rw [if_pos hgd] at this; exact this
            clear hT hx hgd
            go_wp2
            go_round
            case rel => exact ⟨k, by omega, by go_num, HT2⟩
            case measure => simp [intOf]
          · have HT2 : Hid (k + 1 = tl l) := by have := hT.out; unfold tlN at this; rw [if_neg (by rw [hgd]; exact h0)] at this; exact this
            have hz : ((x : Int) == 0) = false := by simp; omega
            clear hT hx hgd h0
            go_wp2
            go_ret
            exact ⟨by rw [← HT2.out]; rfl, rfl⟩

/-! ### the words that count -/
def wd (l : List Nat) (i : Nat) : Nat := if i < 1024 then l.getD i 0 else 0

theorem getD_ge {l : List Nat} {i : Nat} (h : l.length ≤ i) : l.getD i 0 = 0 := by simp [List.getElem?_eq_none h]

theorem tlN_zero : ∀ n l i, tlN n l ≤ i → i < n → l.getD i 0 = 0
  | 0, _, _, _, h => by omega
  | n + 1, l, i, h1, h2 => by
    unfold tlN at h1
    split at h1
    · rename_i h0
      by_cases e : i = n
      · subst e; exact h0
      · exact tlN_zero n l i h1 (by omega)
    · omega
theorem tlN_last : ∀ n l, 0 < tlN n l → l.getD (tlN n l - 1) 0 ≠ 0
  | 0, _, h => by simp [tlN] at h
  | n + 1, l, h => by
    unfold tlN at h ⊢
    split
    · rename_i h0
      rw [if_pos h0] at h
      exact tlN_last n l h
    · rename_i h0
      simpa using h0

theorem wd_ge {l : List Nat} {i : Nat} (h : tl l ≤ i) : wd l i = 0 := by
  unfold wd
  split
  · by_cases hl : l.length ≤ i
    · exact getD_ge hl
    · exact tlN_zero _ _ _ h (by omega)
  · rfl
theorem wd_lt {l : List Nat} {i : Nat} (h : i < tl l) : wd l i = l.getD i 0 := by
  unfold wd; rw [if_pos (by have := (tl_le l).2; omega)]
theorem wd_last {l : List Nat} (h : 0 < tl l) : wd l (tl l - 1) ≠ 0 := by
  rw [wd_lt (by omega)]; exact tlN_last _ _ h

theorem tl_eq {l l' : List Nat} (h : ∀ i, wd l i = wd l' i) : tl l = tl l' := by
  rcases Nat.lt_trichotomy (tl l) (tl l') with h1 | h1 | h1
  · exact absurd (wd_ge (l := l) (i := tl l' - 1) (by omega)) (by rw [h]; exact wd_last (by omega))
  · exact h1
  · exact absurd (wd_ge (l := l') (i := tl l - 1) (by omega)) (by rw [← h]; exact wd_last (by omega))

/-- Words that end with one that counts. -/
theorem tl_tidy {l : List Nat} (h : l.length ≤ 1024) (h1 : l.length = 0 ∨ l.getD (l.length - 1) 0 ≠ 0) : tl l = l.length := by
  unfold tl
  rw [Nat.min_eq_left h]
  rcases h1 with h0 | h1
  · rw [h0]; rfl
  · cases hn : l.length with
    | zero => rfl
    | succ n =>
      rw [hn] at h1
      unfold tlN
      rw [if_neg (by simpa using h1)]

theorem wd_take {l : List Nat} (i : Nat) : wd (l.take (tl l)) i = wd l i := by
  by_cases h : i < tl l
  · rw [wd_lt h]
    unfold wd
    rw [if_pos (by have := (tl_le l).2; omega), List.getD_eq_getElem?_getD, List.getD_eq_getElem?_getD, List.getElem?_take_of_lt h]
  · rw [wd_ge (l := l) (by omega)]
    unfold wd
    split
    · exact getD_ge (by rw [List.length_take]; omega)
    · rfl

theorem Words.stay {w w' : World} {v : Value} {l : List Nat} (H : Words w v l) (hb : Below w.heap.size w w') : Words w' v l := by
  obtain ⟨h, hlt, hmax⟩ := H
  refine ⟨?_, hlt, hmax⟩
  rcases h with h | h | ⟨b, off, cap, rfl, hne, hcap, hcm, hc⟩
  · exact .inl h
  · exact .inr (.inl h)
  · refine .inr (.inr ⟨b, off, cap, rfl, hne, hcap, hcm, fun i x hx => ?_⟩)
    have h1 := hc i x hx
    have hbs : b < w.heap.size := by
      unfold World.cell? at h1
      split at h1
      · rename_i e; exact (Array.getElem?_eq_some_iff.1 e).1
      · cases h1
    exact (hb.cell (p := ⟨b, off + i, none⟩) hbs).trans h1

/-- A row of the call's own. -/
def Own (w : World) (S : Nat) (v : Value) (l : List Nat) : Prop := w.ownsRow S 94 1 v l.length (words l) ∧ (∀ x ∈ l, x < 18446744073709551616) ∧ l.length ≤ maxLen

theorem Own.words {w : World} {S : Nat} {v : Value} {l : List Nat} (h : Own w S v l) : Words w v l := by
  obtain ⟨h1, h2, h3⟩ := h
  refine ⟨?_, h2, h3⟩
  rcases h1.2 with ⟨rfl, h0⟩ | ⟨g, cap, cur, rfl, hg, hh, hn, hcm, hcs, ht⟩
  · exact .inl ⟨rfl, List.length_eq_zero_iff.1 h0⟩
  · by_cases hl : l = []
    · subst hl; exact .inr (.inl ⟨_, cap, rfl, rfl⟩)
    · refine .inr (.inr ⟨g, 0, cap, rfl, hl, hn, hcm, fun i x hx => ?_⟩)
      have hi := (List.getElem?_eq_some_iff.1 hx).1
      rw [Nat.zero_add, h1.cellAt i (by omega), words_get, hx]
      rfl

theorem Own.stay {w w' : World} {S : Nat} {v : Value} {l : List Nat} (H : Own w S v l) (hb : Below w.heap.size w w') : Own w' S v l := by
  refine ⟨⟨H.1.1, ?_⟩, H.2⟩
  rcases H.1.2 with h0 | ⟨g, cap, cur, e1, e2, e3, e4⟩
  · exact .inl h0
  · exact .inr ⟨g, cap, cur, e1, e2, (hb.block g (Array.getElem?_eq_some_iff.1 e3).1).trans e3, e4⟩

end Go.Proofs.YtfcdmkfbkkogbaaDoor.Bits
