/- What stands between brackets (Read), walked. -/
import Derived.Test.YtfjlhfalnciamaaDoorCharsO
namespace Go.Proofs.YtfjlhfalnciamaaDoor.Chars
open Go Go.RowKit Go.Proofs.Chars
open Go.Proofs.YtfjlhfalnciamaaDoor.Utf

inductive Rd where
  | bad (c : Int) (a : Nat) : Rd
  | good (l : List Rg) : Rd
def readGo (s : ByteArray) : Nat → Nat → List Rg → Rd
  | 0, _, l => .good l
  | f + 1, a, l =>
    if a < s.size then
      match sgnE s a with
      | .err c => .bad c a
      | .sgn lo nx =>
        if nx + 1 < s.size ∧ (txt s).b nx = 45 then
          match sgnE s (nx + 1) with
          | .err c => .bad c (nx + 1)
          | .sgn hi n2 => if hi < lo then .bad 13 a else readGo s f n2 (l ++ [(lo, hi)])
        else readGo s f nx (l ++ [(lo, lo)])
    else .good l
def readE (s : ByteArray) : Rd := if s.size = 0 then .bad 14 0 else readGo s s.size 0 []

theorem numE_sign {b : Nat → Nat} {n : Nat} {r : Int} {m : Nat} (h : numE b n = some (r, m)) : Lib.validRune r = true := by
  unfold numE at h
  split at h
  · cases h
  · split at h
    · cases h
    · split at h
      · rename_i h1; cases h; exact h1
      · cases h
theorem escE_sign {b : Nat → Nat} {n : Nat} {r : Int} {m : Nat} (h : escE b n = some (r, m)) : Lib.validRune r = true := by
  unfold escE at h
  have ok : ∀ c : Int, 0 ≤ c → c < 55296 → Lib.validRune c = true := fun c h1 h2 => (valid_iff c).2 (.inl ⟨h1, h2⟩)
  split at h
  · cases h
  split at h
  · cases h; decide
  split at h
  · cases h; decide
  split at h
  · cases h; decide
  split at h
  · rename_i hc
    cases h
    exact ok _ (by omega) (by omega)
  split at h
  · exact numE_sign h
  · cases h
theorem ok_sign (t : Txt) (i : Nat) (h : t.ok i = true) : Lib.validRune (t.r i : Int) = true := by
  have hk := t.kind i
  unfold Txt.ok Txt.r Txt.w at h
  unfold Txt.r
  apply (valid_iff _).2
  have h0 := t.lt i
  have h1 := t.lt (i + 1)
  have h2 := t.lt (i + 2)
  have h3 := t.lt (i + 3)
  generalize t.dc i = d at hk h
  cases hk with
  | one a => left; constructor <;> (simp only []; omega)
  | bad a => simp at h
  | two a1 a2 a3 a4 a5 => left; constructor <;> (simp only []; omega)
  | three a1 a2 a3 a4 a5 a6 a7 a8 a9 => simp only []; omega
  | four a1 a2 a3 a4 a5 a6 a7 a8 a9 b1 b2 => right; constructor <;> (simp only []; omega)
/-- A sign that stands at a place is one, and ends behind it, within the text. -/
theorem sgnE_in {s : ByteArray} {k : Nat} (hk : k < s.size) {r : Int} {n : Nat} (h : sgnE s k = .sgn r n) : Lib.validRune r = true ∧ k < n ∧ n ≤ s.size := by
  unfold sgnE at h
  have hw := (txt s).w_pos k
  have hwn : k + (txt s).w k ≤ s.size := (txt s).w_in k hk
  have hsz : (s.extract (k + 1) s.size).size = s.size - (k + 1) := ext_size s (Nat.le_refl _)
  split at h
  · cases h
  · rename_i ho
    split at h
    · cases h
      exact ⟨ok_sign _ _ (by simpa using ho), by omega, hwn⟩
    · cases he : escE (txt (s.extract (k + 1) s.size)).b (s.extract (k + 1) s.size).size with
      | none => rw [he] at h; cases h
      | some rn =>
        obtain ⟨r', m⟩ := rn
        rw [he] at h
        have h1 := escE_in he
        have h2 := escE_sign he
        cases h
        exact ⟨h2, by omega, by omega⟩
theorem sgnE_err {s : ByteArray} {k : Nat} {c : Int} (h : sgnE s k = .err c) : c = 11 ∨ c = 12 := by
  unfold sgnE at h
  split at h
  · cases h; exact .inl rfl
  · split at h
    · cases h
    · cases he : escE (txt (s.extract (k + 1) s.size)).b (s.extract (k + 1) s.size).size with
      | none => rw [he] at h; cases h; exact .inr rfl
      | some rn => rw [he] at h; cases h

def stopV (c : Int) (a : Nat) : Value := .agg #[.int .i64 c, .int .i64 (a : Int)]
def ReadP (w : World) (o : Rd) (e : Ending) (w' : World) : Prop :=
  match o with
  | .bad c a => e = .returned (.tuple #[.slice none 0 0, stopV c a]) ∧ Below w.heap.size w w'
  | .good l => ∃ v O, e = .returned (.tuple #[v, stopV 0 0]) ∧ Rowed w' w.heap.size v O ∧ IsOf l O ∧ O.length ≤ l.length ∧ Below w.heap.size w w'

end Go.Proofs.YtfjlhfalnciamaaDoor.Chars
