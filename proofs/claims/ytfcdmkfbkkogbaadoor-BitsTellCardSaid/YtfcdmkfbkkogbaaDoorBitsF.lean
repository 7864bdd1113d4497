/- Sets as rows of words: Same, walked. -/
import Derived.Test.YtfcdmkfbkkogbaaDoorBitsE
namespace Go.Proofs.YtfcdmkfbkkogbaaDoor.Bits
open Go Go.RowKit

theorem Like.refl (w : World) : Like w w := ⟨rfl, rfl, rfl, rfl⟩
theorem Like.cell {w' w : World} (h : Like w' w) (a : Addr) : w'.cell? a = w.cell? a := by simp [World.cell?, h.1]
theorem Like.trans {a b c : World} (h : Like a b) (k : Like b c) : Like a c := ⟨h.1.trans k.1, h.2.1.trans k.2.1, h.2.2.1.trans k.2.2.1, h.2.2.2.trans k.2.2.2⟩
theorem Like.below {w' w : World} (h : Like w' w) (B : Nat) : Below B w w' := Below.like (Below.refl _ _) h

def sameB (s o : List Nat) : Bool := decide (tl s = tl o) && (List.range (tl s)).all fun i => decide (s.getD i 0 = o.getD i 0)

theorem same_iff {s o : List Nat} : sameB s o = true ↔ ∀ i, wd s i = wd o i := by
  unfold sameB
  simp only [Bool.and_eq_true, decide_eq_true_eq, List.all_eq_true, List.mem_range]
  constructor
  · rintro ⟨h1, h2⟩ i
    by_cases h : i < tl s
    · rw [wd_lt h, wd_lt (by omega), h2 i h]
    · rw [wd_ge (by omega), wd_ge (by omega)]
  · intro h
    have e := tl_eq h
    exact ⟨e, fun i hi => by rw [← wd_lt hi, ← wd_lt (l := o) (by omega)]; exact h i⟩

end Go.Proofs.YtfcdmkfbkkogbaaDoor.Bits
