/- Contracts of the package utf: Encode, and the document's. -/
import Derived.Test.YtfjlhfalnciamaaDoorUtfE
import Derived.Lib.BufferRead
namespace Go.Proofs.YtfjlhfalnciamaaDoor.Utf
open Go Go.RowKit

/-- A sign's bytes, as a string; of what is none: the empty one. -/
def encB (r : Int) : ByteArray := if Lib.validRune r then Utf8.encode r else ⟨#[]⟩
theorem valid_iff (r : Int) : Lib.validRune r = true ↔ (0 ≤ r ∧ r < 55296) ∨ (57343 < r ∧ r ≤ 1114111) := by
  unfold Lib.validRune; rw [decide_eq_true_eq]

def ofInts (ns : List Int) : ByteArray := ⟨(ns.map fun n => UInt8.ofNat n.toNat).toArray⟩
/-- The bytes of a sign are the document's. -/
theorem enc_bytes (r : Nat) (hv : Lib.validRune (r : Int) = true) : encB (r : Int) = ofInts ((encN r).map Int.ofNat) := by
  have h := (valid_iff _).1 hv
  unfold encB Utf8.encode encN
  rw [hv]
  have : Utf8.valid (r : Int) = true := by unfold Utf8.valid; simp; omega
  simp only [this, if_true, Int.toNat_natCast]
  rw [if_neg (by omega : ¬ ¬ (r < 55296 ∨ (57344 ≤ r ∧ r ≤ 1114111)))]
  repeat' split
  all_goals first | rfl | omega

set_option maxRecDepth 100000 in
theorem enc_any (r : Int) (W : World) : Calls Tryd.prog 80 #[.int .i32 r] W fun e W' => e = .returned (.tuple #[.string (encB r), .bool (Lib.validRune r)]) ∧ W = W' := by
  have HV := Lib.hid (Tryd.utf8_ValidRune r W)
  unfold encB
  cases hv : Lib.validRune r with
  | true =>
    rw [hv] at HV
    clear hv
    go_enter Tryd.func80, Tryd.ntmps80
    go_wp2_with fail
    refine HV.out.mono ?_
    rintro e w1 ⟨rfl, rfl⟩
    go_wp2
    go_ret2
    exact ⟨rfl, rfl⟩
  | false =>
    rw [hv] at HV
    clear hv
    go_enter Tryd.func80, Tryd.ntmps80
    go_wp2_with fail
    refine HV.out.mono ?_
    rintro e w1 ⟨rfl, rfl⟩
    go_wp2
    go_ret2
    exact ⟨rfl, rfl⟩

end Go.Proofs.YtfjlhfalnciamaaDoor.Utf
