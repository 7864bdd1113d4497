/- The law CharsSets, for whatever is handed in. -/
import Derived.Test.YtfjlhfalnciamaaDoorSetsU
import Derived.Test.YtfjlhfalnciamaaDoorCharsU
namespace Go.Proofs.YtfjlhfalnciamaaDoor.Chars
open Go Go.RowKit Go.Proofs.Chars

theorem csets_all {W : World} {va vb : Value} {a b : List Rg} (Ha : Rgs W va a) (Hb : Rgs W vb b) (r : Int) (T : GT W) (hr : -2147483648 ≤ r ∧ r ≤ 2147483647) :
    Calls Tryd.prog 3 #[va, vb, .int .i32 r] W fun e w' => e = .returned (.bool true) ∧ Below W.heap.size W w' := by
  by_cases hla : 20 < a.length
  · exact csets_long Ha Hb (.inl hla)
  by_cases hlb : 20 < b.length
  · exact csets_long Ha Hb (.inr hlb)
  exact csets_walk Ha Hb hla hlb hr.1 hr.2 fun w hb => works_any w (T.stay hb)

end Go.Proofs.YtfjlhfalnciamaaDoor.Chars
