/- An edit that comes in, by value: opened and shut. -/
import Derived.Test.YtfcdmkfbkkogbaaDoorEditA
import Derived.Test.YtfcdmkfbkkogbaaDoorUtfO
import Derived.Lib.SmallJoins
import Derived.ChangeMaps5
namespace Go.Proofs.YtfcdmkfbkkogbaaDoor.Edit
open Go Go.RowKit Go.ChangeShapes Go.WideShapes Go.Joins

theorem cells41 : Tryd.prog.cellsOf 41 = 3 := by kernel_rfl
def editD {H : Type} (a c : Int) (p : ByteArray) : DataW H := .agg [.lit (.int .i64 a), .lit (.int .i64 c), .lit (.string p.data.toList)]
section
variable {H : Type} {enc : TypeId × Value → H} {w : World} {base : Nat} {sp : Nat → Bool} {held : Bool}
set_option maxRecDepth 100000 in
theorem open_edit {r : Reach} {b0 : Nat} {v : Value} {d : DataW H} {ps : List MemPlace} (hval : Value.okWide Tryd.prog w r b0 41 v) (hd : DataW.Trod enc Tryd.prog w base sp held 41 v d ps) :
    ∃ (a c : Int) (p : ByteArray), v = editV a c p ∧ d = editD a c p ∧ ps = [] ∧ (Lit.int .i64 a).wf = true ∧ (Lit.int .i64 c).wf = true ∧ p.size ≤ maxLen := by
  obtain ⟨c0, c1, c2, y0, y1, y2, m, rfl, rfl, rfl, hy0, hy1, hy2⟩ := open_agg3 Tryd.underlying41 (by kernel_rfl) cells41 hval hd
  obtain ⟨x, e0, rfl, wx⟩ := DataW.trod_int Tryd.underlying3 hy0
  obtain ⟨y, e1, rfl, wy⟩ := DataW.trod_int Tryd.underlying3 hy1
  obtain ⟨f, e2, rfl, wf⟩ := DataW.trod_string Tryd.underlying9 hy2
  simp at e0 e1 e2
  subst e0 e1 e2
  exact ⟨x, y, f, rfl, rfl, rfl, wx, wy, wf⟩
set_option maxRecDepth 100000 in
theorem shut_edit {a c : Int} {p : ByteArray} (ha : (Lit.int .i64 a).wf = true) (hc : (Lit.int .i64 c).wf = true) (hp : p.size ≤ maxLen) : DataW.Trod enc Tryd.prog w base sp held 41 (editV a c p) (editD a c p) [] := by
  have := shut_agg3 (enc := enc) (w := w) (base := base) (spare := sp) (held := held) (y0 := (.lit (.int .i64 a), [])) (y1 := (.lit (.int .i64 c), [])) (y2 := (.lit (.string p.data.toList), [])) (v0 := .int .i64 a) (v1 := .int .i64 c) (v2 := .string p) Tryd.underlying41 (by kernel_rfl) cells41 ⟨1, by simp [DataW.trod, Tryd.underlying3, ha]⟩ ⟨1, by simp [DataW.trod, Tryd.underlying3, hc]⟩ ⟨1, by simp [DataW.trod, Tryd.underlying9, hp]⟩
  unfold editV editD
  simpa using this
end

end Go.Proofs.YtfcdmkfbkkogbaaDoor.Edit
