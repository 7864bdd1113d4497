/- Two numbers that come in, as an array: opened and shut. -/
import Derived.Test.YtfcdmkfbkkogbaaDoorUtfO
import Derived.Lib.SmallJoins
import Derived.ChangeMaps5
import Derived.OpenShut
namespace Go.Proofs.YtfcdmkfbkkogbaaDoor.Edit
open Go Go.RowKit Go.ChangeShapes Go.WideShapes Go.Joins

theorem cells50 : Tryd.prog.cellsOf 50 = 2 := by kernel_rfl
theorem cells3 : Tryd.prog.cellsOf 3 = 1 := by kernel_rfl
def twoV (x y : Int) : Value := .agg #[.int .i64 x, .int .i64 y]
def twoD {H : Type} (x y : Int) : DataW H := .agg [.lit (.int .i64 x), .lit (.int .i64 y)]
section
variable {H : Type} {enc : TypeId × Value → H} {w : World} {base : Nat} {sp : Nat → Bool} {held : Bool}
set_option maxRecDepth 100000 in
theorem open_two {r : Reach} {b0 : Nat} {v : Value} {d : DataW H} {ps : List MemPlace} (hval : Value.okWide Tryd.prog w r b0 50 v) (hd : DataW.Trod enc Tryd.prog w base sp held 50 v d ps) :
    ∃ x y : Int, v = twoV x y ∧ d = twoD x y ∧ ps = [] ∧ (Lit.int .i64 x).wf = true ∧ (Lit.int .i64 y).wf = true := by
  simp only [Value.okWide, Tryd.underlying50] at hval
  obtain ⟨cs, rfl, h2, _⟩ := hval
  rw [cells50] at h2
  obtain ⟨c0, c1, rfl⟩ := array2 h2
  obtain ⟨fuel, hf⟩ := hd
  obtain ⟨xs, m, rfl, hx, hl, hn, hi⟩ := DataW.trod_array Tryd.underlying50 hf
  have h0 := hi 0 (by decide)
  have h1 := hi 1 (by decide)
  rw [cells3] at h0 h1
  simp [Value.cells] at h0 h1
  match xs, hn with
  | [y0, y1], _ =>
    simp at h0 h1
    obtain ⟨x, e0, e1, wx⟩ := DataW.trod_int Tryd.underlying3 h0
    obtain ⟨y, e2, e3, wy⟩ := DataW.trod_int Tryd.underlying3 h1
    simp at e0 e2
    subst e0 e2 e1 e3
    simp at hx
    obtain ⟨rfl, rfl⟩ := hx
    exact ⟨x, y, rfl, rfl, rfl, wx, wy⟩
set_option maxRecDepth 100000 in
theorem shut_two {x y : Int} (hx : (Lit.int .i64 x).wf = true) (hy : (Lit.int .i64 y).wf = true) : DataW.Trod enc Tryd.prog w base sp held 50 (twoV x y) (twoD x y) [] := by
  have r2 : List.range 2 = [0, 1] := rfl
  exact ⟨2, by unfold twoV twoD; simp [DataW.trod, Tryd.underlying50, Tryd.underlying3, Value.cells, cells50, cells3, r2, hx, hy]⟩
end

end Go.Proofs.YtfcdmkfbkkogbaaDoor.Edit
