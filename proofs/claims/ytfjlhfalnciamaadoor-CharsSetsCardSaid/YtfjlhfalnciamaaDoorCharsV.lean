/- What the rows of the packages chars and lex hand in: the tables, a set that comes in. -/
import Derived.Test.YtfjlhfalnciamaaDoorCharsR
import Derived.Test.YtfjlhfalnciamaaDoorCards
import Derived.Test.YtfjlhfalnciamaaDoorTie
import Derived.WalkKit
import Derived.ProofKit
import Derived.OpenShut
import Derived.ShutString
import Derived.MakeChecks
import Derived.Deep.DeepHandedRow
import Derived.Deep.Slices
import Derived.Lib.LaidTab
import Derived.Lib.LaidU8
namespace Go.Proofs.YtfjlhfalnciamaaDoor.Chars
open Go Go.RowKit Go.Proofs.Chars
open Go.ChangeShapes Go.WideShapes Go.ChangeAt
open Go.Proofs.YtfjlhfalnciamaaDoor.Utf

theorem own : ownKnob Tryd.prog.godebug = none := by kernel_rfl
theorem laidOut : laidOutB Tryd.prog = true := by kernel_rfl
theorem u8extra : U8Extra Tryd.prog Tryd.lays260_ren := {
  n3 := by kernel_rfl
  n4 := by kernel_rfl
  y3 := by kernel_rfl
  y4 := by kernel_rfl
  c5 := by kernel_rfl
  c119 := by kernel_rfl
  c138 := by kernel_rfl }
theorem first_same : Rows.laid_unicode_utf8_first = Lib.firstData := by kernel_rfl
theorem accept_same : (Rows.laid_unicode_utf8_acceptRanges : DataW Unit) = Lib.acceptData := by kernel_rfl
theorem u8_of {l : List (String × DataW Unit)} {W : World} (h : laidMet Tryd.prog l W) (h1 : ("unicode/utf8.first", Rows.laid_unicode_utf8_first) ∈ l) (h2 : ("unicode/utf8.acceptRanges", Rows.laid_unicode_utf8_acceptRanges) ∈ l) : U8 W := by
  have a1 := Lib.laidMet.reads h h1
  have a2 := Lib.laidMet.reads h h2
  rw [first_same] at a1
  rw [accept_same] at a2
  exact utf8Tabs_of_reads Tryd.lays260 u8extra a1 a2
def tabNs : List Int := [0, 1, 56, 2, 57, 49, 28, 3, 61, 58, 42, 50, 38, 29, 17, 4, 62, 47, 59, 36, 45, 43, 51, 22, 53, 39, 33, 30, 24, 18, 12, 5, 63, 55, 48, 27, 60, 41, 37, 16, 46, 35, 44, 21, 52, 32, 23, 11, 54, 26, 40, 15, 34, 20, 31, 10, 25, 14, 19, 9, 13, 8, 7, 6]
def tab32 : List Int := [0, 1, 28, 2, 29, 14, 24, 3, 30, 22, 20, 15, 25, 17, 4, 8, 31, 27, 13, 23, 21, 19, 16, 7, 26, 12, 18, 6, 11, 5, 10, 9]
theorem gTab : Tryd.prog.globalNamed "math/bits.deBruijn64tab" = some 5 := by kernel_rfl
theorem gTabType : (Tryd.prog.globals[5]?).map (·.type) = some 213 := by kernel_rfl
theorem cells213 : Tryd.prog.cellsOf 213 = 64 := by kernel_rfl
theorem cells5 : Tryd.prog.cellsOf 5 = 1 := by kernel_rfl
theorem z16_of {l : List (String × DataW Unit)} {W : World} (h : laidMet Tryd.prog l W) (h1 : ("math/bits.deBruijn64tab", Rows.laid_math_bits_deBruijn64tab) ∈ l) : Z16 W := by
  obtain ⟨g, t, cs, fuel, p, hg, hty, hvar, hd⟩ := Lib.laidMet.reads h h1
  obtain rfl := Option.some.inj (gTab.symm.trans hg)
  obtain rfl := Option.some.inj (gTabType.symm.trans hty)
  have he : (Rows.laid_math_bits_deBruijn64tab : DataW Unit) = Lib.tabData .u8 tabNs := by kernel_rfl
  rw [he] at hd
  have hcs := Lib.cells_of_tab Tryd.underlying213 Tryd.underlying5 cells5 cells213 hd
  have := World.var?_cell hg hvar 15
  unfold Z16
  rw [this, ← Array.getElem?_toList, hcs]; rfl
def pow10s : List Int := [1, 10, 100, 1000, 10000, 100000, 1000000, 10000000, 100000000, 1000000000, 10000000000, 100000000000, 1000000000000, 10000000000000, 100000000000000, 1000000000000000, 10000000000000000, 100000000000000000, 1000000000000000000, 10000000000000000000]
def acceptNs : List Int := (List.range 16).flatMap fun i => [(Lib.accLo i : Int), (Lib.accHi i : Int)]
/-- A world in which the tables lie. -/
def laidIn (g : Nat) (l : List Value) (h : Array Obj) : Array Obj := h.modify g fun
  | .cells _ t frozen => .cells l.toArray t frozen
  | o => o
noncomputable def laidWorld (os : Os) : World :=
  { World.holding Tryd.prog os ⟨#[], #[], []⟩ with heap := laidIn 4 (tab32.map (Value.int .u8)) (laidIn 3 (pow10s.map (Value.int .u64)) (laidIn 5 (tabNs.map (Value.int .u8)) (laidIn 1 (acceptNs.map (Value.int .u8)) (laidIn 0 (Lib.firstTab.map (Value.int .u8)) (World.holding Tryd.prog os ⟨#[], #[], []⟩).heap)))) }

theorem i32_wf {a : Int} (h : (Lit.int IntKind.i32 a).wf = true) : -2147483648 ≤ a ∧ a ≤ 2147483647 := by
  have e1 : IntKind.i32.min = -2147483648 := by kernel_rfl
  have e2 : IntKind.i32.max = 2147483647 := by kernel_rfl
  simp [Lit.wf, e1, e2] at h
  omega
theorem i64_wf {a : Int} (h : (Lit.int IntKind.i64 a).wf = true) : -9223372036854775808 ≤ a ∧ a ≤ 9223372036854775807 := by
  have e1 : IntKind.i64.min = -9223372036854775808 := by kernel_rfl
  have e2 : IntKind.i64.max = 9223372036854775807 := by kernel_rfl
  simp [Lit.wf, e1, e2] at h
  omega
theorem cells44 : Tryd.prog.cellsOf 44 = 2 := by kernel_rfl
theorem cells21 : Tryd.prog.cellsOf 21 = 1 := by kernel_rfl

section
variable {H : Type} {enc : TypeId × Value → H} {W : World} {base : Nat} {spare : Nat → Bool} {held : Bool}
set_option maxRecDepth 100000 in
theorem range_of_trod {fuel : Nat} {cs : List Value} {x : DataW H × List MemPlace} (h : DataW.trod enc Tryd.prog W base spare held fuel 44 cs = some x) :
    ∃ lo hi, cs = [.int .i32 lo, .int .i32 hi] ∧ in32 (lo, hi) := by
  obtain ⟨ys, n', _, _, hlen, hyl, hf⟩ := DataW.trod_struct Tryd.underlying44 h
  rw [cells44] at hlen
  match cs, hlen with
  | [c0, c1], _ =>
    have h0 := hf 0 _ rfl
    have h1 := hf 1 _ rfl
    simp [cells21] at h0 h1
    have y0 : ys[0]? = some (ys[0]'(by rw [hyl]; decide)) := List.getElem?_eq_getElem _
    have y1 : ys[1]? = some (ys[1]'(by rw [hyl]; decide)) := List.getElem?_eq_getElem _
    try rw [y0] at h0
    try rw [y1] at h1
    obtain ⟨lo, e0, _, w0⟩ := DataW.trod_int Tryd.underlying21 h0
    obtain ⟨hi, e1, _, w1⟩ := DataW.trod_int Tryd.underlying21 h1
    simp at e0 e1
    subst e0
    subst e1
    exact ⟨lo, hi, rfl, i32_wf w0, i32_wf w1⟩
/-- A set that comes in is a slice of ranges. -/
theorem rgs_of_trod {fuel : Nat} {ad : Option Addr} {len cap : Nat} {x : DataW H × List MemPlace} (h : DataW.trod enc Tryd.prog W base spare held fuel 23 [.slice ad len cap] = some x) :
    ∃ L, Rgs W (.slice ad len cap) L := by
  rcases Deep.open_slice Tryd.underlying23 h with ⟨hcs, _⟩ | ⟨a, ln, cp, m, n, D, Pl, hcs, hb, hl, hm, hmm, hx, hi⟩
  · simp at hcs
    obtain ⟨rfl, rfl, rfl⟩ := hcs
    exact ⟨[], by simp, none, 0, rfl, by simp, by simp [maxLen], fun h => by simp at h⟩
  · simp at hcs
    obtain ⟨rfl, rfl, rfl⟩ := hcs
    have hlm : len ≤ m := by rw [hmm]; split <;> omega
    have key : ∀ i, i < len → ∃ x : Rg, in32 x ∧ W.cell? (a.add (i * 2)) = some (.int .i32 x.1) ∧ W.cell? ((a.add (i * 2)).add 1) = some (.int .i32 x.2) := fun i hil => by
      obtain ⟨cs', hc, ht⟩ := hi i (by omega)
      rw [cells44] at hc
      obtain ⟨lo, hi', rfl, hin⟩ := range_of_trod ht
      obtain ⟨_, _, hat⟩ := World.cells?_some hc
      refine ⟨(lo, hi'), hin, ?_, ?_⟩
      · have := hat 0 (by simp)
        simpa [Addr.add] using this
      · have := hat 1 (by simp)
        simpa using this
    by_cases h0 : len = 0
    · subst h0
      exact ⟨[], by simp, some a, cap, rfl, by simp, hm, fun h => by simp at h⟩
    obtain ⟨b, off, spot⟩ := a
    obtain ⟨x0, _, hc0, _⟩ := key 0 (by omega)
    obtain rfl : spot = none := by simpa [Addr.add] using World.cell?_spot hc0
    have hadd : ∀ k, (⟨b, off, none⟩ : Addr).add k = ⟨b, off + k, none⟩ := fun k => by
      by_cases e : k = 0
      · subst e; simp [Addr.add]
      · simp [Addr.add, e]
    have hblk : b < W.heap.size := World.block_lt_of_cell? W _ (by rw [hadd] at hc0; exact hc0)
    let f : Nat → Rg := fun i => if h : i < len then Classical.choose (key i h) else (0, 0)
    have hf : ∀ i (h : i < len), in32 (f i) ∧ W.cell? ⟨b, off + i * 2, none⟩ = some (.int .i32 (f i).1) ∧ W.cell? ⟨b, off + i * 2 + 1, none⟩ = some (.int .i32 (f i).2) := fun i h => by
      have hk := Classical.choose_spec (key i h)
      have e : f i = Classical.choose (key i h) := dif_pos h
      rw [e]
      obtain ⟨z, hz⟩ : ∃ z, Classical.choose (key i h) = z := ⟨_, rfl⟩
      rw [hz] at hk ⊢
      rw [hadd] at hk
      refine ⟨hk.1, hk.2.1, ?_⟩
      have h2 := hk.2.2
      have : (⟨b, off + i * 2, none⟩ : Addr).add 1 = ⟨b, off + i * 2 + 1, none⟩ := by simp [Addr.add]
      rw [this] at h2
      exact h2
    have hL : ((List.range len).map f).length = len := by simp
    refine ⟨(List.range len).map f, fun x hx => ?_, some ⟨b, off, none⟩, cap, by rw [hL], by rw [hL]; exact hl, hm, fun _ => ⟨b, off, rfl, hblk, fun i x hx => ?_⟩⟩
    · obtain ⟨i, hi2, rfl⟩ := List.mem_map.1 hx
      exact (hf i (List.mem_range.1 hi2)).1
    · have hil : i < len := by have := (List.getElem?_eq_some_iff.1 hx).1; rwa [hL] at this
      have : f i = x := by
        rw [List.getElem?_map, List.getElem?_range hil] at hx
        exact Option.some.inj hx
      subst this
      exact (hf i hil).2
end

end Go.Proofs.YtfjlhfalnciamaaDoor.Chars
