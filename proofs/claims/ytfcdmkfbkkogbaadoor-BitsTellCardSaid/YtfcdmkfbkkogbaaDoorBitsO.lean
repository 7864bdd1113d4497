/- What the rows of the package bits hand in: the table, the words. -/
import Derived.Test.YtfcdmkfbkkogbaaDoorBitsA
import Derived.Test.YtfcdmkfbkkogbaaDoorCards
import Derived.Test.YtfcdmkfbkkogbaaDoorTie
import Derived.WalkKit
import Derived.ProofKit
import Derived.OpenShut
import Derived.Deep.DeepHandedRow
import Derived.Lib.LaidTab
namespace Go.Proofs.YtfcdmkfbkkogbaaDoor.Bits
open Go Go.RowKit
open Go.ChangeShapes Go.WideShapes Go.ChangeAt

theorem own : ownKnob Tryd.prog.godebug = none := by kernel_rfl
theorem laidOut : laidOutB Tryd.prog = true := by kernel_rfl
theorem gTab : Tryd.prog.globalNamed "math/bits.deBruijn64tab" = some 2 := by kernel_rfl
theorem gTabType : (Tryd.prog.globals[2]?).map (·.type) = some 106 := by kernel_rfl
theorem cells45 : Tryd.prog.cellsOf 106 = 64 := by kernel_rfl
theorem cells5 : Tryd.prog.cellsOf 5 = 1 := by kernel_rfl
theorem cells35 : Tryd.prog.cellsOf 94 = 1 := by kernel_rfl

def tabNs : List Int := [0, 1, 56, 2, 57, 49, 28, 3, 61, 58, 42, 50, 38, 29, 17, 4, 62, 47, 59, 36, 45, 43, 51, 22, 53, 39, 33, 30, 24, 18, 12, 5, 63, 55, 48, 27, 60, 41, 37, 16, 46, 35, 44, 21, 52, 32, 23, 11, 54, 26, 40, 15, 34, 20, 31, 10, 25, 14, 19, 9, 13, 8, 7, 6]
theorem table {W : World} (h : laidMetH Tryd.prog [("math/bits.deBruijn64tab", Rows.laid_math_bits_deBruijn64tab)] W) : Lib.TabIs Tryd.prog W "math/bits.deBruijn64tab" .u8 tabNs :=
  Lib.tabIs_of_head (rest := []) gTab gTabType Tryd.underlying106 Tryd.underlying5 cells5 cells45 h
theorem table_at {W : World} (h : laidMetH Tryd.prog [("math/bits.deBruijn64tab", Rows.laid_math_bits_deBruijn64tab)] W) {i : Nat} {x : Int} (hx : tabNs[i]? = some x) : W.cell? ⟨2, i, none⟩ = some (.int .u8 x) := by
  have := (table h).cell gTab i (List.getElem?_eq_some_iff.1 hx).1
  rw [this, show tabNs.getD i 0 = x by rw [List.getD_eq_getElem?_getD, hx]; rfl]

noncomputable def laidWorld (os : Os) : World :=
  { World.holding Tryd.prog os ⟨#[], #[], []⟩ with heap := (World.holding Tryd.prog os ⟨#[], #[], []⟩).heap.modify 2 fun
      | .cells _ t frozen => .cells ((tabNs.map (Value.int .u8)).toArray) t frozen
      | o => o }

/-- A slice of words that reads is a row of words. -/
theorem words_of_trod {H : Type} {enc : TypeId × Value → H} {W : World} {base : Nat} {spare : Nat → Bool} {held : Bool} {fuel : Nat} {ad : Option Addr} {len cap : Nat} {x : DataW H × List MemPlace}
    (h : DataW.trod enc Tryd.prog W base spare held fuel 64 [.slice ad len cap] = some x) : ∃ l, Words W (.slice ad len cap) l := by
  rcases open_ints Tryd.underlying64 Tryd.underlying94 cells35 h with ⟨hcs, _⟩ | ⟨a, ln, c, zs, hcs, _, hl, hm, hz, _, hcell, hwf⟩
  · simp at hcs
    obtain ⟨rfl, rfl, rfl⟩ := hcs
    exact ⟨[], .inl ⟨rfl, rfl⟩, by simp, by simp [maxLen]⟩
  · simp at hcs
    obtain ⟨rfl, rfl, rfl⟩ := hcs
    by_cases h0 : len = 0
    · subst h0
      exact ⟨[], .inr (.inl ⟨a, cap, rfl, rfl⟩), by simp, by simp [maxLen]⟩
    have hzl : len ≤ zs.length := by rw [hz]; split <;> omega
    obtain ⟨b, off, spot⟩ := a
    have hc0 := hcell 0 (by omega)
    obtain rfl : spot = none := by simpa [Addr.add] using World.cell?_spot hc0
    have hlen : ((zs.take len).map Int.toNat).length = len := by rw [List.length_map, List.length_take_of_le hzl]
    have hb : ∀ z ∈ zs, 0 ≤ z ∧ z < 18446744073709551616 := fun z hz => by
      have := hwf z hz
      have e1 : IntKind.u64.min = 0 := by kernel_rfl
      have e2 : IntKind.u64.max = 18446744073709551615 := by kernel_rfl
      simp [Lit.wf, e1, e2] at this
      omega
    refine ⟨(zs.take len).map Int.toNat, .inr (.inr ⟨b, off, cap, by rw [hlen], fun e => by rw [e] at hlen; simp at hlen; omega, by omega, hm, fun i x hx => ?_⟩), fun x hx => ?_, by omega⟩
    · rw [List.getElem?_map, Option.map_eq_some_iff] at hx
      obtain ⟨z, hz', rfl⟩ := hx
      have hi : i < len := by have := (List.getElem?_eq_some_iff.1 hz').1; rw [List.length_take_of_le hzl] at this; exact this
      rw [List.getElem?_take_of_lt hi] at hz'
      have hc := hcell i (by omega)
      rw [List.getD_eq_getElem?_getD, hz', Option.getD_some] at hc
      have hz0 := (hb z (List.mem_of_getElem? hz')).1
      have : (⟨b, off, none⟩ : Addr).add i = ⟨b, off + i, none⟩ := by
        by_cases e : i = 0
        · subst e; simp [Addr.add]
        · simp [Addr.add, e]
      rw [this] at hc
      rw [hc]
      show some (Value.int IntKind.u64 z) = some (Value.int .u64 ((z.toNat : Nat) : Int))
      rw [Int.toNat_of_nonneg hz0]
    · rw [List.mem_map] at hx
      obtain ⟨z, hz', rfl⟩ := hx
      have := hb z (List.mem_of_mem_take hz')
      omega

end Go.Proofs.YtfcdmkfbkkogbaaDoor.Bits
