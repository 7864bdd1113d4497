/- Package stack: whatever is put; rows of what is put, as parameters. -/
import Derived.Test.YtcpmgijakhhlkaaStackL
import Derived.ProofKit
import Derived.OpenShut
import Derived.ShutString
import Derived.ChangeMaps5
import Derived.Lib.SmallJoins
import Derived.Deep.Slices
namespace Go.Proofs.Ytcpmgijakhhlkaa.Stack
open Go Go.RowKit

/-- What is left of Put, whatever is put. -/
def PutAll (w : World) (B p : Nat) (N : List Nd) (e : Ending) (w' : World) : Prop :=
  ∃ (n : Nat) (fresh link : Bool) (er : Int) (N' : List Nd), e = .returned (res4 (n : Int) fresh link er) ∧ Stk w' B p N' (keys N') ∧ Good N' ∧ Below B w w' ∧ N'.length = N.length + (if fresh then 1 else 0) ∧ lk N' = lk N + (if link then 1 else 0) ∧ (er = 0 ∨ (fresh = false ∧ link = false))
theorem put_all {w : World} {B p : Nat} {N : List Nd} (h : Stk w B p N (keys N)) (hg : Good N) (hl : lk N ≤ 98) (hlen : N.length ≤ 198) {r a up : Int} (hr : in64 r) (ha : in64 a) :
    Calls Try.prog 8 #[ptr p, .int .i64 r, .int .i64 a, .int .i64 up] w fun e w' => PutAll w B p N e w' := by
  by_cases hbad : r < 0 ∨ a < 0 ∨ ¬ (0 ≤ up ∧ up < (N.length : Int))
  · refine (put_bad h hbad).mono ?_
    rintro e w' ⟨rfl, rfl⟩
    exact ⟨0, false, false, 2, N, rfl, h, hg, Below.refl _ _, rfl, rfl, .inr ⟨rfl, rfl⟩⟩
  · simp only [not_or, Int.not_lt, Classical.not_not] at hbad
    obtain ⟨hr0, ha0, hu0, hu1⟩ := hbad
    obtain ⟨u, rfl⟩ : ∃ u : Nat, up = (u : Int) := ⟨up.toNat, by omega⟩
    have hu : u < N.length := by omega
    cases hi : idx (keys N) (r, a) with
    | some n =>
      refine (put_old h hl hr ha hr0 ha0 hu hi).mono ?_
      rintro e w' ⟨t, x, hx, _, rfl, hS, hB⟩
      have hn := idx_lt hi
      cases t
      · exact ⟨n, false, true, 0, addUp N n u, rfl, by rw [addUp_keys]; exact hS, hg.addUp n hu, hB, by rw [addUp_len]; rfl, addUp_lk u hn, .inl rfl⟩
      · exact ⟨n, false, false, 0, N, rfl, hS, hg, hB, rfl, rfl, .inl rfl⟩
    | none =>
      refine (put_new h hl hlen hr ha hr0 ha0 hu hi).mono ?_
      rintro e w' ⟨t, x, hx, _, rfl, hS, hB⟩
      have hg2 := hg.snoc ⟨hr0, hr.2⟩ ⟨ha0, ha.2⟩ hi
      cases t
      · exact ⟨N.length, true, true, 0, addUp (N ++ [⟨r, a, []⟩]) N.length u, rfl, by rw [addUp_keys]; exact hS, hg2.addUp _ (by simp; omega), hB, by rw [addUp_len]; simp, by rw [addUp_lk u (by simp), lk_snoc]; rfl, .inl rfl⟩
      · exact ⟨N.length, true, false, 0, N ++ [⟨r, a, []⟩], rfl, hS, hg2, hB, by simp, by rw [lk_snoc]; rfl, .inl rfl⟩

/-- A slice of what is to be put: three numbers each. -/
def PutsAt (w : World) (ad : Option Addr) (len : Nat) : Prop := 0 < len → ∃ b off, ad = some ⟨b, off, none⟩ ∧ b < w.heap.size ∧ ∀ i, i < len → ∃ r a u : Int, in64 r ∧ in64 a ∧ in64 u ∧ w.cell? ⟨b, off + i * 3, none⟩ = some (.int .i64 r) ∧ w.cell? ⟨b, off + i * 3 + 1, none⟩ = some (.int .i64 a) ∧ w.cell? ⟨b, off + i * 3 + 2, none⟩ = some (.int .i64 u)
abbrev putV (r a u : Int) : Value := .agg #[.int .i64 r, .int .i64 a, .int .i64 u]
def putD {H : Type} (r a u : Int) : DataW H := .agg [.lit (.int .i64 r), .lit (.int .i64 a), .lit (.int .i64 u)]
theorem cellsPut : Try.prog.cellsOf 29 = 3 := by kernel_rfl
section
open Go.ChangeShapes Go.WideShapes Go.Joins
variable {H : Type} {enc : TypeId × Value → H} {w : World} {base : Nat} {sp : Nat → Bool} {held : Bool}
theorem in_of_wf {n : Int} (h : (Lit.int .i64 n).wf = true) : in64 n := by
  have e1 : IntKind.i64.min = -9223372036854775808 := by kernel_rfl
  have e2 : IntKind.i64.max = 9223372036854775807 := by kernel_rfl
  simp [Lit.wf, e1, e2] at h
  omega
set_option maxRecDepth 100000 in
theorem open_put {r : Reach} {b0 : Nat} {v : Value} {d : DataW H} {ps : List MemPlace} (hval : Value.okWide Try.prog w r b0 29 v) (hd : DataW.Trod enc Try.prog w base sp held 29 v d ps) :
    ∃ (a c u : Int), v = putV a c u ∧ d = putD a c u ∧ ps = [] ∧ (Lit.int .i64 a).wf = true ∧ (Lit.int .i64 c).wf = true ∧ (Lit.int .i64 u).wf = true := by
  obtain ⟨c0, c1, c2, y0, y1, y2, m, rfl, rfl, rfl, hy0, hy1, hy2⟩ := open_agg3 Try.underlying29 (by kernel_rfl) cellsPut hval hd
  obtain ⟨x, e0, rfl, wx⟩ := DataW.trod_int Try.underlying3 hy0
  obtain ⟨y, e1, rfl, wy⟩ := DataW.trod_int Try.underlying3 hy1
  obtain ⟨z, e2, rfl, wz⟩ := DataW.trod_int Try.underlying3 hy2
  simp at e0 e1 e2
  subst e0 e1 e2
  exact ⟨x, y, z, rfl, rfl, rfl, wx, wy, wz⟩
set_option maxRecDepth 100000 in
theorem shut_put {a c u : Int} (ha : (Lit.int .i64 a).wf = true) (hc : (Lit.int .i64 c).wf = true) (hu : (Lit.int .i64 u).wf = true) : DataW.Trod enc Try.prog w base sp held 29 (putV a c u) (putD a c u) [] := by
  have := shut_agg3 (enc := enc) (w := w) (base := base) (spare := sp) (held := held) (y0 := (.lit (.int .i64 a), [])) (y1 := (.lit (.int .i64 c), [])) (y2 := (.lit (.int .i64 u), [])) (v0 := .int .i64 a) (v1 := .int .i64 c) (v2 := .int .i64 u) Try.underlying29 (by kernel_rfl) cellsPut ⟨1, by simp [DataW.trod, Try.underlying3, ha]⟩ ⟨1, by simp [DataW.trod, Try.underlying3, hc]⟩ ⟨1, by simp [DataW.trod, Try.underlying3, hu]⟩
  unfold putD
  simpa using this
set_option maxRecDepth 100000 in
theorem open_puts {fuel : Nat} {ad : Option Addr} {len cap : Nat} {x : DataW H × List MemPlace} (h : DataW.trod enc Try.prog w base sp held fuel 22 [.slice ad len cap] = some x) : PutsAt w ad len := by
  intro hl
  rcases Go.Deep.open_slice Try.underlying22 h with ⟨h0, _⟩ | ⟨a, len', cap', m, n, D, Pl, h0, hb, hlc, hm, hmm, _, hx⟩
  · simp at h0
    omega
  · simp at h0
    obtain ⟨rfl, rfl, rfl⟩ := h0
    have hlm : len ≤ m := by rw [hmm]; split <;> omega
    have each : ∀ i, i < len → ∃ r a' u : Int, in64 r ∧ in64 a' ∧ in64 u ∧ w.cell? (a.add (i * 3)) = some (.int .i64 r) ∧ w.cell? (a.add (i * 3 + 1)) = some (.int .i64 a') ∧ w.cell? (a.add (i * 3 + 2)) = some (.int .i64 u) := by
      intro i hi
      obtain ⟨cs', h1, h2⟩ := hx i (by omega)
      rw [cellsPut] at h1
      obtain ⟨_, hlen, hcell⟩ := World.cells?_some h1
      obtain ⟨xs, k, hk, hxy, _, hxl, hf⟩ := DataW.trod_struct Try.underlying29 h2
      match xs, hxl, cs', hlen with
      | [y0, y1, y2], _, [v0, v1, v2], _ =>
        have g0 := hf 0 _ rfl
        have g1 := hf 1 _ rfl
        have g2 := hf 2 _ rfl
        simp [csI] at g0 g1 g2
        obtain ⟨x, e0, _, wx⟩ := DataW.trod_int Try.underlying3 g0
        obtain ⟨y, e1, _, wy⟩ := DataW.trod_int Try.underlying3 g1
        obtain ⟨z, e2, _, wz⟩ := DataW.trod_int Try.underlying3 g2
        simp at e0 e1 e2
        subst e0 e1 e2
        have c0 := hcell 0 (by omega)
        have c1 := hcell 1 (by omega)
        have c2 := hcell 2 (by omega)
        rw [Go.Deep.add_add] at c0 c1 c2
        exact ⟨x, y, z, in_of_wf wx, in_of_wf wy, in_of_wf wz, by simpa using c0, by simpa using c1, by simpa using c2⟩
    obtain ⟨_, _, _, _, _, _, c0, _⟩ := each 0 hl
    obtain ⟨b, off, spot⟩ := a
    obtain rfl : spot = none := by simpa [Addr.add] using World.cell?_spot c0
    refine ⟨b, off, rfl, ?_, fun i hi => ?_⟩
    · have := World.block_lt_of_cell? _ _ c0
      simpa [Addr.add] using this
    · obtain ⟨r, a', u, h1, h2, h3, h4, h5, h6⟩ := each i hi
      refine ⟨r, a', u, h1, h2, h3, ?_, ?_, ?_⟩
      · rw [Addr.add_lit] at h4
        exact h4
      · rw [Addr.add_lit] at h5
        rw [Nat.add_assoc]
        exact h5
      · rw [Addr.add_lit] at h6
        rw [Nat.add_assoc]
        exact h6
end

end Go.Proofs.Ytcpmgijakhhlkaa.Stack
