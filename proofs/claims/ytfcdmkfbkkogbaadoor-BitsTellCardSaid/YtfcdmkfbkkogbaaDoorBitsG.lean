/- How many bits a word has: Go's OnesCount64, walked; how many numbers a set has (Count). -/
import Derived.Test.YtfcdmkfbkkogbaaDoorBitsF
import Derived.Test.YtfcdmkfbkkogbaaDoorBitsP
namespace Go.Proofs.YtfcdmkfbkkogbaaDoor.Bits
open Go Go.RowKit

theorem wrapU (n : Nat) (h : n < 18446744073709551616) : IntKind.u64.wrap (n : Int) = (n : Int) := by
  exact IntWalk.u64_in _ ⟨by omega, by omega⟩
theorem andU (a b : Nat) (ha : a < 18446744073709551616) (hb : b < 18446744073709551616) : bits .and .u64 (a : Int) (b : Int) = ((a &&& b : Nat) : Int) := u64_and_nat a b ha hb

theorem m1 : mk 85 8 = 6148914691236517205 := by decide +kernel
theorem m2 : mk 51 8 = 3689348814741910323 := by decide +kernel
theorem m3 : mk 15 8 = 1085102592571150095 := by decide +kernel
theorem c1 : ((6148914691236517205 : Nat) : Int) = 6148914691236517205 := by simp
theorem c2 : ((3689348814741910323 : Nat) : Int) = 3689348814741910323 := by simp
theorem c3 : ((1085102592571150095 : Nat) : Int) = 1085102592571150095 := by simp
theorem bb1 (x : Nat) : s1 8 x < 18446744073709551616 := by
  have a := Nat.and_le_right (n := x / 2) (m := mk 85 8)
  have b := Nat.and_le_right (n := x) (m := mk 85 8)
  unfold s1
  rw [m1] at a b ⊢
  omega
theorem bb2 (x : Nat) : s2 8 x ≤ 7378697629483820646 := by
  have a := Nat.and_le_right (n := x / 4) (m := mk 51 8)
  have b := Nat.and_le_right (n := x) (m := mk 51 8)
  unfold s2
  rw [m2] at a b ⊢
  omega
theorem e1 (x : Nat) (hx : x < 18446744073709551616) : IntKind.u64.wrap (bits .and .u64 ((x : Int) / 2) 6148914691236517205 + bits .and .u64 (x : Int) 6148914691236517205) = (s1 8 x : Int) := by
  have h1 := andU (x / 2) 6148914691236517205 (by omega) (by omega)
  have h2 := andU x 6148914691236517205 hx (by omega)
  rw [c1, Int.natCast_ediv] at h1
  rw [c1] at h2
  have h1' : bits .and .u64 ((x : Int) / 2) 6148914691236517205 = ((x / 2 &&& 6148914691236517205 : Nat) : Int) := h1
  rw [h1', h2, ← Int.natCast_add]
  have := wrapU _ (bb1 x)
  unfold s1 at this ⊢
  rw [m1] at this ⊢
  exact this
theorem e2 (x : Nat) (hx : x < 18446744073709551616) : IntKind.u64.wrap (bits .and .u64 ((x : Int) / 4) 3689348814741910323 + bits .and .u64 (x : Int) 3689348814741910323) = (s2 8 x : Int) := by
  have h1 := andU (x / 4) 3689348814741910323 (by omega) (by omega)
  have h2 := andU x 3689348814741910323 hx (by omega)
  rw [c2, Int.natCast_ediv] at h1
  rw [c2] at h2
  have h1' : bits .and .u64 ((x : Int) / 4) 3689348814741910323 = ((x / 4 &&& 3689348814741910323 : Nat) : Int) := h1
  rw [h1', h2, ← Int.natCast_add]
  have := wrapU _ (show s2 8 x < 18446744073709551616 from Nat.lt_of_le_of_lt (bb2 x) (by omega))
  unfold s2 at this ⊢
  rw [m2] at this ⊢
  exact this
theorem e3 (x : Nat) (hx : x ≤ 7378697629483820646) : bits .and .u64 (IntKind.u64.wrap ((x : Int) / 16 + x)) 1085102592571150095 = (s3 8 x : Int) := by
  have h0 := wrapU (x / 16 + x) (by omega)
  rw [Int.natCast_add, Int.natCast_ediv] at h0
  have h0' : IntKind.u64.wrap ((x : Int) / 16 + x) = (x : Int) / 16 + x := h0
  have h1 := andU (x / 16 + x) 1085102592571150095 (by omega) (by omega)
  rw [c3, Int.natCast_add, Int.natCast_ediv] at h1
  have h1' : bits .and .u64 ((x : Int) / 16 + x) 1085102592571150095 = (((x / 16 + x) &&& 1085102592571150095 : Nat) : Int) := h1
  rw [h0', h1']
  unfold s3
  rw [m3]
theorem e4 (x k : Nat) (hx : x + x / k < 18446744073709551616) : IntKind.u64.wrap ((x : Int) + (x : Int) / (k : Int)) = ((x + x / k : Nat) : Int) := by
  rw [← wrapU _ hx, Int.natCast_add, Int.natCast_ediv]
theorem ones_sum (x : Nat) (hx : x < 18446744073709551616) (z : Nat) (hz : z = s3 8 (s2 8 (s1 8 x))) : z ≤ 600000000000000000 ∧ ((z + z / 256 + (z + z / 256) / 65536) + (z + z / 256 + (z + z / 256) / 65536) / 4294967296) % 128 = pcN 64 x := by
  obtain ⟨p0, p1, p2, p3, p4, p5, p6, p7, h0, h1, h2, h3, h4, h5, h6, h7, he, hpc⟩ := eight x hx
  rw [← hz] at he
  rw [hpc]
  clear hz hpc hx
  have z4 : z / 256 = p1 + 256 * (p2 + 256 * (p3 + 256 * (p4 + 256 * (p5 + 256 * (p6 + 256 * p7))))) := by omega
  have y4 : z + z / 256 = (p0 + p1) + 256 * ((p1 + p2) + 256 * ((p2 + p3) + 256 * ((p3 + p4) + 256 * ((p4 + p5) + 256 * ((p5 + p6) + 256 * ((p6 + p7) + 256 * p7)))))) := by omega
  obtain ⟨q4, hq4⟩ : ∃ q, q = z + z / 256 := ⟨_, rfl⟩
  rw [← hq4] at y4 ⊢
  have z5 : q4 / 65536 = (p2 + p3) + 256 * ((p3 + p4) + 256 * ((p4 + p5) + 256 * ((p5 + p6) + 256 * ((p6 + p7) + 256 * p7)))) := by clear hq4 z4 he; omega
  have y5 : q4 + q4 / 65536 = (p0 + p1 + p2 + p3) + 256 * ((p1 + p2 + p3 + p4) + 256 * ((p2 + p3 + p4 + p5) + 256 * ((p3 + p4 + p5 + p6) + 256 * ((p4 + p5 + p6 + p7) + 256 * ((p5 + p6 + p7) + 256 * ((p6 + p7) + 256 * p7)))))) := by clear hq4 z4 he; omega
  obtain ⟨q5, hq5⟩ : ∃ q, q = q4 + q4 / 65536 := ⟨_, rfl⟩
  rw [← hq5] at y5 ⊢
  have z6 : q5 / 4294967296 = (p4 + p5 + p6 + p7) + 256 * ((p5 + p6 + p7) + 256 * ((p6 + p7) + 256 * p7)) := by clear hq4 hq5 z4 z5 y4 he; omega
  refine ⟨by clear z6 hq4 hq5 z4 z5 y4 y5; omega, ?_⟩
  clear hq4 hq5 z4 z5 y4 he
  omega

theorem ones_steps (x : Nat) (hx : x < 18446744073709551616) : ∃ y1 y2 y3 y4 y5 y6 : Nat,
    IntKind.u64.wrap (bits .and .u64 ((x : Int) / 2) 6148914691236517205 + bits .and .u64 (x : Int) 6148914691236517205) = (y1 : Int) ∧
    IntKind.u64.wrap (bits .and .u64 ((y1 : Int) / 4) 3689348814741910323 + bits .and .u64 (y1 : Int) 3689348814741910323) = (y2 : Int) ∧
    bits .and .u64 (IntKind.u64.wrap ((y2 : Int) / 16 + y2)) 1085102592571150095 = (y3 : Int) ∧
    IntKind.u64.wrap ((y3 : Int) + (y3 : Int) / 256) = (y4 : Int) ∧
    IntKind.u64.wrap ((y4 : Int) + (y4 : Int) / 65536) = (y5 : Int) ∧
    IntKind.u64.wrap ((y5 : Int) + (y5 : Int) / 4294967296) = (y6 : Int) ∧
    y6 % 128 = pcN 64 x ∧ y6 < 1000000000000000000 := by
  obtain ⟨z, hz⟩ : ∃ z, z = s3 8 (s2 8 (s1 8 x)) := ⟨_, rfl⟩
  obtain ⟨hz1, hz2⟩ := ones_sum x hx z hz
  refine ⟨s1 8 x, s2 8 (s1 8 x), z, z + z / 256, z + z / 256 + (z + z / 256) / 65536, _, e1 x hx, e2 _ (bb1 x), by rw [hz]; exact e3 _ (bb2 _), e4 z 256 (by omega), e4 _ 65536 (by omega), e4 _ 4294967296 (by omega), hz2, by omega⟩

theorem ones_any (x : Nat) (hx : x < 18446744073709551616) (w : World) : Calls Tryd.prog 70 #[wordV x] w fun e w' => e = .returned (.int .i64 (pcN 64 x : Int)) ∧ w = w' := by
  obtain ⟨y1, y2, y3, y4, y5, y6, e1, e2, e3, e4, e5, e6, hr, hb⟩ := ones_steps x hx
  have e7 : bits .and .i64 (y6 : Int) 127 = (pcN 64 x : Int) := by
    rw [i64_and127]; omega
  have hb2 : (y6 : Int) < 1000000000000000000 := by omega
  clear hr hb
  go_enter Tryd.func70, Tryd.ntmps70
  go_wp2
  go_ret
  exact ⟨rfl, rfl⟩

end Go.Proofs.YtfcdmkfbkkogbaaDoor.Bits
