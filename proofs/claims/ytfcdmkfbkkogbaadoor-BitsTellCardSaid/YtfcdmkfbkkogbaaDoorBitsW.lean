/- The document's Has; whether rows of words are alike. -/
import Derived.Test.YtfcdmkfbkkogbaaDoorBitsU
namespace Go.Proofs.YtfcdmkfbkkogbaaDoor.Bits
open Go Go.RowKit

theorem Words.len22 {w : World} {v : Value} {l : List Nat} (h : Words w v l) (ty : TypeId) (w' : World) : (Builtin.len_ #[63] ty #[v]).run Tryd.prog w' = .ok (.int .i64 (l.length : Int)) w' := by
  rcases h.1 with ⟨rfl, rfl⟩ | ⟨x, cap, rfl, rfl⟩ | ⟨b, off, cap, rfl, _⟩
  · simp [Builtin.len_, run_underlying Tryd.underlying63, goInt, Result.andThen]
  · simp [Builtin.len_, run_underlying Tryd.underlying63, goInt, Result.andThen]
  · simp [Builtin.len_, run_underlying Tryd.underlying63, goInt, Result.andThen]

theorem bit_test (x i : Nat) : (((x : Int) / 2 ^ i).tmod 2 == 1) = x.testBit i := by
  rw [Nat.testBit_eq_decide_div_mod_eq]
  have e0 : (x : Int) / 2 ^ i = ((x / 2 ^ i : Nat) : Int) := by
    rw [Int.natCast_ediv, Int.natCast_pow]; rfl
  rw [e0]
  generalize x / 2 ^ i = q
  rw [Int.tmod_eq_emod_of_nonneg (Int.natCast_nonneg q)]
  have e : (q : Int) % 2 = ((q % 2 : Nat) : Int) := by omega
  rw [e]
  by_cases h : q % 2 = 1
  · rw [h]; rfl
  · rw [show q % 2 = 0 by omega]; rfl

set_option maxRecDepth 100000 in
theorem has_ref {w : World} {v : Value} {l : List Nat} (H : Words w v l) (k : Nat) (hk : k < 65536) :
    Calls Tryd.prog 45 #[v, .int .i64 (k : Int)] w fun e w' => e = .returned (.bool (mem l k)) ∧ w = w' := by
  have HL := H.len22
  have g0 : (0 : Int) ≤ (k : Int) := by omega
  have g1 : decide ((0 : Int) ≤ (k : Int)) = true := decide_eq_true g0
  have g2 : (k : Int) < 65536 := by omega
  have g3 : decide ((k : Int) < 65536) = true := decide_eq_true g2
  by_cases hi : k / 64 < l.length
  · obtain ⟨b, off, cap, rfl, hcap, hcm, hb, hc⟩ := H.at (by omega)
    obtain ⟨x, hx⟩ : ∃ x, l[k / 64]? = some x := ⟨l[k / 64], List.getElem?_eq_getElem _⟩
    have c1 : w.cell? ⟨b, off + k / 64, none⟩ = some (wordV x) := hc _ x hx
    have hm : mem l k = x.testBit (k % 64) := by
      unfold mem wd
      rw [if_pos (by omega), List.getD_eq_getElem?_getD, hx]; rfl
    have hxl := H.2.1 x (List.mem_of_getElem? hx)
    rw [hm]
    have hq := bit_test x (k % 64)
    have g4 : (k : Int) / 64 < (l.length : Int) := by omega
    have g5 : decide ((k : Int) / 64 < (l.length : Int)) = true := decide_eq_true g4
    clear H hc hx hm
    go_enter Tryd.func45, Tryd.ntmps45
    go_wp2_with fail
    go_ret
    exact ⟨rfl, rfl⟩
  · have hm : mem l k = false := by
      unfold mem wd
      rw [if_pos (by omega), getD_ge (by omega), Nat.zero_testBit]
    have g4 : ¬ (k : Int) / 64 < (l.length : Int) := by omega
    have g5 : decide ((k : Int) / 64 < (l.length : Int)) = false := decide_eq_false g4
    rw [hm]
    clear H hm
    go_enter Tryd.func45, Tryd.ntmps45
    go_wp2
    go_ret
    exact ⟨rfl, rfl⟩

theorem Words.stayLike {w w' : World} {v : Value} {l : List Nat} (H : Words w v l) (k : Like w' w) : Words w' v l := H.stay (k.below _)

set_option maxRecDepth 100000 in
theorem is_same {w : World} {v1 v2 : Value} {l : List Nat} (H1 : Words w v1 l) (H2 : Words w v2 l) :
    Calls Tryd.prog 41 #[v1, v2] w fun e w' => e = .returned (.bool true) ∧ Like w' w := by
  have HL1 := H1.len
  have HL2 := H2.len22
  have z0 : ((l.length : Int) != (l.length : Int)) = false := by simp
  have HH1 := Lib.hid H1
  have HH2 := Lib.hid H2
  clear H1 H2
  go_enter Tryd.func41, Tryd.ntmps41
  go_wp2_with fail
  go_loopw [5] (fun i wx => ∃ j : Nat, j ≤ l.length ∧ i = .int .i64 j ∧ Like wx w) (fun i _ => l.length - (intOf i).toNat)
  case atStart => exact ⟨0, Nat.zero_le _, rfl, Like.refl _⟩
  case round =>
    obtain ⟨j, hj, rfl, hk⟩ := hrel
    by_cases hlt : j < l.length
    · obtain ⟨b, off, cap, rfl, hcap, hcm, hb, hc⟩ := HH1.out.at (by omega)
      obtain ⟨b2, off2, cap2, rfl, hcap2, hcm2, hb2, hc2⟩ := HH2.out.at (by omega)
      obtain ⟨x, hx⟩ : ∃ x, l[j]? = some x := ⟨l[j], List.getElem?_eq_getElem _⟩
      have c1 : wr.cell? ⟨b, off + j, none⟩ = some (wordV x) := by rw [hk.cell]; exact hc j x hx
      have c2 : wr.cell? ⟨b2, off2 + j, none⟩ = some (wordV x) := by rw [hk.cell]; exact hc2 j x hx
      have z1 : ((x : Int) != (x : Int)) = false := by simp
      have HK := Lib.hid hk
      unfold maxLen at hcm hcm2
      clear hc hc2 hx hk HH1 HH2
      go_wp2_with fail
      go_quiet (fail)
      go_wp2
      go_roundw
      case rel => exact ⟨j + 1, by omega, by go_num, Like.trans (by exact ⟨rfl, rfl, rfl, rfl⟩) HK.out⟩
      case measure => simp [intOf]; omega
    · obtain rfl : j = l.length := by omega
      have HK := Lib.hid hk
      clear hk HH1 HH2
      go_wp2
      go_ret
      exact ⟨rfl, HK.out⟩

/-! ### Keys -/

theorem byteInts_inj {x y : Nat} (hx : x < 18446744073709551616) (hy : y < 18446744073709551616) (h : ∀ q, q < 8 → byteN x q = byteN y q) : x = y := by
  have e : ∀ z, z < 18446744073709551616 → z = byteN z 0 + 256 * byteN z 1 + 65536 * byteN z 2 + 16777216 * byteN z 3 + 4294967296 * byteN z 4 + 1099511627776 * byteN z 5 + 281474976710656 * byteN z 6 + 72057594037927936 * byteN z 7 := by
    intro z hz
    simp only [byteN, Nat.mul_zero, Nat.pow_zero, Nat.div_one, Nat.mul_one, show (2 : Nat) ^ 8 = 256 by decide, show (2 : Nat) ^ (8 * 2) = 65536 by decide, show (2 : Nat) ^ (8 * 3) = 16777216 by decide, show (2 : Nat) ^ (8 * 4) = 4294967296 by decide +kernel, show (2 : Nat) ^ (8 * 5) = 1099511627776 by decide +kernel, show (2 : Nat) ^ (8 * 6) = 281474976710656 by decide +kernel, show (2 : Nat) ^ (8 * 7) = 72057594037927936 by decide +kernel]
    omega
  rw [e x hx, e y hy, h 0 (by omega), h 1 (by omega), h 2 (by omega), h 3 (by omega), h 4 (by omega), h 5 (by omega), h 6 (by omega), h 7 (by omega)]

theorem byteInts_length (x : Nat) : (byteInts x 8).length = 8 := by simp [byteInts]
theorem u8_inj {a b : Nat} (ha : a < 256) (hb : b < 256) (h : UInt8.ofNat ((a : Int).toNat) = UInt8.ofNat ((b : Int).toNat)) : a = b := by
  have := congrArg UInt8.toNat h
  simp [UInt8.toNat_ofNat'] at this
  omega
/-- Words whose bytes are alike are alike. -/
theorem flat_inj : ∀ (a b : List Nat), (∀ x ∈ a, x < 18446744073709551616) → (∀ x ∈ b, x < 18446744073709551616) →
    ((a.flatMap fun x => byteInts x 8).map fun n => UInt8.ofNat n.toNat) = ((b.flatMap fun x => byteInts x 8).map fun n => UInt8.ofNat n.toNat) → a = b
  | [], [], _, _, _ => rfl
  | [], y :: b, _, _, h => by
    have := congrArg List.length h
    simp only [List.flatMap_cons, List.flatMap_nil, List.map_nil, List.map_append, List.length_append, List.length_map, byteInts_length, List.length_nil] at this
    omega
  | x :: a, [], _, _, h => by
    have := congrArg List.length h
    simp only [List.flatMap_cons, List.flatMap_nil, List.map_nil, List.map_append, List.length_append, List.length_map, byteInts_length, List.length_nil] at this
    omega
  | x :: a, y :: b, ha, hb, h => by
    rw [List.flatMap_cons, List.flatMap_cons, List.map_append, List.map_append] at h
    obtain ⟨h1, h2⟩ := List.append_inj h (by simp [byteInts_length])
    have hxy : x = y := byteInts_inj (ha x (by simp)) (hb y (by simp)) fun q hq => by
      have := congrArg (fun l => l[q]?) h1
      simp only [byteInts, List.getElem?_map, List.getElem?_range hq, Option.map_some, Option.some.injEq] at this
      exact u8_inj (Nat.mod_lt _ (by omega)) (Nat.mod_lt _ (by omega)) this
    rw [hxy, flat_inj a b (fun z hz => ha z (by simp [hz])) (fun z hz => hb z (by simp [hz])) h2]
theorem key_inj {l l' : List Nat} (hl : ∀ x ∈ l, x < 18446744073709551616) (hl' : ∀ x ∈ l', x < 18446744073709551616) (h : keyS l = keyS l') (i : Nat) : wd l i = wd l' i := by
  unfold keyS at h
  rw [ByteArray.mk.injEq] at h
  have h2 : l.take (tl l) = l'.take (tl l') := flat_inj _ _ (fun x hx => hl x (List.mem_of_mem_take hx)) (fun x hx => hl' x (List.mem_of_mem_take hx)) (by
    have := congrArg Array.toList h
    simpa [kInts] using this)
  rw [← wd_take (l := l), ← wd_take (l := l'), h2]

end Go.Proofs.YtfcdmkfbkkogbaaDoor.Bits
