/- TrailingZeros64; the set that a list makes; keys. -/
import Derived.Test.YtfcdmkfbkkogbaaDoorBitsO
import Derived.Test.YtfcdmkfbkkogbaaDoorBitsQ
namespace Go.Proofs.YtfcdmkfbkkogbaaDoor.Bits
open Go Go.RowKit

/-- The library's table stands. -/
def Tab (w : World) : Prop := ∀ i x, tabNs[i]? = some x → w.cell? ⟨2, i, none⟩ = some (.int .u8 x)
theorem Tab.stay {w w' : World} (h : Tab w) (hb : Below w.heap.size w w') : Tab w' := fun i x hx =>
  (hb.cell (p := ⟨2, i, none⟩) (lt_of_cell (h i x hx))).trans (h i x hx)
theorem Tab.first {w : World} (h : Tab w) : w.cell? ⟨2, 0, none⟩ = some (.int .u8 0) := h 0 0 rfl

theorem tz_key (x a : Nat) (hx : x < 18446744073709551616) (hx0 : x ≠ 0) (hlow : x &&& (18446744073709551616 - x) = a) :
    IntKind.u64.wrap (bits BinOp.and IntKind.u64 (x : Int) (IntKind.u64.wrap (-(x : Int))) * 285870213051353865) / 288230376151711744 = ((a * 285870213051353865 % 18446744073709551616 / 288230376151711744 : Nat) : Int) := by
  have e1 : IntKind.u64.wrap (-(x : Int)) = ((18446744073709551616 - x : Nat) : Int) := by rw [IntKind.wrap_u64]; omega
  rw [e1, u64_and_nat x _ hx (by omega), hlow, IntKind.wrap_u64]
  omega
theorem tab_at : ∀ k : Nat, k < 64 → tabNs[2 ^ k * 285870213051353865 % 18446744073709551616 / 288230376151711744]? = some (k : Int) := by decide +kernel

set_option maxRecDepth 100000 in
theorem tz_core (x k idx : Nat) (w : World) (hx0 : ((x : Int) == 0) = false)
    (key : IntKind.u64.wrap (bits BinOp.and IntKind.u64 (x : Int) (IntKind.u64.wrap (-(x : Int))) * 285870213051353865) / 288230376151711744 = (idx : Int))
    (hi : idx < 64) (hk : k < 64) (hcell : w.cell? ⟨2, idx, none⟩ = some (.int .u8 k)) :
    Calls Tryd.prog 68 #[wordV x] w fun e w' => e = .returned (.int .i64 (k : Int)) ∧ w = w' := by
  go_enter Tryd.func68, Tryd.ntmps68
  go_wp2_with (simp only [key])
  go_ret
  exact ⟨rfl, rfl⟩

theorem tz_any {x : Nat} (hx : x < 18446744073709551616) (hx0 : x ≠ 0) {w : World} (T : Tab w) :
    Calls Tryd.prog 68 #[wordV x] w fun e w' => e = .returned (.int .i64 (Lib.ctz 64 x : Int)) ∧ w = w' := by
  obtain ⟨hlow, hk⟩ := Lib.lowest_bit 64 x hx0 hx
  have htab := tab_at _ hk
  exact tz_core x _ _ w (by simp; omega) (tz_key x _ hx hx0 hlow) (List.getElem?_eq_some_iff.1 htab).1 hk (T _ _ htab)

theorem ofTo_bit (ns : List Int) (long : Nat) (hl : ∀ j k : Nat, ns[j]? = some (k : Int) → k < 65536 → k / 64 < long) : ∀ j, ∀ i, i < long → ∀ b, b < 64 →
    ((((ofTo ns long j).getD i 0).testBit b = true) ↔ (64 * i + b < 65536 ∧ ((64 * i + b : Nat) : Int) ∈ ns.take j))
  | 0, i, hi, b, hb => by simp [ofTo, hi]
  | j + 1, i, hi, b, hb => by
    have ih := ofTo_bit ns long hl j i hi b hb
    rw [List.take_add_one, List.mem_append]
    cases hn : ns[j]? with
    | none =>
      rw [ofTo, hn]
      simp only [Option.toList_none, List.not_mem_nil, or_false]
      exact ih
    | some n =>
      by_cases h : 0 ≤ n ∧ n < 65536
      · obtain ⟨k, rfl⟩ := Int.eq_ofNat_of_zero_le h.1
        have hk : k < 65536 := by omega
        have hkl := hl j k hn hk
        rw [ofTo_yes hn hk, List.getD_eq_getElem?_getD, List.getElem?_set]
        by_cases e : k / 64 = i
        · rw [if_pos e, if_pos (by rw [ofTo_length]; exact hkl), Option.getD_some, Nat.testBit_or, e, Bool.or_eq_true, ih, Nat.testBit_two_pow]
          simp only [Option.toList_some, List.mem_singleton, decide_eq_true_eq]
          constructor
          · rintro (⟨h1, h2⟩ | h1)
            · exact ⟨h1, .inl h2⟩
            · exact ⟨by omega, .inr (by omega)⟩
          · rintro ⟨h1, h2 | h2⟩
            · exact .inl ⟨h1, h2⟩
            · exact .inr (by omega)
        · rw [if_neg e, ← List.getD_eq_getElem?_getD, ih]
          simp only [Option.toList_some, List.mem_singleton]
          constructor
          · rintro ⟨h1, h2⟩
            exact ⟨h1, .inl h2⟩
          · rintro ⟨h1, h2 | h2⟩
            · exact ⟨h1, h2⟩
            · omega
      · rw [ofTo_no hn h, ih]
        simp only [Option.toList_some, List.mem_singleton]
        constructor
        · rintro ⟨h1, h2⟩
          exact ⟨h1, .inl h2⟩
        · rintro ⟨h1, h2 | h2⟩
          · exact ⟨h1, h2⟩
          · omega

theorem ofL_lt (ns : List Int) : ∀ x ∈ ofL ns, x < 18446744073709551616 := ofTo_lt _ _ _
theorem mem_of (ns : List Int) (n : Nat) : mem (ofL ns) n = true ↔ n < 65536 ∧ (n : Int) ∈ ns := by
  have hlen : (ofL ns).length = lgTo ns ns.length := ofTo_length _ _ _
  have hle := lgTo_le ns ns.length
  unfold mem wd
  by_cases hi : n / 64 < lgTo ns ns.length
  · rw [if_pos (by omega)]
    have := ofTo_bit ns _ (fun j k h hk => lg_in h hk) ns.length (n / 64) hi (n % 64) (by omega)
    rw [show 64 * (n / 64) + n % 64 = n by omega, List.take_length] at this
    exact this
  · have : (if n / 64 < 1024 then (ofL ns).getD (n / 64) 0 else 0) = 0 := by
      split
      · exact getD_ge (by omega)
      · rfl
    rw [this, Nat.zero_testBit]
    constructor
    · intro h; cases h
    · rintro ⟨h1, h2⟩
      obtain ⟨j, hj⟩ := List.getElem?_of_mem h2
      exact absurd (lg_in hj h1) hi

theorem mem_lt {l : List Nat} {n : Nat} (h : mem l n = true) : n < 65536 := by
  apply Nat.lt_of_not_le
  intro hle
  have := (tl_le l).2
  rw [mem_high (by omega)] at h
  cases h
theorem wd_ext {l l' : List Nat} (hl : ∀ x ∈ l, x < 18446744073709551616) (hl' : ∀ x ∈ l', x < 18446744073709551616) (h : ∀ n, mem l n = mem l' n) (i : Nat) : wd l i = wd l' i := by
  apply Nat.eq_of_testBit_eq
  intro b
  by_cases hb : b < 64
  · rw [← mem_word l i b hb, ← mem_word l' i b hb, h]
  · rw [high_testBit (wd_bound hl i) hb, high_testBit (wd_bound hl' i) hb]
theorem mem_congr {l l' : List Nat} (h : ∀ i, wd l i = wd l' i) (n : Nat) : mem l n = mem l' n := by
  unfold mem
  rw [h]
theorem mem_all {l : List Nat} {n : Nat} : n ∈ allOf l ↔ mem l n = true := by
  unfold allOf
  rw [mem_filt]
  exact ⟨fun h => h.2.2, fun h => ⟨Nat.zero_le _, by have := mem_lt h; omega, h⟩⟩

/-- A set is what its numbers make. -/
theorem wd_of_all {l : List Nat} (hl : ∀ x ∈ l, x < 18446744073709551616) (i : Nat) : wd (ofL ((allOf l).map Int.ofNat)) i = wd l i := by
  refine wd_ext (ofL_lt _) hl (fun n => ?_) i
  rw [Bool.eq_iff_iff, mem_of, List.mem_map]
  constructor
  · rintro ⟨_, m, hm, e⟩
    have : m = n := Int.ofNat.inj e
    subst this
    exact mem_all.1 hm
  · intro h
    exact ⟨mem_lt h, n, mem_all.2 h, rfl⟩

theorem take_congr {l l' : List Nat} (h : ∀ i, wd l i = wd l' i) : l.take (tl l) = l'.take (tl l') := by
  have ht := tl_eq h
  have h1 := (tl_le l).1
  have h2 := (tl_le l').1
  apply List.ext_getElem?
  intro i
  rw [← ht]
  by_cases hi : i < tl l
  · have := h i
    rw [wd_lt hi, wd_lt (by omega), List.getD_eq_getElem?_getD, List.getD_eq_getElem?_getD, List.getElem?_eq_getElem (by omega), List.getElem?_eq_getElem (by omega)] at this
    simp only [Option.getD_some] at this
    rw [List.getElem?_take_of_lt hi, List.getElem?_take_of_lt hi, List.getElem?_eq_getElem (by omega), List.getElem?_eq_getElem (by omega), this]
  · rw [List.getElem?_eq_none (by rw [List.length_take]; omega), List.getElem?_eq_none (by rw [List.length_take]; omega)]
theorem key_congr {l l' : List Nat} (h : ∀ i, wd l i = wd l' i) : keyS l = keyS l' := by
  unfold keyS kInts
  rw [take_congr h]
theorem flat_length : ∀ l : List Nat, (l.flatMap fun x => byteInts x 8).length = 8 * l.length
  | [] => rfl
  | x :: l => by
    rw [List.flatMap_cons, List.length_append, flat_length l, List.length_cons]
    have : (byteInts x 8).length = 8 := by simp [byteInts]
    omega
theorem key_size (l : List Nat) : (keyS l).size = 8 * tl l := by
  have h : (kInts l (tl l)).length = 8 * tl l := by
    unfold kInts
    rw [flat_length, List.length_take]
    have := (tl_le l).1
    omega
  unfold keyS
  simp only [ByteArray.size, List.size_toArray, List.length_map]
  exact h
/-- How many words: one past that of the greatest number. -/
theorem tl_last {l : List Nat} (hl : ∀ x ∈ l, x < 18446744073709551616) {m : Nat} (hm : (allOf l).getLast? = some m) : tl l = m / 64 + 1 := by
  have hmem := mem_all.1 (List.mem_of_getLast? hm)
  have h1 : m / 64 < tl l := by
    apply Nat.lt_of_not_le
    intro h
    rw [mem_high (by omega)] at hmem
    cases hmem
  have h2 := wd_last (l := l) (by omega)
  obtain ⟨b, hb⟩ := Nat.exists_testBit_of_ne_zero h2
  have hb64 : b < 64 := by
    apply Classical.byContradiction
    intro h
    rw [high_testBit (wd_bound hl _) h] at hb
    cases hb
  have h3 : 64 * (tl l - 1) + b ∈ allOf l := mem_all.2 (by rw [mem_word _ _ _ hb64]; exact hb)
  have h4 : 64 * (tl l - 1) + b ≤ m := by
    have hp : (allOf l).Pairwise (· < ·) := filt_rise (mem l) 65536 0
    obtain ⟨j, hj⟩ := List.getElem?_of_mem h3
    rw [List.getLast?_eq_getElem?] at hm
    have hjl := (List.getElem?_eq_some_iff.1 hj).1
    by_cases e : j = (allOf l).length - 1
    · rw [← e, hj] at hm
      have := Option.some.inj hm
      omega
    · have hml := (List.getElem?_eq_some_iff.1 hm).1
      have := List.pairwise_iff_getElem.1 hp j ((allOf l).length - 1) hjl hml (by omega)
      have e1 := (List.getElem?_eq_some_iff.1 hj).2
      have e2 := (List.getElem?_eq_some_iff.1 hm).2
      rw [e1, e2] at this
      omega
  omega
theorem tl_none {l : List Nat} (hl : ∀ x ∈ l, x < 18446744073709551616) (h : allOf l = []) : tl l = 0 := by
  apply Classical.byContradiction
  intro h0
  have h2 := wd_last (l := l) (by omega)
  obtain ⟨b, hb⟩ := Nat.exists_testBit_of_ne_zero h2
  have hb64 : b < 64 := by
    apply Classical.byContradiction
    intro h
    rw [high_testBit (wd_bound hl _) h] at hb
    cases hb
  have h3 : 64 * (tl l - 1) + b ∈ allOf l := mem_all.2 (by rw [mem_word _ _ _ hb64]; exact hb)
  rw [h] at h3
  cases h3

end Go.Proofs.YtfcdmkfbkkogbaaDoor.Bits
