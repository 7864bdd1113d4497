/- Contracts of the package utf: Caret. -/
import Derived.Test.YtfcdmkfbkkogbaaDoorUtfF
namespace Go.Proofs.YtfcdmkfbkkogbaaDoor.Utf
open Go Go.RowKit

/-- None of the last j places ahead of p begins what goes beyond it. -/
def lookTo (t : Txt) (p : Nat) : Nat → Bool
  | 0 => true
  | j + 1 => lookTo t p j && (decide (p < j + 1) || decide (p - (j + 1) + t.w (p - (j + 1)) ≤ p))
def caretB (t : Txt) (a : Int) : Bool := decide (0 ≤ a) && decide (a ≤ t.n) && lookTo t a.toNat 3
theorem lookTo_iff (t : Txt) (p : Nat) : ∀ j, lookTo t p j = true ↔ ∀ q, q < p → p ≤ q + j → q + t.w q ≤ p
  | 0 => by simp [lookTo]; intro q h1 h2; omega
  | j + 1 => by
    rw [lookTo, Bool.and_eq_true, lookTo_iff t p j, Bool.or_eq_true, decide_eq_true_eq, decide_eq_true_eq]
    constructor
    · rintro ⟨h1, h2⟩ q h3 h4
      by_cases e : p ≤ q + j
      · exact h1 q h3 e
      · obtain rfl : q = p - (j + 1) := by omega
        rcases h2 with h2 | h2
        · omega
        · exact h2
    · intro h
      refine ⟨fun q h1 h2 => h q h1 (by omega), ?_⟩
      by_cases e : p < j + 1
      · exact .inl e
      · exact .inr (h _ (by omega) (by omega))
theorem look_start (t : Txt) (p : Nat) : lookTo t p 3 = true ↔ t.start p := by
  rw [lookTo_iff, t.start_iff]
  constructor
  · intro h q h1 h2; exact h q h1 (by omega)
  · intro h q h1 h2; exact h q h1 (by omega)
theorem caret_iff (t : Txt) (k : Nat) : caretB t (k : Int) = true ↔ k ≤ t.n ∧ t.start k := by
  unfold caretB
  rw [Bool.and_eq_true, Bool.and_eq_true, decide_eq_true_eq, decide_eq_true_eq, Int.toNat_natCast, look_start]
  constructor
  · rintro ⟨⟨_, h⟩, h2⟩; exact ⟨by omega, h2⟩
  · rintro ⟨h, h2⟩; exact ⟨⟨by omega, by omega⟩, h2⟩
theorem caret_no (t : Txt) {a : Int} (h : a < 0 ∨ (t.n : Int) < a) : caretB t a = false := by
  unfold caretB
  rcases h with h | h
  · rw [decide_eq_false (by omega : ¬ 0 ≤ a)]; rfl
  · rw [decide_eq_false (by omega : ¬ a ≤ t.n)]; simp

theorem item_at (x0 x1 x2 x3 : Value) (w : World) : (Instr.field 27 (.agg #[x0, x1, x2, x3]) 0).run Tryd.prog w = .ok x0 w := by kernel_rfl
theorem item_size (x0 x1 x2 x3 : Value) (w : World) : (Instr.field 27 (.agg #[x0, x1, x2, x3]) 1).run Tryd.prog w = .ok x1 w := by kernel_rfl
theorem item_rune (x0 x1 x2 x3 : Value) (w : World) : (Instr.field 27 (.agg #[x0, x1, x2, x3]) 2).run Tryd.prog w = .ok x2 w := by kernel_rfl
theorem item_ok (x0 x1 x2 x3 : Value) (w : World) : (Instr.field 27 (.agg #[x0, x1, x2, x3]) 3).run Tryd.prog w = .ok x3 w := by kernel_rfl

set_option maxRecDepth 100000 in
theorem caret_any (s : ByteArray) (a : Int) (W : World) (T : U8 W) (hs : s.size ≤ 1000000) :
    Calls Tryd.prog 19 #[.string s, .int .i64 a] W fun e W' => e = .returned (.bool (caretB (txt s) a)) ∧ Below W.heap.size W W' := by
  by_cases h0 : a < 0
  · rw [caret_no (txt s) (.inl h0)]
    have e0 : decide (a < 0) = true := decide_eq_true h0
    clear T
    go_enter Tryd.func19, Tryd.ntmps19
    go_wp2
    go_ret
    exact ⟨rfl, Below.refl _ _⟩
  have e0 : decide (a < 0) = false := decide_eq_false h0
  by_cases h1 : (s.size : Int) < a
  · rw [caret_no (txt s) (.inr h1)]
    have e1 : decide ((s.size : Int) < a) = true := decide_eq_true h1
    clear T
    go_enter Tryd.func19, Tryd.ntmps19
    go_wp2
    go_ret
    exact ⟨rfl, Below.refl _ _⟩
  have e1 : decide ((s.size : Int) < a) = false := decide_eq_false h1
  obtain ⟨k, rfl⟩ := Int.eq_ofNat_of_zero_le (show 0 ≤ a by omega)
  have hk : k ≤ s.size := by omega
  have hcar : caretB (txt s) (k : Int) = lookTo (txt s) k 3 := by
    unfold caretB
    rw [decide_eq_true (by omega : (0 : Int) ≤ (k : Int)), decide_eq_true (show (k : Int) ≤ ((txt s).n : Int) from by show (k : Int) ≤ (s.size : Int); omega)]
    simp
  rw [hcar]
  have HT := Lib.hid T
  clear T hcar
  obtain ⟨S, hS⟩ : ∃ S, S = W.heap.size := ⟨_, rfl⟩
  have HS := Lib.hid hS
  rw [← hS]
  have hsz : S ≤ W.heap.size := by omega
  have kf := item_size
  clear hS
  go_enter Tryd.func19, Tryd.ntmps19
  go_wp2_with fail
  go_loopw [5] (fun p wx => ∃ j : Nat, j ≤ 3 ∧ j ≤ k ∧ p = .int .i64 ((k : Int) - 1 - j) ∧ lookTo (txt s) k j = true ∧ Below S W wx) (fun p _ => (intOf p + 1).toNat)
  case atStart => exact ⟨0, by omega, by omega, by go_num, rfl, Below.refl _ _⟩
  case round =>
    obtain ⟨j, hj3, hjk, rfl, hl, hB⟩ := hrel
    have hmore : ∀ i, j ≤ i → lookTo (txt s) k i = true → True := fun _ _ _ => trivial
    clear hmore
    by_cases hjk2 : j < k
    · by_cases hj2 : j < 3
      · obtain ⟨p, hp⟩ : ∃ p : Nat, p = k - 1 - j := ⟨_, rfl⟩
        rw [show (k : Int) - 1 - j = (p : Int) by omega]
        have g1 : decide ((0 : Int) ≤ (p : Int)) = true := decide_eq_true (by omega)
        have g2' : (k : Int) - 4 < (p : Int) := by omega
        have g2 : decide ((k : Int) - 4 < (p : Int)) = true := decide_eq_true g2'
        have HA := Lib.hid (at_in s p wr (HT.out.stay (by rw [← HS.out]; exact hB)) (by omega))
        have hw1 := (txt s).w_pos p
        have hw4 := (txt s).w_le p
        have hstep : lookTo (txt s) k (j + 1) = decide (p + (txt s).w p ≤ k) := by
          rw [lookTo, hl, show k - (j + 1) = p by omega, decide_eq_false (by omega : ¬ k < j + 1)]; simp
        have hlast : ∀ i, lookTo (txt s) k (j + 1) = false → lookTo (txt s) k (j + 1 + i) = false := fun i h => by
          induction i with
          | zero => exact h
          | succ i ih => rw [← Nat.add_assoc, lookTo, ih]; rfl
        unfold itemV at HA
        obtain ⟨w0, hw0⟩ : ∃ x, (txt s).w p = x := ⟨_, rfl⟩
        obtain ⟨r0, hr0⟩ : ∃ x, (txt s).r p = x := ⟨_, rfl⟩
        obtain ⟨o0, ho0⟩ : ∃ x, (txt s).ok p = x := ⟨_, rfl⟩
        rw [hw0, hr0, ho0] at HA
        rw [hw0] at hw1 hw4 hstep
        have HB := Lib.hid hB
        have HST := Lib.hid hstep
        have HLA := Lib.hid hlast
        have hp6 : p ≤ 1000000 := by omega
        have HP := Lib.hid hp
        clear hl hB hw0 hr0 ho0 hstep hlast hp
        go_wp2_with fail
        refine HA.out.mono ?_
        rintro e w1 ⟨rfl, hb⟩
        have HB1 := Lib.hid (HB.out.trans (hb.mono (Nat.le_trans hsz HB.out.size)))
        clear hb HA
        by_cases hgt : k < p + w0
        · have g3 : (k : Int) < (p : Int) + w0 := by omega
          have g4 : decide ((k : Int) < (p : Int) + w0) = true := decide_eq_true g3
          have HF : Hid (lookTo (txt s) k 3 = false) := by
            have h := HLA.out (3 - (j + 1)) (by rw [HST.out]; exact decide_eq_false (by omega))
            rw [show j + 1 + (3 - (j + 1)) = 3 by omega] at h
            exact h
          go_wp2
          go_ret
          exact ⟨by rw [HF.out]; rfl, HB1.out⟩
        · have g3 : ¬ (k : Int) < (p : Int) + w0 := by omega
          have g4 : decide ((k : Int) < (p : Int) + w0) = false := decide_eq_false g3
          have HF : Hid (lookTo (txt s) k (j + 1) = true) := by rw [HST.out]; exact decide_eq_true (by omega)
          go_wp2
          go_roundw
          case rel => exact ⟨j + 1, by omega, by omega, by have := HP.out; rw [show (p : Int) - 1 = (k : Int) - 1 - ((j + 1 : Nat) : Int) by omega], HF.out, HB1.out⟩
          case measure => simp [intOf] <;> omega
      · obtain rfl : j = 3 := by omega
        have g1 : decide ((0 : Int) ≤ (k : Int) - 1 - (3 : Nat)) = true := decide_eq_true (by omega)
        have g2' : ¬ (k : Int) - 4 < (k : Int) - 1 - (3 : Nat) := by omega
        have g2 : decide ((k : Int) - 4 < (k : Int) - 1 - (3 : Nat)) = false := decide_eq_false g2'
        have HL := Lib.hid hl
        have HB := Lib.hid hB
        clear hl hB
        go_wp2
        go_ret
        exact ⟨by rw [HL.out]; rfl, HB.out⟩
    · obtain rfl : j = k := by omega
      have HL : Hid (lookTo (txt s) j 3 = true) := by
        refine (lookTo_iff (txt s) j 3).2 fun q h1 h2 => (lookTo_iff (txt s) j j).1 hl q h1 (by omega)
      have HB := Lib.hid hB
      rw [show (j : Int) - 1 - (j : Int) = -1 by omega]
      clear hl hB
      go_wp2
      go_ret
      exact ⟨by rw [HL.out]; rfl, HB.out⟩

end Go.Proofs.YtfcdmkfbkkogbaaDoor.Utf
