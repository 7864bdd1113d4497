/- Place. -/
import Derived.Test.YtfcdmkfbkkogbaaDoorEditE
namespace Go.Proofs.YtfcdmkfbkkogbaaDoor.Edit
open Go Go.RowKit Go.Proofs.YtfcdmkfbkkogbaaDoor.Utf

/-- Going in a line from its beginning, so many items. -/
structure Within (t : Txt) (j : Nat) (c p : Nat) : Prop where
  ex : ∃ g a, Ln t j g ∧ t.pos a = g ∧ t.pos (a + c) = p
  le : p ≤ t.n
  nl : nl t p = j
theorem Within.zero {t : Txt} {j g : Nat} (h : Ln t j g) : Within t j 0 g := by
  obtain ⟨a, ha⟩ := h.start
  exact ⟨⟨g, a, h, ha, ha⟩, h.1, h.2.1⟩
theorem Within.next {t : Txt} {j c p : Nat} (h : Within t j c p) (h1 : p < t.n) (h2 : t.b p ≠ 10) : Within t j (c + 1) (p + t.w p) := by
  obtain ⟨⟨g, a, hl, ha, hp⟩, hle, hn⟩ := h
  refine ⟨⟨g, a, hl, ha, ?_⟩, t.w_in p h1, by rw [item_clear t h2]; exact hn⟩
  rw [← Nat.add_assoc, Txt.pos, hp]
/-- What Place tells. -/
def Placed (s : ByteArray) (a c : Int) (e : Ending) : Prop :=
  ((a < 0 ∨ (linesN s : Int) < a ∨ c < 0) ∧ e = .returned (.tuple #[.int .i64 0, .int .i64 2])) ∨
  (∃ j k p : Nat, a = j ∧ c = k ∧ j ≤ linesN s ∧ Within (txt s) j k p ∧ e = .returned (.tuple #[.int .i64 (p : Int), .int .i64 0])) ∨
  (∃ j k i p : Nat, a = j ∧ c = k ∧ j ≤ linesN s ∧ i < k ∧ Within (txt s) j i p ∧ (p = s.size ∨ (txt s).b p = 10) ∧ e = .returned (.tuple #[.int .i64 0, .int .i64 10]))

set_option maxRecDepth 100000 in
theorem place_any (s : ByteArray) (a c : Int) (W : World) (T : U8 W) (hs : s.size ≤ 1000000)
    (ha : -9223372036854775808 ≤ a ∧ a ≤ 9223372036854775807) (hc : -9223372036854775808 ≤ c ∧ c ≤ 9223372036854775807) :
    Calls Tryd.prog 36 #[.string s, .int .i64 a, .int .i64 c] W fun e w' => Placed s a c e ∧ Below W.heap.size W w' := by
  have HL := Lib.hid (fun w => lines_any s w hs)
  have hl6 : linesN s ≤ 1000000 := by rw [lines_all]; exact Nat.le_trans (nl_small _ _) hs
  by_cases h1 : a < 0
  · have e1 : decide (a < 0) = true := decide_eq_true h1
    have HP : Hid (Placed s a c (.returned (.tuple #[.int .i64 0, .int .i64 2]))) := .inl ⟨.inl h1, rfl⟩
    clear ha hc hl6
    go_enter Tryd.func36, Tryd.ntmps36
    go_wp2
    go_ret2
    exact ⟨HP.out, Below.refl _ _⟩
  have e1 : decide (a < 0) = false := decide_eq_false h1
  by_cases h2 : (linesN s : Int) < a
  · have HP : Hid (Placed s a c (.returned (.tuple #[.int .i64 0, .int .i64 2]))) := .inl ⟨.inr (.inl h2), rfl⟩
    obtain ⟨l, hl⟩ : ∃ l, linesN s = l := ⟨_, rfl⟩
    rw [hl] at HL hl6 h2
    have e2 : decide (1 + (l : Int) ≤ a) = true := decide_eq_true (by omega)
    clear ha hc hl
    go_enter Tryd.func36, Tryd.ntmps36
    go_wp2_with fail
    refine (HL.out _).mono ?_
    rintro e w1 ⟨rfl, rfl⟩
    go_wp2
    go_ret2
    exact ⟨HP.out, Below.refl _ _⟩
  obtain ⟨j, rfl⟩ := Int.eq_ofNat_of_zero_le (show 0 ≤ a by omega)
  have e2 : decide (1 + (linesN s : Int) ≤ (j : Int)) = false := decide_eq_false (by omega)
  by_cases h3 : c < 0
  · have HP : Hid (Placed s j c (.returned (.tuple #[.int .i64 0, .int .i64 2]))) := .inl ⟨.inr (.inr h3), rfl⟩
    have e3 : decide (c < 0) = true := decide_eq_true h3
    obtain ⟨l, hl⟩ : ∃ l, linesN s = l := ⟨_, rfl⟩
    rw [hl] at HL hl6 e2
    clear ha hc hl
    go_enter Tryd.func36, Tryd.ntmps36
    go_wp2_with fail
    refine (HL.out _).mono ?_
    rintro e w1 ⟨rfl, rfl⟩
    go_wp2
    go_ret2
    exact ⟨HP.out, Below.refl _ _⟩
  have e3 : decide (c < 0) = false := decide_eq_false h3
  obtain ⟨k, rfl⟩ := Int.eq_ofNat_of_zero_le (show 0 ≤ c by omega)
  have hjl : j ≤ linesN s := by omega
  have HJL := Lib.hid hjl
  have hj6 : j ≤ 1000000 := by omega
  have hk6 : (k : Int) ≤ 9223372036854775807 := by omega
  obtain ⟨l, hl⟩ : ∃ l, linesN s = l := ⟨_, rfl⟩
  rw [hl] at HL hl6 e2
  have HLL := Lib.hid hl
  obtain ⟨S, hS⟩ : ∃ S, S = W.heap.size := ⟨_, rfl⟩
  rw [← hS]
  have hsz : S ≤ W.heap.size := by omega
  have HT := Lib.hid T
  clear hl ha hc h1 h2 h3 hjl hS T
  go_enter Tryd.func36, Tryd.ntmps36
  go_wp2_with fail
  refine (HL.out _).mono ?_
  rintro e w1 ⟨rfl, rfl⟩
  go_wp2_with fail
  go_loopw [1, 8] (fun ln at' wx => wx = W ∧ ∃ i g : Nat, i ≤ j ∧ ln = .int .i64 ((j - i : Nat) : Int) ∧ at' = .int .i64 (g : Int) ∧ Ln (txt s) i g) (fun ln _ _ => (intOf ln).toNat)
  case atStart => exact ⟨rfl, 0, 0, Nat.zero_le _, rfl, rfl, Ln.zero _⟩
  case round =>
    obtain ⟨rfl, i, g, hi, rfl, rfl, hln⟩ := hrel
    have hg : g ≤ s.size := hln.1
    by_cases hij : i < j
    · obtain ⟨q, hq, hln2, hle⟩ := next_line s hln (by rw [HLL.out]; have := HJL.out; rw [HLL.out] at this; omega)
      have HI := Lib.hid (fun w => Tryd.strings_IndexByte (s.extract g s.size) 10 w)
      rw [hq] at HI
      have HN := Lib.hid hln2
      have e5 : decide (0 < j - i) = true := decide_eq_true (by omega)
      have e6 : decide ((0 : Int) < ((j - i : Nat) : Int)) = true := decide_eq_true (by omega)
      have hgs : (g : Int) ≤ (s.size : Int) := by omega
      obtain ⟨d, hd⟩ : ∃ d, j - i = d := ⟨_, rfl⟩
      have HD := Lib.hid (show j - (i + 1) = d - 1 by omega)
      rw [hd] at e5 e6
      rw [hd]
      have hd1 : 0 < d := by omega
      have hd6 : d ≤ 1000000 := by omega
      have HI2 := Lib.hid (show i + 1 ≤ j from hij)
      clear hq hln hln2 hd hij hi
      go_wp2_with fail
      refine (HI.out _).mono ?_
      rintro e w2 ⟨rfl, rfl⟩
      go_wp2
      go_roundw
      case rel => exact ⟨trivial, i + 1, g + q + 1, HI2.out, by rw [HD.out]; go_num, by go_num, HN.out⟩
      case measure => simp [intOf]; omega
    · obtain rfl : j = i := by omega
      have HN := Lib.hid hln
      rw [Nat.sub_self, show ((0 : Nat) : Int) = 0 from rfl]
      clear hln hij hi
      go_wp2_with fail
      go_loopw [2, 8] (fun ln at' wx => ∃ i p : Nat, i ≤ k ∧ ln = .int .i64 ((k - i : Nat) : Int) ∧ at' = .int .i64 (p : Int) ∧ Within (txt s) j i p ∧ U8 wx ∧ Below S wr wx) (fun ln _ _ => (intOf ln).toNat)
      case atStart => exact ⟨0, g, Nat.zero_le _, rfl, rfl, Within.zero HN.out, HT.out, Below.refl _ _⟩
      case round =>
        rename_i wx0
        obtain ⟨i, p, hi, rfl, rfl, hin, hu, hB⟩ := hrel
        have HB := Lib.hid hB
        have HU := Lib.hid hu
        have HW := Lib.hid hin
        have hps : p ≤ s.size := hin.le
        have hszr : S ≤ wr.heap.size := Nat.le_trans hsz hB.size
        clear hB hu hin
        by_cases hik : i < k
        · have e5 : decide ((0 : Int) < ((k - i : Nat) : Int)) = true := decide_eq_true (by omega)
          have HN2 : Hid (∀ p', p' = p → (p' = s.size ∨ (txt s).b p' = 10) → Placed s j k (.returned (.tuple #[.int .i64 0, .int .i64 10]))) := fun p' e h => .inr (.inr ⟨j, k, i, p', rfl, rfl, HJL.out, hik, e ▸ HW.out, h, rfl⟩)
          obtain ⟨d, hd⟩ : ∃ d, k - i = d := ⟨_, rfl⟩
          have HD := Lib.hid (show k - (i + 1) = d - 1 by omega)
          rw [hd] at e5
          rw [hd]
          have hd1 : 0 < d := by omega
          have hd6 : (d : Int) ≤ 9223372036854775807 := by omega
          have HI2 := Lib.hid (show i + 1 ≤ k from hik)
          clear hd hik hi
          by_cases hend : p = s.size
          · have e6 : ((p : Int) == (s.size : Int)) = true := by rw [hend]; exact beq_self_eq_true _
            have e7 : (p == s.size) = true := by rw [hend]; exact beq_self_eq_true _
            have HP := Lib.hid (HN2.out p rfl (.inl hend))
            clear hend
            go_wp2
            go_ret2
            exact ⟨HP.out, HB.out⟩
          · have hlt : p < s.size := by omega
            have e6 : ((p : Int) == (s.size : Int)) = false := by rw [beq_eq_false_iff_ne]; omega
            have e7 : (p == s.size) = false := by rw [beq_eq_false_iff_ne]; omega
            have hlt' : (p : Int) < (s.size : Int) := by omega
            have hby : (s[p]'hlt).toNat = (txt s).b p := by rw [get_bang s p hlt]; rfl
            by_cases hb : (txt s).b p = 10
            · have HP := Lib.hid (HN2.out p rfl (.inr hb))
              rw [hb] at hby
              clear hb hend
              go_wp2
              go_ret2
              exact ⟨HP.out, HB.out⟩
            · have hne : (((s[p]'hlt).toNat : Int) == 10) = false := by rw [beq_eq_false_iff_ne, hby]; omega
              have HWN := Lib.hid (HW.out.next hlt hb)
              have HA := Lib.hid (at_in s p wr HU.out hlt)
              have hwn := (txt s).w_in p hlt
              have hw1 := (txt s).w_pos p
              have hn : (txt s).n = s.size := rfl
              rw [hn] at hwn
              unfold itemV at HA
              obtain ⟨w0, hw0⟩ : ∃ x, (txt s).w p = x := ⟨_, rfl⟩
              obtain ⟨r0, hr0⟩ : ∃ x, (txt s).r p = x := ⟨_, rfl⟩
              obtain ⟨o0, ho0⟩ : ∃ x, (txt s).ok p = x := ⟨_, rfl⟩
              rw [hw0, hr0, ho0] at HA
              rw [hw0] at hwn hw1 HWN
              have h1 := item_size (.int .i64 (p : Int)) (.int .i64 (w0 : Int)) (.int .i32 (r0 : Int)) (.bool o0)
              clear hw0 hr0 ho0 hb hend hn hby
              go_wp2_with fail
              refine HA.out.mono ?_
              rintro e w1 ⟨rfl, hb⟩
              have HU2 := Lib.hid (HU.out.stay hb)
              have HB2 := Lib.hid (HB.out.trans (hb.mono hszr))
              clear hb
              go_wp2
              go_roundw
              case rel => exact ⟨i + 1, p + w0, HI2.out, by rw [HD.out]; go_num, by go_num, HWN.out, HU2.out, HB2.out⟩
              case measure => simp [intOf]; omega
        · obtain rfl : i = k := by omega
          have HP : Hid (Placed s j i (.returned (.tuple #[.int .i64 (p : Int), .int .i64 0]))) := .inr (.inl ⟨j, i, p, rfl, rfl, HJL.out, HW.out, rfl⟩)
          rw [Nat.sub_self, show ((0 : Nat) : Int) = 0 from rfl]
          clear hik hi
          go_wp2
          go_ret2
          exact ⟨HP.out, HB.out⟩

end Go.Proofs.YtfcdmkfbkkogbaaDoor.Edit
