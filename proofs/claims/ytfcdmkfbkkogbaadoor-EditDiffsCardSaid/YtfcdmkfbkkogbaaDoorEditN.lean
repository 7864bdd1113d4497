/- The document's Diff. -/
import Derived.Test.YtfcdmkfbkkogbaaDoorEditM
import Derived.Test.YtfcdmkfbkkogbaaDoorEditC
import Derived.Deep.CutBlock
import Derived.Deep.DeepCutAuto
namespace Go.Proofs.YtfcdmkfbkkogbaaDoor.Edit
open Go Go.RowKit Go.Proofs.YtfcdmkfbkkogbaaDoor.Utf

theorem topP_succ (P : Nat → Bool) (i : Nat) : topP P i = if P i then i else topP P (i - 1) := by
  cases i with
  | zero => unfold topP; split <;> rfl
  | succ i => rw [topP]; rfl
theorem pre_byte {a b : ByteArray} {d : Nat} (ha : d < a.size) (hb : d < b.size) (h : d ≤ preN (bytesL a) (bytesL b)) : ((txt a).b d = (txt b).b d ↔ d < preN (bytesL a) (bytesL b)) := by
  have := preN_at (bytesL a) (bytesL b) d h (by rw [bytesL_len]; exact ha) (by rw [bytesL_len]; exact hb)
  rw [bytesL_get a ha, bytesL_get b hb] at this
  exact this
theorem tail_byte (a : ByteArray) {p d : Nat} (h : p + d < a.size) : (bytesL (a.extract p a.size)).reverse.getD d 0 = (txt a).b (a.size - (d + 1)) := by
  have hl := bytesL_len (a.extract p a.size)
  rw [ext_size a (Nat.le_refl _)] at hl
  have hd : d < (bytesL (a.extract p a.size)).length := by rw [hl]; omega
  have h2 : a.size - p - 1 - d < (a.extract p a.size).size := by rw [ext_size a (Nat.le_refl _)]; omega
  rw [List.getD_eq_getElem?_getD, List.getElem?_reverse hd, ← List.getD_eq_getElem?_getD, hl, bytesL_get _ h2]
  show ((a.extract p a.size).get! (a.size - p - 1 - d)).toNat = (a.get! (a.size - (d + 1))).toNat
  rw [ext_byte a (by omega), show p + (a.size - p - 1 - d) = a.size - (d + 1) by omega]
theorem suf_byte {a b : ByteArray} {p d : Nat} (ha : p + d < a.size) (hb : p + d < b.size) (h : d ≤ sufN a b p) : ((txt a).b (a.size - (d + 1)) = (txt b).b (b.size - (d + 1)) ↔ d < sufN a b p) := by
  have := preN_at (bytesL (a.extract p a.size)).reverse (bytesL (b.extract p b.size)).reverse d h (by rw [List.length_reverse, bytesL_len, ext_size a (Nat.le_refl _)]; omega) (by rw [List.length_reverse, bytesL_len, ext_size b (Nat.le_refl _)]; omega)
  rw [tail_byte a ha, tail_byte b hb] at this
  exact this

set_option maxRecDepth 100000 in
set_option maxHeartbeats 4000000 in
theorem refdiff_any (a b : ByteArray) (W : World) (ha : a.size ≤ 1000000) (hb : b.size ≤ 1000000) :
    Calls Tryd.prog 29 #[.string a, .string b] W fun e w' => e = .returned (.tuple #[.int .i64 (atN a b : Int), .int .i64 (endN a b : Int)]) ∧ Below W.heap.size W w' := by
  obtain ⟨S, hS⟩ : ∃ S, S = W.heap.size := ⟨_, rfl⟩
  rw [← hS]
  have hsz : S ≤ W.heap.size := by omega
  have hpl := preN_le (bytesL a) (bytesL b)
  rw [bytesL_len, bytesL_len] at hpl
  have PB := Lib.hid (fun d => @pre_byte a b d)
  obtain ⟨n, hn⟩ : ∃ n, preN (bytesL a) (bytesL b) = n := ⟨_, rfl⟩
  rw [hn] at hpl PB
  have HAT : Hid (topP (bothAt a b) n = atN a b) := by rw [← hn]; exact rfl
  clear hS hn
  go_enter Tryd.func29, Tryd.ntmps29
  go_upto_block 0 with fail
  go_cut [6] (fun v wx => v = .int .i64 (atN a b : Int) ∧ Below S W wx)
  case first => as_aux_lemma =>
    go_wp2_with fail
    go_loopw [6, 7] (fun v i wx => ∃ k : Nat, k ≤ n + 1 ∧ i = .int .i64 (k : Int) ∧ v = .int .i64 (topP (bothAt a b) (k - 1) : Int) ∧ Below S W wx) (fun _ i _ => n + 2 - (intOf i).toNat)
    case atStart => exact ⟨0, Nat.zero_le _, rfl, rfl, Below.refl _ _⟩
    case round =>
      obtain ⟨k, hk, rfl, rfl, hB⟩ := hrel
      have HB := Lib.hid hB
      have hszr : S ≤ wr.heap.size := Nat.le_trans hsz hB.size
      clear hB
      by_cases hkn : k ≤ n
      · have d1 : decide (k ≤ a.size) = true := decide_eq_true (by omega)
        have d2 : decide (k ≤ b.size) = true := decide_eq_true (by omega)
        have HC1 := Lib.hid (fun w => refcaret_any a k w ha (by omega))
        have HC2 := Lib.hid (fun w => refcaret_any b k w hb (by omega))
        have hP : bothAt a b k = (caretB (txt a) (k : Int) && caretB (txt b) (k : Int)) := rfl
        have hT := topP_succ (bothAt a b) k
        obtain ⟨c1, h1⟩ : ∃ c, caretB (txt a) (k : Int) = c := ⟨_, rfl⟩
        obtain ⟨c2, h2⟩ : ∃ c, caretB (txt b) (k : Int) = c := ⟨_, rfl⟩
        rw [h1] at HC1 hP
        rw [h2] at HC2 hP
        rw [hP] at hT
        obtain ⟨t, ht⟩ : ∃ t, topP (bothAt a b) (k - 1) = t := ⟨_, rfl⟩
        rw [ht] at hT
        have HT := Lib.hid hT
        clear h1 h2 hP hT
        go_upto_region 5 with fail
        go_cut [34] (fun v wx => v = .bool false ∧ Below S W wx ∧ S ≤ wx.heap.size)
        case first =>
          rcases Nat.eq_zero_or_pos k with h0 | h0
          · subst h0
            go_quiet (fail)
            go_wp2
            go_meet
            exact ⟨rfl, below_drewNv HB.out _, hszr⟩
          · obtain ⟨d, rfl⟩ : ∃ d, k = d + 1 := ⟨k - 1, by omega⟩
            have hda : d < a.size := by omega
            have hdb : d < b.size := by omega
            have hda' : (d : Int) < (a.size : Int) := by omega
            have hdb' : (d : Int) < (b.size : Int) := by omega
            have hby1 : (a[d]'hda).toNat = (txt a).b d := by rw [get_bang a d hda]; rfl
            have hby2 : (b[d]'hdb).toNat = (txt b).b d := by rw [get_bang b d hdb]; rfl
            have heq := (PB.out d hda hdb (by omega)).2 (by omega)
            rw [← heq] at hby2
            obtain ⟨x, hx⟩ : ∃ x, (txt a).b d = x := ⟨_, rfl⟩
            rw [hx] at hby1 hby2
            clear heq hx
            go_quiet (fail)
            go_wp2
            go_meet
            exact ⟨rfl, below_drewNv HB.out _, hszr⟩
        case rest =>
          obtain ⟨rfl, hb2, hs2⟩ := hcut
          have HB2 := Lib.hid hb2
          clear hb2
          cases c1 with
          | false =>
            have HT2 : Hid (topP (bothAt a b) (k + 1 - 1) = t) := HT.out
            go_wp2_with fail
            refine (HC1.out _).mono ?_
            rintro e w2 ⟨rfl, hb2⟩
            have HB3 := Lib.hid (HB2.out.trans (hb2.mono hs2))
            clear hb2
            go_wp2
            go_roundw
            case rel => exact ⟨k + 1, by omega, by go_num, by rw [HT2.out], HB3.out⟩
            case measure => simp [intOf]; omega
          | true =>
            cases c2 with
            | false =>
              have HT2 : Hid (topP (bothAt a b) (k + 1 - 1) = t) := HT.out
              go_wp2_with fail
              refine (HC1.out _).mono ?_
              rintro e w2 ⟨rfl, hb2⟩
              have HB3 := Lib.hid (HB2.out.trans (hb2.mono hs2))
              clear hb2
              go_wp2_with fail
              refine (HC2.out _).mono ?_
              rintro e w3 ⟨rfl, hb2⟩
              have HB4 := Lib.hid (HB3.out.trans (hb2.mono (Nat.le_trans hsz HB3.out.size)))
              clear hb2
              go_wp2
              go_roundw
              case rel => exact ⟨k + 1, by omega, by go_num, by rw [HT2.out], HB4.out⟩
              case measure => simp [intOf]; omega
            | true =>
              have HT2 : Hid (topP (bothAt a b) (k + 1 - 1) = k) := HT.out
              go_wp2_with fail
              refine (HC1.out _).mono ?_
              rintro e w2 ⟨rfl, hb2⟩
              have HB3 := Lib.hid (HB2.out.trans (hb2.mono hs2))
              clear hb2
              go_wp2_with fail
              refine (HC2.out _).mono ?_
              rintro e w3 ⟨rfl, hb2⟩
              have HB4 := Lib.hid (HB3.out.trans (hb2.mono (Nat.le_trans hsz HB3.out.size)))
              clear hb2
              go_wp2
              go_roundw
              case rel => exact ⟨k + 1, by omega, by go_num, by rw [HT2.out], HB4.out⟩
              case measure => simp [intOf]; omega
      · obtain rfl : k = n + 1 := by omega
        have HAT2 : Hid (topP (bothAt a b) (n + 1 - 1) = atN a b) := HAT.out
        rw [HAT2.out]
        obtain ⟨t, ht⟩ : ∃ t, atN a b = t := ⟨_, rfl⟩
        have HT := Lib.hid ht
        by_cases hna : n + 1 ≤ a.size
        · have d1 : decide (n + 1 ≤ a.size) = true := decide_eq_true hna
          by_cases hnb : n + 1 ≤ b.size
          · have d2 : decide (n + 1 ≤ b.size) = true := decide_eq_true hnb
            have hda : n < a.size := hna
            have hdb : n < b.size := hnb
            have hda' : (n : Int) < (a.size : Int) := by omega
            have hdb' : (n : Int) < (b.size : Int) := by omega
            have hby1 : (a[n]'hda).toNat = (txt a).b n := by rw [get_bang a n hda]; rfl
            have hby2 : (b[n]'hdb).toNat = (txt b).b n := by rw [get_bang b n hdb]; rfl
            have hne : ¬ (txt a).b n = (txt b).b n := fun h => Nat.lt_irrefl _ ((PB.out n hda hdb (Nat.le_refl _)).1 h)
            obtain ⟨x, hx⟩ : ∃ x, (txt a).b n = x := ⟨_, rfl⟩
            obtain ⟨y, hy⟩ : ∃ x, (txt b).b n = x := ⟨_, rfl⟩
            rw [hx] at hby1 hne
            rw [hy] at hby2 hne
            have e1 : ((x : Int) != (y : Int)) = true := by rw [bne_iff_ne]; omega
            have e2 : (x != y) = true := by rw [bne_iff_ne]; exact hne
            have e3 : ((x : Int) == (y : Int)) = false := by rw [beq_eq_false_iff_ne]; omega
            have e4 : (x == y) = false := by rw [beq_eq_false_iff_ne]; exact hne
            clear hx hy hne
            go_wp2_with fail
            go_quiet (fail)
            go_wp2_with fail
            go_meet
            exact ⟨by rw [HT.out], below_drewNv HB.out _⟩
          · have d2 : decide (n + 1 ≤ b.size) = false := decide_eq_false hnb
            have d3 : decide (n < b.size) = false := decide_eq_false (by omega)
            go_wp2_with fail
            go_meet
            exact ⟨by rw [HT.out], HB.out⟩
        · have d1 : decide (n + 1 ≤ a.size) = false := decide_eq_false hna
          have d3 : decide (n < a.size) = false := decide_eq_false (by omega)
          go_wp2_with fail
          go_meet
          exact ⟨by rw [HT.out], HB.out⟩
  case rest =>
    obtain ⟨rfl, hB⟩ := hcut
    have HB := Lib.hid hB
    clear hB
    have hle := at_le a b
    have hse := suf_le a b hle.1 hle.2
    have SB := Lib.hid (fun d => @suf_byte a b (atN a b) d)
    have HEN : Hid (topP (bothEnd a b) (sufN a b (atN a b)) = endN a b) := rfl
    obtain ⟨p, hp⟩ : ∃ p, atN a b = p := ⟨_, rfl⟩
    rw [hp] at hle hse SB HEN
    have HPP := Lib.hid hp
    obtain ⟨m, hm⟩ : ∃ m, sufN a b p = m := ⟨_, rfl⟩
    rw [hm] at hse SB HEN
    obtain ⟨qa, hqa⟩ : ∃ q : Nat, a.size - p = q := ⟨_, rfl⟩
    obtain ⟨qb, hqb⟩ : ∃ q : Nat, b.size - p = q := ⟨_, rfl⟩
    have eqa : (a.size : Int) - (p : Int) = (qa : Int) := by omega
    have eqb : (b.size : Int) - (p : Int) = (qb : Int) := by omega
    have hma : m ≤ qa := by omega
    have hmb : m ≤ qb := by omega
    have hqa2 : p + qa = a.size := by omega
    have hqb2 : p + qb = b.size := by omega
    rw [hp]
    clear hp hm hqa hqb hle hse PB HAT hpl
    go_upto_block 2 with fail
    go_cut [8] (fun v wx => v = .int .i64 (endN a b : Int) ∧ Below S W wx)
    case first => as_aux_lemma =>
      go_wp2_with fail
      go_loopw [8, 9] (fun v i wx => ∃ k : Nat, k ≤ m + 1 ∧ i = .int .i64 (k : Int) ∧ v = .int .i64 (topP (bothEnd a b) (k - 1) : Int) ∧ Below S W wx ∧ S ≤ wx.heap.size) (fun _ i _ => m + 2 - (intOf i).toNat)
      case atStart => exact ⟨0, Nat.zero_le _, rfl, rfl, HB.out, Nat.le_trans hsz HB.out.size⟩
      case round =>
        obtain ⟨k, hk, rfl, rfl, hB, hszr⟩ := hrel
        have HBR := Lib.hid hB
        clear hB
        by_cases hkn : k ≤ m
        · have d1 : decide (k ≤ qa) = true := decide_eq_true (by omega)
          have d2 : decide (k ≤ qb) = true := decide_eq_true (by omega)
          have hkqa : k ≤ qa := by omega
          have hkqb : k ≤ qb := by omega
          obtain ⟨fa, hfa⟩ : ∃ f : Nat, a.size - k = f := ⟨_, rfl⟩
          obtain ⟨fb, hfb⟩ : ∃ f : Nat, b.size - k = f := ⟨_, rfl⟩
          have efa : (a.size : Int) - (k : Int) = (fa : Int) := by omega
          have efb : (b.size : Int) - (k : Int) = (fb : Int) := by omega
          have HC1 := Lib.hid (fun w => refcaret_any a fa w ha (by omega))
          have HC2 := Lib.hid (fun w => refcaret_any b fb w hb (by omega))
          have hP : bothEnd a b k = (caretB (txt a) (fa : Int) && caretB (txt b) (fb : Int)) := by unfold bothEnd; rw [efa, efb]
          have hT := topP_succ (bothEnd a b) k
          obtain ⟨c1, h1⟩ : ∃ c, caretB (txt a) (fa : Int) = c := ⟨_, rfl⟩
          obtain ⟨c2, h2⟩ : ∃ c, caretB (txt b) (fb : Int) = c := ⟨_, rfl⟩
          rw [h1] at HC1 hP
          rw [h2] at HC2 hP
          rw [hP] at hT
          obtain ⟨t, ht⟩ : ∃ t, topP (bothEnd a b) (k - 1) = t := ⟨_, rfl⟩
          rw [ht] at hT
          have HT := Lib.hid hT
          clear h1 h2 hP hT
          go_upto_region 12 with fail
          go_cut [76] (fun v wx => v = .bool false ∧ Below S W wx ∧ S ≤ wx.heap.size)
          case first =>
            rcases Nat.eq_zero_or_pos k with h0 | h0
            · have d3 : decide (0 < k) = false := decide_eq_false (by omega)
              have d4 : decide ((0 : Int) < (k : Int)) = false := decide_eq_false (by omega)
              clear hfa hfb
              go_quiet (fail)
              go_wp2
              go_meet
              exact ⟨rfl, below_drewNv HBR.out _, hszr⟩
            · have d3 : decide (0 < k) = true := decide_eq_true h0
              have d4 : decide ((0 : Int) < (k : Int)) = true := decide_eq_true (by omega)
              have hda : fa < a.size := by omega
              have hdb : fb < b.size := by omega
              have hda' : (fa : Int) < (a.size : Int) := by omega
              have hdb' : (fb : Int) < (b.size : Int) := by omega
              have hby1 : (a[fa]'hda).toNat = (txt a).b fa := by rw [get_bang a fa hda]; rfl
              have hby2 : (b[fb]'hdb).toNat = (txt b).b fb := by rw [get_bang b fb hdb]; rfl
              have heq := (SB.out (k - 1) (by omega) (by omega) (by omega)).2 (by omega)
              rw [show a.size - (k - 1 + 1) = fa by omega, show b.size - (k - 1 + 1) = fb by omega] at heq
              rw [← heq] at hby2
              obtain ⟨x, hx⟩ : ∃ x, (txt a).b fa = x := ⟨_, rfl⟩
              rw [hx] at hby1 hby2
              clear heq hx hfa hfb
              go_quiet (fail)
              go_wp2
              go_meet
              exact ⟨rfl, below_drewNv HBR.out _, hszr⟩
          case rest =>
            obtain ⟨rfl, hb2, hs2⟩ := hcut
            have HB2 := Lib.hid hb2
            clear hb2 hfa hfb
            cases c1 with
            | false =>
              have HT2 : Hid (topP (bothEnd a b) (k + 1 - 1) = t) := HT.out
              go_wp2_with fail
              refine (HC1.out _).mono ?_
              rintro e w2 ⟨rfl, hb2⟩
              have HB3 := Lib.hid (HB2.out.trans (hb2.mono hs2))
              have hs3 := Nat.le_trans hs2 hb2.size
              clear hb2
              go_wp2
              go_roundw
              case rel => exact ⟨k + 1, by omega, by go_num, by rw [HT2.out], HB3.out, hs3⟩
              case measure => simp [intOf]; omega
            | true =>
              cases c2 with
              | false =>
                have HT2 : Hid (topP (bothEnd a b) (k + 1 - 1) = t) := HT.out
                go_wp2_with fail
                refine (HC1.out _).mono ?_
                rintro e w2 ⟨rfl, hb2⟩
                have HB3 := Lib.hid (HB2.out.trans (hb2.mono hs2))
                have hs3 := Nat.le_trans hs2 hb2.size
                clear hb2
                go_wp2_with fail
                refine (HC2.out _).mono ?_
                rintro e w3 ⟨rfl, hb2⟩
                have HB4 := Lib.hid (HB3.out.trans (hb2.mono hs3))
                have hs4 := Nat.le_trans hs3 hb2.size
                clear hb2
                go_wp2
                go_roundw
                case rel => exact ⟨k + 1, by omega, by go_num, by rw [HT2.out], HB4.out, hs4⟩
                case measure => simp [intOf]; omega
              | true =>
                have HT2 : Hid (topP (bothEnd a b) (k + 1 - 1) = k) := HT.out
                go_wp2_with fail
                refine (HC1.out _).mono ?_
                rintro e w2 ⟨rfl, hb2⟩
                have HB3 := Lib.hid (HB2.out.trans (hb2.mono hs2))
                have hs3 := Nat.le_trans hs2 hb2.size
                clear hb2
                go_wp2_with fail
                refine (HC2.out _).mono ?_
                rintro e w3 ⟨rfl, hb2⟩
                have HB4 := Lib.hid (HB3.out.trans (hb2.mono hs3))
                have hs4 := Nat.le_trans hs3 hb2.size
                clear hb2
                go_wp2
                go_roundw
                case rel => exact ⟨k + 1, by omega, by go_num, by rw [HT2.out], HB4.out, hs4⟩
                case measure => simp [intOf]; omega
        · obtain ⟨q, rfl⟩ : ∃ q, k = q := ⟨k, rfl⟩
          have hkm : k = m + 1 := by omega
          have HEN2 : Hid (topP (bothEnd a b) (k - 1) = endN a b) := by rw [hkm]; exact HEN.out
          rw [HEN2.out]
          obtain ⟨t, ht⟩ : ∃ t, endN a b = t := ⟨_, rfl⟩
          have HT := Lib.hid ht
          have HKM := Lib.hid hkm
          by_cases hna : k ≤ qa
          · have d1 : decide (k ≤ qa) = true := decide_eq_true hna
            by_cases hnb : k ≤ qb
            · have d2 : decide (k ≤ qb) = true := decide_eq_true hnb
              obtain ⟨fa, hfa⟩ : ∃ f : Nat, a.size - k = f := ⟨_, rfl⟩
              obtain ⟨fb, hfb⟩ : ∃ f : Nat, b.size - k = f := ⟨_, rfl⟩
              have efa : (a.size : Int) - (k : Int) = (fa : Int) := by omega
              have efb : (b.size : Int) - (k : Int) = (fb : Int) := by omega
              have d3 : decide (0 < k) = true := decide_eq_true (by omega)
              have d4 : decide ((0 : Int) < (k : Int)) = true := decide_eq_true (by omega)
              have hda : fa < a.size := by omega
              have hdb : fb < b.size := by omega
              have hda' : (fa : Int) < (a.size : Int) := by omega
              have hdb' : (fb : Int) < (b.size : Int) := by omega
              have hby1 : (a[fa]'hda).toNat = (txt a).b fa := by rw [get_bang a fa hda]; rfl
              have hby2 : (b[fb]'hdb).toNat = (txt b).b fb := by rw [get_bang b fb hdb]; rfl
              have hne : ¬ (txt a).b fa = (txt b).b fb := fun h => by
                have := (SB.out m (by omega) (by omega) (Nat.le_refl _)).1 (by rw [show a.size - (m + 1) = fa by omega, show b.size - (m + 1) = fb by omega]; exact h)
                exact Nat.lt_irrefl _ this
              obtain ⟨x, hx⟩ : ∃ x, (txt a).b fa = x := ⟨_, rfl⟩
              obtain ⟨y, hy⟩ : ∃ x, (txt b).b fb = x := ⟨_, rfl⟩
              rw [hx] at hby1 hne
              rw [hy] at hby2 hne
              have e1 : ((x : Int) != (y : Int)) = true := by rw [bne_iff_ne]; omega
              have e2 : (x != y) = true := by rw [bne_iff_ne]; exact hne
              have e3 : ((x : Int) == (y : Int)) = false := by rw [beq_eq_false_iff_ne]; omega
              have e4 : (x == y) = false := by rw [beq_eq_false_iff_ne]; exact hne
              clear hx hy hne hfa hfb hkm
              go_wp2_with fail
              go_quiet (fail)
              go_wp2_with fail
              go_meet
              exact ⟨by rw [HT.out], below_drewNv HBR.out _⟩
            · have d2 : decide (k ≤ qb) = false := decide_eq_false hnb
              clear hkm
              go_wp2_with fail
              go_meet
              exact ⟨by rw [HT.out], HBR.out⟩
          · have d1 : decide (k ≤ qa) = false := decide_eq_false hna
            clear hkm
            go_wp2_with fail
            go_meet
            exact ⟨by rw [HT.out], HBR.out⟩
    case rest =>
      obtain ⟨rfl, hB⟩ := hcut
      have HB3 := Lib.hid hB
      clear hB
      go_wp2
      go_ret2
      exact ⟨by rw [HPP.out]; rfl, HB3.out⟩

end Go.Proofs.YtfcdmkfbkkogbaaDoor.Edit
