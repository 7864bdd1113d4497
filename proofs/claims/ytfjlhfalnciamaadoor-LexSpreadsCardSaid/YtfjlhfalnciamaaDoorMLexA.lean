/- Package texts, merged: LexA, LexB, LexC, LexD. -/
import Derived.Test.YtfjlhfalnciamaaDoorMCharsS
import Derived.Scope
import Derived.WalkMore
import Derived.ScopeJumps

namespace Go.Proofs.YtfjlhfalnciamaaDoor.Lex
open Go Go.RowKit Go.Proofs.Chars
open Go.Proofs.YtfjlhfalnciamaaDoor.Utf Go.Proofs.YtfjlhfalnciamaaDoor.Chars

def upperN (c : Nat) : Bool := decide (65 ≤ c ∧ c ≤ 90)
def letterN (c : Nat) : Bool := decide (97 ≤ c ∧ c ≤ 122) || upperN c
def partN (c : Nat) : Bool := letterN c || decide (48 ≤ c ∧ c ≤ 57) || decide (c = 95)

theorem upper_any (c : Nat) (w : World) : Calls Tryd.prog 56 #[.int .u8 (c : Int)] w fun e w' => e = .returned (.bool (upperN c)) ∧ w = w' := by
  unfold upperN
  by_cases h1 : 65 ≤ c
  · have d1 : (65 : Int) ≤ (c : Int) := by omega
    have d2 : decide ((65 : Int) ≤ (c : Int)) = true := decide_eq_true d1
    by_cases h2 : c ≤ 90
    · have d3 : (c : Int) ≤ 90 := by omega
      have d4 : decide ((c : Int) ≤ 90) = true := decide_eq_true d3
      rw [decide_eq_true ⟨h1, h2⟩]
      go_enter Tryd.func56, Tryd.ntmps56
      go_wp2
      go_ret
      exact ⟨rfl, rfl⟩
    · have d3 : ¬ (c : Int) ≤ 90 := by omega
      have d4 : decide ((c : Int) ≤ 90) = false := decide_eq_false d3
      rw [decide_eq_false (fun h => h2 h.2)]
      go_enter Tryd.func56, Tryd.ntmps56
      go_wp2
      go_ret
      exact ⟨rfl, rfl⟩
  · have d1 : ¬ (65 : Int) ≤ (c : Int) := by omega
    have d2 : decide ((65 : Int) ≤ (c : Int)) = false := decide_eq_false d1
    rw [decide_eq_false (fun h => h1 h.1)]
    go_enter Tryd.func56, Tryd.ntmps56
    go_wp2
    go_ret
    exact ⟨rfl, rfl⟩

theorem letter_any (c : Nat) (w : World) : Calls Tryd.prog 86 #[.int .u8 (c : Int)] w fun e w' => e = .returned (.bool (letterN c)) ∧ w = w' := by
  unfold letterN
  have HU := Lib.hid (upper_any c w)
  generalize upperN c = u at HU ⊢
  by_cases h1 : 97 ≤ c
  · have d1 : (97 : Int) ≤ (c : Int) := by omega
    have d2 : decide ((97 : Int) ≤ (c : Int)) = true := decide_eq_true d1
    by_cases h2 : c ≤ 122
    · have d3 : (c : Int) ≤ 122 := by omega
      have d4 : decide ((c : Int) ≤ 122) = true := decide_eq_true d3
      rw [decide_eq_true ⟨h1, h2⟩, Bool.true_or]
      go_enter Tryd.func86, Tryd.ntmps86
      go_wp2
      go_ret
      exact ⟨rfl, rfl⟩
    · have d3 : ¬ (c : Int) ≤ 122 := by omega
      have d4 : decide ((c : Int) ≤ 122) = false := decide_eq_false d3
      rw [decide_eq_false (fun h => h2 h.2), Bool.false_or]
      go_enter Tryd.func86, Tryd.ntmps86
      go_wp2_with (go_at_call 56; refine HU.out.mono ?_; rintro e w' ⟨rfl, rfl⟩)
      go_ret
      exact ⟨rfl, rfl⟩
  · have d1 : ¬ (97 : Int) ≤ (c : Int) := by omega
    have d2 : decide ((97 : Int) ≤ (c : Int)) = false := decide_eq_false d1
    rw [decide_eq_false (fun h => h1 h.1), Bool.false_or]
    go_enter Tryd.func86, Tryd.ntmps86
    go_wp2_with (go_at_call 56; refine HU.out.mono ?_; rintro e w' ⟨rfl, rfl⟩)
    go_ret
    exact ⟨rfl, rfl⟩

/-- The first place, from one on, that is no part of a name. -/
def runP (b : Nat → Nat) (n : Nat) : Nat → Nat → Nat
  | 0, i => i
  | f + 1, i => if i < n ∧ partN (b i) = true then runP b n f (i + 1) else i
def namedE (b : Nat → Nat) (n : Nat) : Nat := if n = 0 then 0 else if letterN (b 0) = true then runP b n n 1 else 0
theorem runP_in (b : Nat → Nat) (n : Nat) : ∀ f i, i ≤ n → i ≤ runP b n f i ∧ runP b n f i ≤ n
  | 0, i, h => ⟨Nat.le_refl _, h⟩
  | f + 1, i, h => by
    rw [runP]
    split
    · rename_i hc
      have := runP_in b n f (i + 1) (by omega)
      exact ⟨by omega, this.2⟩
    · exact ⟨Nat.le_refl _, h⟩
theorem namedE_in (b : Nat → Nat) (n : Nat) : namedE b n ≤ n := by
  unfold namedE
  split
  · omega
  split
  · exact (runP_in b n n 1 (by omega)).2
  · omega
theorem empty_of {s : ByteArray} (h : s.size = 0) : s = ⟨#[]⟩ := by
  have : s.data.toList.length = 0 := by rw [← Lib.size_eq]; exact h
  cases s with
  | mk d => congr 1; apply Array.toList_inj.1; simpa using this
theorem some_of {s : ByteArray} (h : s.size ≠ 0) : (s.toList == []) = false := by
  have hne : s.toList ≠ [] := by
    intro h2
    have : s.data.toList.length = 0 := by
      have h3 : s.toList = s.data.toList := Lib.toList_data s
      rw [← h3, h2]; rfl
    rw [← Lib.size_eq] at this
    exact h this
  simpa using hne

set_option maxRecDepth 100000 in
set_option maxHeartbeats 1000000 in
theorem named_any (s : ByteArray) (hs : s.size ≤ 1000000) (w : World) : Calls Tryd.prog 55 #[.string s] w fun e w' => e = .returned (.int .i64 (namedE (txt s).b s.size : Nat)) ∧ w = w' := by
  obtain ⟨N, hN⟩ : ∃ N, namedE (txt s).b s.size = N := ⟨_, rfl⟩
  rw [hN]
  unfold namedE at hN
  by_cases h0 : s.size = 0
  · rw [if_pos h0] at hN
    subst hN
    obtain rfl := empty_of h0
    clear h0 hs
    go_enter Tryd.func55, Tryd.ntmps55
    go_wp2
    go_ret
    exact ⟨rfl, rfl⟩
  · rw [if_neg h0] at hN
    have n1 := some_of h0
    have hb : ∀ i (h : i < s.size), (s[i]'h).toNat = (txt s).b i := fun i h => by rw [get_bang]; rfl
    obtain ⟨b, hbb⟩ : ∃ b, (txt s).b = b := ⟨_, rfl⟩
    rw [hbb] at hN hb
    have hb0 := hb 0 (by omega)
    have h00 : 0 < s.size := by omega
    have HB := Lib.hid hb
    have HN := Lib.hid hN
    have HL := Lib.hid (fun c => letter_any c w)
    clear hb hN hbb
    cases hl : letterN (b 0) with
    | false =>
      have hN := HN.out
      rw [hl, if_neg (by simp)] at hN
      subst hN
      have HL0 := Lib.hid (letter_any (b 0) w)
      rw [hl] at HL0
      clear HL HN
      go_enter Tryd.func55, Tryd.ntmps55
      go_wp2_with (go_at_call 86; refine HL0.out.mono ?_; rintro e w' ⟨rfl, rfl⟩)
      go_ret
      exact ⟨rfl, rfl⟩
    | true =>
      have hN := HN.out
      rw [hl, if_pos rfl] at hN
      have HN := Lib.hid hN
      have HL0 := Lib.hid (letter_any (b 0) w)
      rw [hl] at HL0
      clear hN
      go_enter Tryd.func55, Tryd.ntmps55
      go_wp2_with (go_at_call 86; refine HL0.out.mono ?_; rintro e w' ⟨rfl, rfl⟩)
      go_loopw [3] (fun x3 wx => ∃ i f : Nat, 1 ≤ i ∧ i ≤ s.size ∧ s.size ≤ i + f ∧ x3 = .int .i64 (i : Int) ∧ runP b s.size f i = N ∧ w = wx) (fun x3 _ => s.size - (intOf x3).toNat)
      case atStart => exact ⟨1, s.size, by omega, by omega, by omega, rfl, HN.out, rfl⟩
      case round =>
        obtain ⟨i, f, hi1, hi, hf, rfl, hrun, rfl⟩ := hrel
        have HR := Lib.hid hrun
        clear hrun
        by_cases hlt : i < s.size
        · have g1 : (i : Int) < (s.size : Int) := by omega
          have g2 : decide ((i : Int) < (s.size : Int)) = true := decide_eq_true g1
          have hbi := HB.out i hlt
          obtain ⟨f, rfl⟩ : ∃ g, f = g + 1 := ⟨f - 1, by omega⟩
          have hgo := HR.out
          rw [runP] at hgo
          have HLi := Lib.hid (letter_any (b i) w)
          obtain ⟨c, hc⟩ : ∃ c, b i = c := ⟨_, rfl⟩
          rw [hc] at hgo hbi HLi
          have step : ∀ t : Bool, partN c = t → (t = true → runP b s.size f (i + 1) = N) ∧ (t = false → i = N) := by
            rintro t rfl
            constructor
            · intro h; rw [if_pos ⟨hlt, h⟩] at hgo; exact hgo
            · intro h; rw [if_neg (by rw [h]; simp)] at hgo; exact hgo
          have HS := Lib.hid step
          clear hgo hc HR step
          have fin : ∀ t : Bool, partN c = t → True := fun _ _ => trivial
          cases hlc : letterN c with
          | true =>
            have HG := (HS.out true (by unfold partN; rw [hlc]; rfl)).1 rfl
            rw [hlc] at HLi
            clear HS fin
            go_wp2_with (go_at_call 86; refine HLi.out.mono ?_; rintro e w' ⟨rfl, rfl⟩)
            go_roundw
            case rel => exact ⟨i + 1, f, by omega, by omega, by omega, by go_num, HG, trivial⟩
            case measure => simp [intOf]; omega
          | false =>
            rw [hlc] at HLi
            by_cases k1 : 48 ≤ c
            · have d1 : (48 : Int) ≤ (c : Int) := by omega
              have d2 : decide ((48 : Int) ≤ (c : Int)) = true := decide_eq_true d1
              by_cases k2 : c ≤ 57
              · have d3 : (c : Int) ≤ 57 := by omega
                have d4 : decide ((c : Int) ≤ 57) = true := decide_eq_true d3
                have HG := (HS.out true (by unfold partN; rw [hlc, decide_eq_true ⟨k1, k2⟩]; rfl)).1 rfl
                clear HS fin
                go_wp2_with (go_at_call 86; refine HLi.out.mono ?_; rintro e w' ⟨rfl, rfl⟩)
                go_roundw
                case rel => exact ⟨i + 1, f, by omega, by omega, by omega, by go_num, HG, trivial⟩
                case measure => simp [intOf]; omega
              · have d3 : ¬ (c : Int) ≤ 57 := by omega
                have d4 : decide ((c : Int) ≤ 57) = false := decide_eq_false d3
                by_cases k3 : c = 95
                · subst k3
                  have HG := (HS.out true (by decide)).1 rfl
                  clear HS fin
                  go_wp2_with (go_at_call 86; refine HLi.out.mono ?_; rintro e w' ⟨rfl, rfl⟩)
                  go_roundw
                  case rel => exact ⟨i + 1, f, by omega, by omega, by omega, by go_num, HG, trivial⟩
                  case measure => simp [intOf]; omega
                · have d5 : ((c : Int) == 95) = false := by simpa using (by omega : ¬ (c : Int) = 95)
                  have HG := (HS.out false (by unfold partN; rw [hlc, decide_eq_false (fun h => k2 h.2), decide_eq_false k3]; rfl)).2 rfl
                  subst HG
                  clear HS fin
                  go_wp2_with (go_at_call 86; refine HLi.out.mono ?_; rintro e w' ⟨rfl, rfl⟩)
                  go_ret
                  exact ⟨rfl, rfl⟩
            · have d1 : ¬ (48 : Int) ≤ (c : Int) := by omega
              have d2 : decide ((48 : Int) ≤ (c : Int)) = false := decide_eq_false d1
              have d5 : ((c : Int) == 95) = false := by simpa using (by omega : ¬ (c : Int) = 95)
              have HG := (HS.out false (by unfold partN; rw [hlc, decide_eq_false (fun h => k1 h.1), decide_eq_false (by omega)]; rfl)).2 rfl
              subst HG
              clear HS fin
              go_wp2_with (go_at_call 86; refine HLi.out.mono ?_; rintro e w' ⟨rfl, rfl⟩)
              go_ret
              exact ⟨rfl, rfl⟩
        · have g1 : ¬ (i : Int) < (s.size : Int) := by omega
          have g2 : decide ((i : Int) < (s.size : Int)) = false := decide_eq_false g1
          have hN2 : i = N := by
            have h := HR.out
            cases f with
            | zero => rw [runP] at h; exact h
            | succ f => rw [runP, if_neg (by omega)] at h; exact h
          subst hN2
          clear HR
          go_wp2
          go_ret
          exact ⟨rfl, rfl⟩

end Go.Proofs.YtfjlhfalnciamaaDoor.Lex

namespace Go.Proofs.YtfjlhfalnciamaaDoor.Lex
open Go Go.RowKit Go.Proofs.Chars
open Go.Proofs.YtfjlhfalnciamaaDoor.Utf Go.Proofs.YtfjlhfalnciamaaDoor.Chars

def wsN (c : Nat) : Bool := decide (c = 9 ∨ c = 10 ∨ c = 13 ∨ c = 32)
/-- The end of a line: the first place, from one on, at which it ends. -/
def lineE (b : Nat → Nat) (n : Nat) : Nat → Nat → Nat
  | 0, a => a
  | f + 1, a => if a < n ∧ b a ≠ 10 then lineE b n f (a + 1) else a
/-- The first place, from one on, that is not blank. -/
def blankE (b : Nat → Nat) (n : Nat) : Nat → Nat → Nat
  | 0, a => a
  | f + 1, a => if a < n ∧ wsN (b a) = true then blankE b n f (a + 1) else if a + 1 < n ∧ b a = 47 ∧ b (a + 1) = 47 then blankE b n f (lineE b n n a) else a
theorem lineE_in (b : Nat → Nat) (n : Nat) : ∀ f a, a ≤ n → a ≤ lineE b n f a ∧ lineE b n f a ≤ n
  | 0, a, h => ⟨Nat.le_refl _, h⟩
  | f + 1, a, h => by
    rw [lineE]
    split
    · have := lineE_in b n f (a + 1) (by omega)
      exact ⟨by omega, this.2⟩
    · exact ⟨Nat.le_refl _, h⟩
theorem blankE_in (b : Nat → Nat) (n : Nat) : ∀ f a, a ≤ n → a ≤ blankE b n f a ∧ blankE b n f a ≤ n
  | 0, a, h => ⟨Nat.le_refl _, h⟩
  | f + 1, a, h => by
    rw [blankE]
    split
    · have := blankE_in b n f (a + 1) (by omega)
      exact ⟨by omega, this.2⟩
    · split
      · have h1 := lineE_in b n n a h
        have := blankE_in b n f _ h1.2
        exact ⟨by omega, this.2⟩
      · exact ⟨Nat.le_refl _, h⟩
def wsI (c : Nat) : Int := Lib.indexByte [9, 10, 13, 32] c.toUInt8
theorem wsI_is : ∀ c : Fin 256, decide (0 ≤ wsI c.val) = wsN c.val := by decide +kernel
theorem ws_any (c : Nat) (w : World) : Calls Tryd.prog 87 #[.string ⟨#[9, 10, 13, 32]⟩, .int .u8 (c : Int)] w fun e w' => e = .returned (.int .i64 (wsI c)) ∧ w = w' :=
  (Tryd.strings_IndexByte ⟨#[9, 10, 13, 32]⟩ (c : Int) w).mono fun _ _ h => ⟨h.1, h.2.symm⟩
/-- A text of two bytes stands at a place. -/
theorem pre_two (s : ByteArray) (k : Nat) (x y : UInt8) : Lib.hasPrefix (s.extract k s.size).data.toList [x, y] = decide (k + 1 < s.size ∧ (txt s).b k = x.toNat ∧ (txt s).b (k + 1) = y.toNat) := by
  have hl : (s.extract k s.size).data.toList = s.data.toList.drop k := by
    rw [ByteArray.data_extract, Array.toList_extract, List.extract_eq_take_drop]
    exact List.take_of_length_le (by rw [List.length_drop, ← Lib.size_eq]; exact Nat.le_refl _)
  rw [hl]
  have hb : ∀ i, i < s.size → s.data.toList[i]? = some (s.get! i) := fun i h => by
    rw [← Lib.getD_get!', List.getD_eq_getElem?_getD]
    cases e : s.data.toList[i]? with
    | none => rw [List.getElem?_eq_none_iff, ← Lib.size_eq] at e; omega
    | some x => rfl
  have hsz := Lib.size_eq s
  unfold Lib.hasPrefix
  by_cases h1 : k + 1 < s.size
  · have e0 := hb k (by omega)
    have e1 := hb (k + 1) h1
    have ed : s.data.toList.drop k = s.get! k :: s.get! (k + 1) :: s.data.toList.drop (k + 2) := by
      rw [List.drop_eq_getElem_cons (by omega), List.drop_eq_getElem_cons (i := k + 1) (by omega)]
      rw [List.getElem?_eq_some_iff] at e0 e1
      rw [e0.2, e1.2]
    rw [ed]
    have b0 : (txt s).b k = (s.get! k).toNat := rfl
    have b1 : (txt s).b (k + 1) = (s.get! (k + 1)).toNat := rfl
    rw [b0, b1]
    simp only [List.isPrefixOf, Bool.and_true]
    by_cases hx : x = s.get! k
    · by_cases hy : y = s.get! (k + 1)
      · subst hx; subst hy; simp [h1]
      · have : (y == s.get! (k + 1)) = false := by simpa using hy
        rw [this, Bool.and_false]
        symm
        rw [decide_eq_false_iff_not]
        rintro ⟨_, _, h⟩
        exact hy (UInt8.toNat_inj.1 h.symm)
    · have : (x == s.get! k) = false := by simpa using hx
      rw [this, Bool.false_and]
      symm
      rw [decide_eq_false_iff_not]
      rintro ⟨_, h, _⟩
      exact hx (UInt8.toNat_inj.1 h.symm)
  · have hlen : (s.data.toList.drop k).length < 2 := by rw [List.length_drop, ← hsz]; omega
    rw [decide_eq_false (fun h => h1 h.1)]
    cases hd : s.data.toList.drop k with
    | nil => rfl
    | cons p l =>
      cases l with
      | nil => simp [List.isPrefixOf]
      | cons q l => rw [hd] at hlen; simp only [List.length_cons] at hlen; omega
theorem two_any (s : ByteArray) (k : Nat) (x y : UInt8) (w : World) : Calls Tryd.prog 88 #[.string (s.extract k s.size), .string ⟨#[x, y]⟩] w fun e w' => e = .returned (.bool (decide (k + 1 < s.size ∧ (txt s).b k = x.toNat ∧ (txt s).b (k + 1) = y.toNat))) ∧ w = w' := by
  rw [← pre_two]
  exact (Tryd.strings_HasPrefix (s.extract k s.size) ⟨#[x, y]⟩ w).mono fun _ _ h => ⟨h.1, h.2.symm⟩

/-- What holds whenever the scan begins anew, and what every pass lowers. -/
def JB (s : ByteArray) (b : Nat → Nat) (N : Nat) (w : World) (a' : Act) (w' : World) : Prop :=
  w = w' ∧ ∃ (a f : Nat) (u5 u6 u7 u8 u9 u10 u11 u12 u13 u14 u15 u16 u17 u18 u19 u20 u21 u22 u23 u24 u25 u26 u27 u28 u29 u30 u31 u32 u33 u34 : Value), a' = { tmps := #[.string s, .int .i64 (a : Int), undef, undef, .int .i64 0, u5, u6, u7, u8, u9, u10, u11, u12, u13, u14, u15, u16, u17, u18, u19, u20, u21, u22, u23, u24, u25, u26, u27, u28, u29, u30, u31, u32, u33, u34], defers := [] } ∧ a ≤ s.size ∧ s.size < a + f ∧ blankE b s.size f a = N
def MB (s : ByteArray) (a' : Act) : Nat := s.size - (intOf (a'.tmps.getD 1 undef)).toNat
/-- What the code runs from the label on. -/
def restOf : Option Code → Code
  | some (.seq _ (.scope (.seq _ x))) => x
  | _ => .skip
theorem lineE_past {b : Nat → Nat} {n f a : Nat} (h : a < n) (h2 : b a ≠ 10) (hf : 0 < f) : a < lineE b n f a := by
  obtain ⟨f, rfl⟩ : ∃ g, f = g + 1 := ⟨f - 1, by omega⟩
  rw [lineE, if_pos ⟨h, h2⟩]
  have := (lineE_in b n f (a + 1) (by omega)).1
  omega

set_option maxRecDepth 100000 in
set_option maxHeartbeats 4000000 in
theorem blank_any (s : ByteArray) (hs : s.size ≤ 1000000) (k : Nat) (hk : k ≤ s.size) (w : World) : Calls Tryd.prog 60 #[.string s, .int .i64 (k : Int)] w fun e w' => e = .returned (.int .i64 (blankE (txt s).b s.size (s.size + 1) k : Nat)) ∧ w = w' := by
  obtain ⟨N, hN⟩ : ∃ N, blankE (txt s).b s.size (s.size + 1) k = N := ⟨_, rfl⟩
  rw [hN]
  have hb : ∀ i (h : i < s.size), (s[i]'h).toNat = (txt s).b i := fun i h => by rw [get_bang]; rfl
  have hbl : ∀ i, (txt s).b i < 256 := fun i => UInt8.toNat_lt _
  have HT := Lib.hid (fun k => two_any s k 47 47 w)
  obtain ⟨b, hbb⟩ : ∃ b, (txt s).b = b := ⟨_, rfl⟩
  rw [hbb] at hN hb HT hbl
  have HB := Lib.hid hb
  have HBL := Lib.hid hbl
  have HN := Lib.hid hN
  clear hb hN hbb hbl
  go_enter Tryd.func60, Tryd.ntmps60
  go_wp2
  rename_i Qo
  have key : ∀ a' w', JB s b N w a' w' → Code.wp Tryd.prog (restOf Tryd.f60.body) (Exit.jump 0 (fun a'' w'' => JB s b N w a'' w'' ∧ MB s a'' < MB s a') Qo) a' w' := by
    rintro a' w' ⟨rfl, a, f, u5, u6, u7, u8, u9, u10, u11, u12, u13, u14, u15, u16, u17, u18, u19, u20, u21, u22, u23, u24, u25, u26, u27, u28, u29, u30, u31, u32, u33, u34, rfl, ha, hf, hrun⟩
    unfold restOf Tryd.f60
    dsimp only
    have HR := Lib.hid hrun
    have HW := Lib.hid (fun c => ws_any c w)
    clear hrun
    have gb : (a : Int) ≤ (s.size : Int) := by omega
    have gb0 : (0 : Int) ≤ (a : Int) := by omega
    obtain ⟨f, rfl⟩ : ∃ g, f = g + 1 := ⟨f - 1, by omega⟩
    have hgo := HR.out
    rw [blankE] at hgo
    by_cases hlt : a < s.size
    · have g1 : (a : Int) < (s.size : Int) := by omega
      have g2 : decide ((a : Int) < (s.size : Int)) = true := decide_eq_true g1
      have hba := HB.out a hlt
      have hwi := wsI_is ⟨b a, HBL.out a⟩
      obtain ⟨c, hc⟩ : ∃ c, b a = c := ⟨_, rfl⟩
      have HT1 := Lib.hid (HT.out a)
      rw [hc] at HT1
      rw [hc] at hgo hba
      simp only [hc] at hwi
      have HWc := Lib.hid (HW.out c)
      obtain ⟨z, hz⟩ : ∃ z, wsI c = z := ⟨_, rfl⟩
      rw [hz] at hwi HWc
      cases hw : wsN c with
      | true =>
        rw [hw] at hwi
        have hz0 := of_decide_eq_true hwi
        rw [if_pos ⟨hlt, hw⟩] at hgo
        have HG := Lib.hid hgo
        clear hgo HR HT HT1 hz hw HW
        go_wp2_with (go_at_call 87; refine HWc.out.mono ?_; rintro e w' ⟨rfl, rfl⟩)
        go_step3
        refine ⟨rfl, ⟨rfl, a + 1, f, _, _, _, _, _, _, _, _, _, _, _, _, _, _, _, _, _, _, _, _, _, _, _, _, _, _, _, _, _, _, by go_num, by omega, by omega, HG.out⟩, ?_⟩
        simp [MB, intOf]
        omega
      | false =>
        rw [hw] at hwi
        have hz0 := of_decide_eq_false hwi
        rw [if_neg (by rw [hw]; simp)] at hgo
        by_cases ht : a + 1 < s.size ∧ c = 47 ∧ b (a + 1) = 47
        · rw [if_pos ht] at hgo
          have hne : b a ≠ 10 := by rw [hc]; omega
          have hline := lineE_past (f := s.size) hlt hne (by omega)
          have hlin2 := (lineE_in b s.size s.size a ha).2
          obtain ⟨L, hL⟩ : ∃ L, lineE b s.size s.size a = L := ⟨_, rfl⟩
          rw [hL] at hgo hline hlin2
          have HG := Lib.hid hgo
          have HL := Lib.hid hL
          have ht2 : decide (a + 1 < s.size ∧ c = UInt8.toNat 47 ∧ b (a + 1) = UInt8.toNat 47) = true := decide_eq_true ht
          rw [ht2] at HT1
          clear hgo HR HT hz hw HW hne hL ht ht2 hc
          go_wp2_with (first
            | (go_at_call 87; refine HWc.out.mono ?_; rintro e w' ⟨rfl, rfl⟩)
            | (go_at_call 88; refine HT1.out.mono ?_; rintro e w' ⟨rfl, rfl⟩))
          go_loopw [1] (fun x1 wx => ∃ j g : Nat, a ≤ j ∧ j ≤ s.size ∧ s.size ≤ j + g ∧ x1 = .int .i64 (j : Int) ∧ lineE b s.size g j = L ∧ w = wx) (fun x1 _ => s.size - (intOf x1).toNat)
          case atStart => exact ⟨a, s.size, Nat.le_refl _, ha, by omega, rfl, HL.out, rfl⟩
          case round =>
            obtain ⟨j, g, hj1, hj2, hj3, rfl, hjl, rfl⟩ := hrel
            have HJ := Lib.hid hjl
            clear hjl
            by_cases hjs : j < s.size
            · have q1 : (j : Int) < (s.size : Int) := by omega
              have q2 : decide ((j : Int) < (s.size : Int)) = true := decide_eq_true q1
              have hbj := HB.out j hjs
              obtain ⟨g, rfl⟩ : ∃ q, g = q + 1 := ⟨g - 1, by omega⟩
              have hjl := HJ.out
              rw [lineE] at hjl
              obtain ⟨c', hc'⟩ : ∃ c', b j = c' := ⟨_, rfl⟩
              rw [hc'] at hjl hbj
              by_cases h10 : c' = 10
              · rw [if_neg (by omega)] at hjl
                subst hjl
                have p1 : ((c' : Int) != 10) = false := by simpa using (by omega : (c' : Int) = 10)
                clear hc' HJ
                go_wp2_with fail
                go_step3
                refine ⟨rfl, ⟨rfl, j, f, _, _, _, _, _, _, _, _, _, _, _, _, _, _, _, _, _, _, _, _, _, _, _, _, _, _, _, _, _, _, rfl, by omega, by omega, HG.out⟩, ?_⟩
                simp [MB, intOf]
                omega
              · rw [if_pos ⟨hjs, h10⟩] at hjl
                have p1 : ((c' : Int) != 10) = true := by simpa using (by omega : ¬ (c' : Int) = 10)
                have HJ := Lib.hid hjl
                clear hc' hjl
                go_wp2_with fail
                go_roundw
                case rel => exact ⟨j + 1, g, by omega, by omega, by omega, by go_num, HJ.out, trivial⟩
                case measure => simp [intOf]; omega
            · have q1 : ¬ (j : Int) < (s.size : Int) := by omega
              have q2 : decide ((j : Int) < (s.size : Int)) = false := decide_eq_false q1
              have hjl : j = L := by
                have h := HJ.out
                cases g with
                | zero => rw [lineE] at h; exact h
                | succ g => rw [lineE, if_neg (by omega)] at h; exact h
              subst hjl
              clear HJ
              go_wp2_with fail
              go_step3
              refine ⟨rfl, ⟨rfl, j, f, _, _, _, _, _, _, _, _, _, _, _, _, _, _, _, _, _, _, _, _, _, _, _, _, _, _, _, _, _, _, rfl, by omega, by omega, HG.out⟩, ?_⟩
              simp [MB, intOf]
              omega
        · rw [if_neg ht] at hgo
          subst hgo
          have ht2 : decide (a + 1 < s.size ∧ c = UInt8.toNat 47 ∧ b (a + 1) = UInt8.toNat 47) = false := decide_eq_false ht
          rw [ht2] at HT1
          clear HR HT hz hw HW ht ht2 hc
          go_wp2_with (first
            | (go_at_call 87; refine HWc.out.mono ?_; rintro e w' ⟨rfl, rfl⟩)
            | (go_at_call 88; refine HT1.out.mono ?_; rintro e w' ⟨rfl, rfl⟩))
          simp only [Exit.jump]
          go_ret
          exact ⟨rfl, rfl⟩
    · have g1 : ¬ (a : Int) < (s.size : Int) := by omega
      have g2 : decide ((a : Int) < (s.size : Int)) = false := decide_eq_false g1
      rw [if_neg (by omega), if_neg (by omega)] at hgo
      subst hgo
      have HT1 := Lib.hid (HT.out a)
      rw [decide_eq_false (by omega)] at HT1
      clear HR HT HW
      go_wp2_with (go_at_call 88; refine HT1.out.mono ?_; rintro e w' ⟨rfl, rfl⟩)
      simp only [Exit.jump]
      go_ret
      exact ⟨rfl, rfl⟩
  refine wp_scope_jumps 0 (JB s b N w) (fun a' _ => MB s a') rfl ?_ (fun a' w' hJ => wp_seq (wp_skip (key a' w' hJ)))
  go_wp2
  go_step3
  rename_i hK
  refine hK _ _ (wp_mono (key _ _ ⟨rfl, k, s.size + 1, _, _, _, _, _, _, _, _, _, _, _, _, _, _, _, _, _, _, _, _, _, _, _, _, _, _, _, _, _, _, rfl, hk, by omega, HN.out⟩) ?_)
  intro e a1 w1 h
  cases e with
  | goto l => exact ⟨h.1, h.2.1⟩
  | _ => exact h

end Go.Proofs.YtfjlhfalnciamaaDoor.Lex

namespace Go.Proofs.YtfjlhfalnciamaaDoor.Lex
open Go Go.RowKit Go.Proofs.Chars
open Go.Proofs.YtfjlhfalnciamaaDoor.Utf Go.Proofs.YtfjlhfalnciamaaDoor.Chars

/-- Where, from a place on, a byte stands that is not behind a backslash. -/
def untilE (b : Nat → Nat) (n c : Nat) : Nat → Nat → Option Nat
  | 0, _ => none
  | f + 1, a => if a < n then (if b a = c then some a else if b a = 92 then untilE b n c f (a + 2) else untilE b n c f (a + 1)) else none
def untilV : Option Nat → Int
  | none => -1
  | some a => (a : Int)
theorem untilE_in (b : Nat → Nat) (n c : Nat) : ∀ f a e, untilE b n c f a = some e → a ≤ e ∧ e < n
  | 0, a, e, h => by cases h
  | f + 1, a, e, h => by
    rw [untilE] at h
    split at h
    · split at h
      · cases h; omega
      · split at h
        · have := untilE_in b n c f _ e h; omega
        · have := untilE_in b n c f _ e h; omega
    · cases h

set_option maxRecDepth 100000 in
theorem until_any (s : ByteArray) (hs : s.size ≤ 1000000) (k c : Nat) (hk : k ≤ s.size) (w : World) : Calls Tryd.prog 126 #[.string s, .int .i64 (k : Int), .int .u8 (c : Int)] w fun e w' => e = .returned (.int .i64 (untilV (untilE (txt s).b s.size c (s.size + 1) k))) ∧ w = w' := by
  obtain ⟨N, hN⟩ : ∃ N, untilE (txt s).b s.size c (s.size + 1) k = N := ⟨_, rfl⟩
  rw [hN]
  have hb : ∀ i (h : i < s.size), (s[i]'h).toNat = (txt s).b i := fun i h => by rw [get_bang]; rfl
  obtain ⟨b, hbb⟩ : ∃ b, (txt s).b = b := ⟨_, rfl⟩
  rw [hbb] at hN hb
  have HB := Lib.hid hb
  have HN := Lib.hid hN
  clear hb hN hbb
  go_enter Tryd.func126, Tryd.ntmps126
  go_wp2
  go_loopw [1] (fun x1 wx => ∃ a f : Nat, a ≤ s.size + 1 ∧ s.size < a + f ∧ x1 = .int .i64 (a : Int) ∧ untilE b s.size c f a = N ∧ w = wx) (fun x1 _ => s.size + 1 - (intOf x1).toNat)
  case atStart => exact ⟨k, s.size + 1, by omega, by omega, rfl, HN.out, rfl⟩
  case round =>
    obtain ⟨a, f, ha, hf, rfl, hrun, rfl⟩ := hrel
    by_cases hlt : a < s.size
    · obtain ⟨f, rfl⟩ : ∃ g, f = g + 1 := ⟨f - 1, by omega⟩
      rw [untilE, if_pos hlt] at hrun
      have g1 : (a : Int) < (s.size : Int) := by omega
      have g2 : decide ((a : Int) < (s.size : Int)) = true := decide_eq_true g1
      have hba := HB.out a hlt
      obtain ⟨d, hd⟩ : ∃ d, b a = d := ⟨_, rfl⟩
      rw [hd] at hrun hba
      by_cases h1 : d = c
      · rw [if_pos h1] at hrun
        subst hrun
        subst h1
        clear hd
        go_wp2
        go_ret
        exact ⟨rfl, rfl⟩
      · rw [if_neg h1] at hrun
        have p1 : ((d : Int) == (c : Int)) = false := by simpa using (by omega : ¬ (d : Int) = (c : Int))
        by_cases h2 : d = 92
        · rw [if_pos h2] at hrun
          have p2 : ((d : Int) == 92) = true := by simpa using (by omega : (d : Int) = 92)
          have HR := Lib.hid hrun
          clear hrun hd
          go_wp2
          go_roundw
          case rel => exact ⟨a + 2, f, by omega, by omega, by go_num, HR.out, trivial⟩
          case measure => simp [intOf]; omega
        · rw [if_neg h2] at hrun
          have p2 : ((d : Int) == 92) = false := by simpa using (by omega : ¬ (d : Int) = 92)
          have HR := Lib.hid hrun
          clear hrun hd
          go_wp2
          go_roundw
          case rel => exact ⟨a + 1, f, by omega, by omega, by go_num, HR.out, trivial⟩
          case measure => simp [intOf]; omega
    · have g1 : ¬ (a : Int) < (s.size : Int) := by omega
      have g2 : decide ((a : Int) < (s.size : Int)) = false := decide_eq_false g1
      have hN2 : N = none := by
        cases f with
        | zero => rw [untilE] at hrun; exact hrun.symm
        | succ f => rw [untilE, if_neg hlt] at hrun; exact hrun.symm
      subst hN2
      clear hrun
      go_wp2
      go_ret
      exact ⟨rfl, rfl⟩

/-- May a text be a name? -/
def nameB (b : Nat → Nat) (n : Nat) : Bool := decide (n ≠ 0 ∧ n ≤ 60 ∧ namedE b n = n)

set_option maxRecDepth 100000 in
theorem name_any (s : ByteArray) (hs : s.size ≤ 1000000) (w : World) : Calls Tryd.prog 31 #[.string s] w fun e w' => e = .returned (.tuple #[.bool (nameB (txt s).b s.size), .bool (nameB (txt s).b s.size && upperN ((txt s).b 0))]) ∧ w = w' := by
  have HNM := Lib.hid (named_any s hs w)
  unfold nameB
  by_cases h0 : s.size = 0
  · obtain rfl := empty_of h0
    rw [decide_eq_false (fun h => h.1 h0), Bool.false_and]
    clear h0 hs HNM
    go_enter Tryd.func31, Tryd.ntmps31
    go_wp2
    go_ret2
    exact ⟨rfl, rfl⟩
  · have n1 := some_of h0
    have h00 : 0 < s.size := by omega
    by_cases h6 : s.size ≤ 60
    · have d1 : ¬ (60 : Int) < (s.size : Int) := by omega
      have d2 : decide ((60 : Int) < (s.size : Int)) = false := decide_eq_false d1
      obtain ⟨N, hN⟩ : ∃ N, namedE (txt s).b s.size = N := ⟨_, rfl⟩
      rw [hN] at HNM ⊢
      by_cases hn : N = s.size
      · have hb0 : (s[0]'h00).toNat = (txt s).b 0 := by rw [get_bang]; rfl
        have HU := Lib.hid (upper_any ((txt s).b 0) w)
        rw [decide_eq_true ⟨h0, h6, hn⟩, Bool.true_and]
        obtain ⟨c, hc⟩ : ∃ c, (txt s).b 0 = c := ⟨_, rfl⟩
        rw [hc] at hb0 HU ⊢
        have e1 : ((N : Int) != (s.size : Int)) = false := by simpa using (by omega : (N : Int) = (s.size : Int))
        subst hn
        clear hN hc
        go_enter Tryd.func31, Tryd.ntmps31
        go_wp2_with (first
          | (go_at_call 55; refine HNM.out.mono ?_; rintro e w' ⟨rfl, rfl⟩)
          | (go_at_call 56; refine HU.out.mono ?_; rintro e w' ⟨rfl, rfl⟩))
        go_ret2
        exact ⟨rfl, rfl⟩
      · rw [decide_eq_false (fun h => hn h.2.2), Bool.false_and]
        have e1 : ((N : Int) != (s.size : Int)) = true := by simpa using (by omega : ¬ (N : Int) = (s.size : Int))
        clear hN
        go_enter Tryd.func31, Tryd.ntmps31
        go_wp2_with (go_at_call 55; refine HNM.out.mono ?_; rintro e w' ⟨rfl, rfl⟩)
        go_ret2
        exact ⟨rfl, rfl⟩
    · have d1 : (60 : Int) < (s.size : Int) := by omega
      have d2 : decide ((60 : Int) < (s.size : Int)) = true := decide_eq_true d1
      rw [decide_eq_false (fun h => h6 h.2.1), Bool.false_and]
      clear HNM
      go_enter Tryd.func31, Tryd.ntmps31
      go_wp2
      go_ret2
      exact ⟨rfl, rfl⟩

/-! The document's own words. -/
theorem rletter_any (c : Nat) (w : World) : Calls Tryd.prog 57 #[.int .u8 (c : Int)] w fun e w' => e = .returned (.bool (letterN c)) ∧ w = w' := by
  unfold letterN upperN
  by_cases h1 : 97 ≤ c
  · have d1 : (97 : Int) ≤ (c : Int) := by omega
    have e1 : decide ((97 : Int) ≤ (c : Int)) = true := decide_eq_true d1
    by_cases h2 : c ≤ 122
    · have d2 : (c : Int) ≤ 122 := by omega
      have e2 : decide ((c : Int) ≤ 122) = true := decide_eq_true d2
      rw [decide_eq_true ⟨h1, h2⟩, Bool.true_or]
      go_enter Tryd.func57, Tryd.ntmps57
      go_wp2
      go_ret
      exact ⟨rfl, rfl⟩
    · have d2 : ¬ (c : Int) ≤ 122 := by omega
      have e2 : decide ((c : Int) ≤ 122) = false := decide_eq_false d2
      have d3 : (65 : Int) ≤ (c : Int) := by omega
      have e3 : decide ((65 : Int) ≤ (c : Int)) = true := decide_eq_true d3
      have d4 : ¬ (c : Int) ≤ 90 := by omega
      have e4 : decide ((c : Int) ≤ 90) = false := decide_eq_false d4
      rw [decide_eq_false (fun h => h2 h.2), Bool.false_or, decide_eq_false (by omega)]
      go_enter Tryd.func57, Tryd.ntmps57
      go_wp2
      go_ret
      exact ⟨rfl, rfl⟩
  · have d1 : ¬ (97 : Int) ≤ (c : Int) := by omega
    have e1 : decide ((97 : Int) ≤ (c : Int)) = false := decide_eq_false d1
    rw [decide_eq_false (fun h => h1 h.1), Bool.false_or]
    by_cases h3 : 65 ≤ c
    · have d3 : (65 : Int) ≤ (c : Int) := by omega
      have e3 : decide ((65 : Int) ≤ (c : Int)) = true := decide_eq_true d3
      by_cases h4 : c ≤ 90
      · have d4 : (c : Int) ≤ 90 := by omega
        have e4 : decide ((c : Int) ≤ 90) = true := decide_eq_true d4
        rw [decide_eq_true ⟨h3, h4⟩]
        go_enter Tryd.func57, Tryd.ntmps57
        go_wp2
        go_ret
        exact ⟨rfl, rfl⟩
      · have d4 : ¬ (c : Int) ≤ 90 := by omega
        have e4 : decide ((c : Int) ≤ 90) = false := decide_eq_false d4
        rw [decide_eq_false (fun h => h4 h.2)]
        go_enter Tryd.func57, Tryd.ntmps57
        go_wp2
        go_ret
        exact ⟨rfl, rfl⟩
    · have d3 : ¬ (65 : Int) ≤ (c : Int) := by omega
      have e3 : decide ((65 : Int) ≤ (c : Int)) = false := decide_eq_false d3
      rw [decide_eq_false (fun h => h3 h.1)]
      go_enter Tryd.func57, Tryd.ntmps57
      go_wp2
      go_ret
      exact ⟨rfl, rfl⟩

theorem rpart_any (c : Nat) (w : World) : Calls Tryd.prog 58 #[.int .u8 (c : Int)] w fun e w' => e = .returned (.bool (partN c)) ∧ w = w' := by
  unfold partN
  have HL := Lib.hid (rletter_any c w)
  cases hl : letterN c with
  | true =>
    rw [hl] at HL
    rw [Bool.true_or, Bool.true_or]
    go_enter Tryd.func58, Tryd.ntmps58
    go_wp2_with (go_at_call 57; refine HL.out.mono ?_; rintro e w' ⟨rfl, rfl⟩)
    go_ret
    exact ⟨rfl, rfl⟩
  | false =>
    rw [hl] at HL
    rw [Bool.false_or]
    by_cases k1 : 48 ≤ c
    · have d1 : (48 : Int) ≤ (c : Int) := by omega
      have e1 : decide ((48 : Int) ≤ (c : Int)) = true := decide_eq_true d1
      by_cases k2 : c ≤ 57
      · have d2 : (c : Int) ≤ 57 := by omega
        have e2 : decide ((c : Int) ≤ 57) = true := decide_eq_true d2
        rw [decide_eq_true ⟨k1, k2⟩, Bool.true_or]
        go_enter Tryd.func58, Tryd.ntmps58
        go_wp2_with (go_at_call 57; refine HL.out.mono ?_; rintro e w' ⟨rfl, rfl⟩)
        go_ret
        exact ⟨rfl, rfl⟩
      · have d2 : ¬ (c : Int) ≤ 57 := by omega
        have e2 : decide ((c : Int) ≤ 57) = false := decide_eq_false d2
        rw [decide_eq_false (fun h => k2 h.2), Bool.false_or]
        by_cases k3 : c = 95
        · subst k3
          rw [decide_eq_true rfl]
          go_enter Tryd.func58, Tryd.ntmps58
          go_wp2_with (go_at_call 57; refine HL.out.mono ?_; rintro e w' ⟨rfl, rfl⟩)
          go_ret
          exact ⟨rfl, rfl⟩
        · have d3 : ((c : Int) == 95) = false := by simpa using (by omega : ¬ (c : Int) = 95)
          rw [decide_eq_false k3]
          go_enter Tryd.func58, Tryd.ntmps58
          go_wp2_with (go_at_call 57; refine HL.out.mono ?_; rintro e w' ⟨rfl, rfl⟩)
          go_ret
          exact ⟨rfl, rfl⟩
    · have d1 : ¬ (48 : Int) ≤ (c : Int) := by omega
      have e1 : decide ((48 : Int) ≤ (c : Int)) = false := decide_eq_false d1
      have d3 : ((c : Int) == 95) = false := by simpa using (by omega : ¬ (c : Int) = 95)
      rw [decide_eq_false (fun h => k1 h.1), Bool.false_or, decide_eq_false (by omega)]
      go_enter Tryd.func58, Tryd.ntmps58
      go_wp2_with (go_at_call 57; refine HL.out.mono ?_; rintro e w' ⟨rfl, rfl⟩)
      go_ret
      exact ⟨rfl, rfl⟩

theorem runP_all (b : Nat → Nat) (n : Nat) : ∀ f i, i ≤ n → n ≤ i + f → (runP b n f i = n ↔ ∀ j, i ≤ j → j < n → partN (b j) = true)
  | 0, i, h, h2 => by
    rw [runP]
    exact ⟨fun _ j h3 h4 => by omega, fun _ => by omega⟩
  | f + 1, i, h, h2 => by
    rw [runP]
    by_cases hc : i < n ∧ partN (b i) = true
    · rw [if_pos hc, runP_all b n f (i + 1) (by omega) (by omega)]
      exact ⟨fun hh j h3 h4 => if e : j = i then e ▸ hc.2 else hh j (by omega) h4, fun hh j h3 h4 => hh j (by omega) h4⟩
    · rw [if_neg hc]
      exact ⟨fun e j h3 h4 => by omega, fun hh => if e : i = n then e else absurd ⟨by omega, hh i (Nat.le_refl _) (by omega)⟩ hc⟩
theorem letter_part {c : Nat} (h : letterN c = true) : partN c = true := by unfold partN; rw [h]; rfl
theorem nameB_is (b : Nat → Nat) (n : Nat) : nameB b n = true ↔ n ≠ 0 ∧ n ≤ 60 ∧ letterN (b 0) = true ∧ ∀ j, j < n → partN (b j) = true := by
  unfold nameB
  rw [decide_eq_true_iff]
  constructor
  · rintro ⟨h1, h2, h3⟩
    unfold namedE at h3
    rw [if_neg h1] at h3
    split at h3
    · rename_i hl
      refine ⟨h1, h2, hl, fun j hj => ?_⟩
      by_cases e : j = 0
      · subst e; exact letter_part hl
      · exact (runP_all b n n 1 (by omega) (by omega)).1 h3 j (by omega) hj
    · exact absurd h3.symm h1
  · rintro ⟨h1, h2, h3, h4⟩
    refine ⟨h1, h2, ?_⟩
    unfold namedE
    rw [if_neg h1, if_pos h3]
    exact (runP_all b n n 1 (by omega) (by omega)).2 fun j _ hj => h4 j hj

set_option maxRecDepth 100000 in
theorem rname_any (s : ByteArray) (w : World) : Calls Tryd.prog 32 #[.string s] w fun e w' => e = .returned (.bool (nameB (txt s).b s.size)) ∧ w = w' := by
  by_cases h0 : s.size = 0
  · obtain rfl := empty_of h0
    have e : nameB (txt ⟨#[]⟩).b (⟨#[]⟩ : ByteArray).size = false := by
      unfold nameB
      exact decide_eq_false (fun h => h.1 h0)
    rw [e]
    clear h0 e
    go_enter Tryd.func32, Tryd.ntmps32
    go_wp2
    go_ret
    exact ⟨rfl, rfl⟩
  · have n1 := some_of h0
    have h00 : 0 < s.size := by omega
    by_cases h6 : s.size ≤ 60
    · have d1 : ¬ (60 : Int) < (s.size : Int) := by omega
      have d2 : decide ((60 : Int) < (s.size : Int)) = false := decide_eq_false d1
      have hb : ∀ i (h : i < s.size), (s[i]'h).toNat = (txt s).b i := fun i h => by rw [get_bang]; rfl
      obtain ⟨t, ht⟩ : ∃ t, nameB (txt s).b s.size = t := ⟨_, rfl⟩
      rw [ht]
      have his := nameB_is (txt s).b s.size
      rw [ht] at his
      obtain ⟨b, hbb⟩ : ∃ b, (txt s).b = b := ⟨_, rfl⟩
      rw [hbb] at his hb
      have hb0 := hb 0 h00
      have HB := Lib.hid hb
      have HI := Lib.hid his
      have HL := Lib.hid (rletter_any (b 0) w)
      clear hb his hbb ht
      cases hl : letterN (b 0) with
      | false =>
        rw [hl] at HL
        have ht : t = false := by
          cases t with
          | false => rfl
          | true => have := (HI.out.1 rfl).2.2.1; rw [hl] at this; cases this
        subst ht
        go_enter Tryd.func32, Tryd.ntmps32
        go_wp2_with (go_at_call 57; refine HL.out.mono ?_; rintro e w' ⟨rfl, rfl⟩)
        go_ret
        exact ⟨rfl, rfl⟩
      | true =>
        rw [hl] at HL
        have HLT := Lib.hid hl
        clear hl
        go_enter Tryd.func32, Tryd.ntmps32
        go_wp2_with (go_at_call 57; refine HL.out.mono ?_; rintro e w' ⟨rfl, rfl⟩)
        go_loopw [3] (fun x3 wx => ∃ i : Nat, i ≤ s.size ∧ x3 = .int .i64 (i : Int) ∧ (∀ j, j < i → partN (b j) = true) ∧ w = wx) (fun x3 _ => s.size - (intOf x3).toNat)
        case atStart => exact ⟨0, by omega, rfl, (fun j h => by omega), rfl⟩
        case round =>
          obtain ⟨i, hi, rfl, hall, rfl⟩ := hrel
          have HA := Lib.hid hall
          clear hall
          by_cases hlt : i < s.size
          · have g1 : (i : Int) < (s.size : Int) := by omega
            have g2 : decide ((i : Int) < (s.size : Int)) = true := decide_eq_true g1
            have hbi := HB.out i hlt
            have HP := Lib.hid (rpart_any (b i) w)
            cases hp : partN (b i) with
            | true =>
              rw [hp] at HP
              have HA2 : Hid (∀ j, j < i + 1 → partN (b j) = true) := Lib.hid fun j hj => if e : j = i then e ▸ hp else HA.out j (by omega)
              clear hp
              go_wp2_with (go_at_call 58; refine HP.out.mono ?_; rintro e w' ⟨rfl, rfl⟩)
              go_roundw
              case rel => exact ⟨i + 1, by omega, by go_num, HA2.out, trivial⟩
              case measure => simp [intOf]; omega
            | false =>
              rw [hp] at HP
              have ht : t = false := by
                cases t with
                | false => rfl
                | true => have := (HI.out.1 rfl).2.2.2 i hlt; rw [hp] at this; cases this
              subst ht
              clear hp
              go_wp2_with (go_at_call 58; refine HP.out.mono ?_; rintro e w' ⟨rfl, rfl⟩)
              go_ret
              exact ⟨rfl, rfl⟩
          · have g1 : ¬ (i : Int) < (s.size : Int) := by omega
            have g2 : decide ((i : Int) < (s.size : Int)) = false := decide_eq_false g1
            have ht : t = true := HI.out.2 ⟨h0, h6, HLT.out, fun j hj => HA.out j (by omega)⟩
            subst ht
            go_wp2
            go_ret
            exact ⟨rfl, rfl⟩
    · have d1 : (60 : Int) < (s.size : Int) := by omega
      have d2 : decide ((60 : Int) < (s.size : Int)) = true := decide_eq_true d1
      have e : nameB (txt s).b s.size = false := by
        unfold nameB
        exact decide_eq_false (fun h => h6 h.2.1)
      rw [e]
      clear e
      go_enter Tryd.func32, Tryd.ntmps32
      go_wp2
      go_ret
      exact ⟨rfl, rfl⟩

end Go.Proofs.YtfjlhfalnciamaaDoor.Lex

namespace Go.Proofs.YtfjlhfalnciamaaDoor.Lex
open Go Go.RowKit Go.Proofs.Chars
open Go.Proofs.YtfjlhfalnciamaaDoor.Utf Go.Proofs.YtfjlhfalnciamaaDoor.Chars

def tokV (k : Int) (a e : Nat) (t : ByteArray) (v : Value) : Value := .agg #[.int .i64 k, .int .i64 (a : Int), .int .i64 (e : Int), .string t, v]
/-- What begins at a place: what is wrong, or of which kind, up to where, with what text and what set. -/
inductive Nx where
  | bad (c : Int) (p : Nat) : Nx
  | tok (k : Int) (e : Nat) (t : ByteArray) (g : Option (List Rg)) : Nx
def SetIs (W w' : World) : Option (List Rg) → Value → Prop
  | none, v => v = .slice none 0 0
  | some l, v => ∃ O, Rowed w' W.heap.size v O ∧ IsOf l O ∧ O.length ≤ l.length
def NextP (W : World) (a : Nat) (o : Nx) (e : Ending) (w' : World) : Prop :=
  match o with
  | .bad c p => e = .returned (.tuple #[tokV 0 0 0 ⟨#[]⟩ (.slice none 0 0), stopV c p]) ∧ Below W.heap.size W w'
  | .tok k z t g => ∃ v, e = .returned (.tuple #[tokV k a z t v, stopV 0 0]) ∧ SetIs W w' g v ∧ Below W.heap.size W w'
abbrev T0 : Obj := .cells #[.int .i64 0, .int .i64 0, .int .i64 0, .string ⟨#[]⟩, .slice none 0 0] 62
abbrev S0 : Obj := .cells #[.int .i64 0, .int .i64 0] 48

def nameX (s : ByteArray) (a : Nat) : Nx :=
  let m := namedE (txt (s.extract a s.size)).b (s.extract a s.size).size
  if 60 < m then .bad 3 a else .tok (if upperN ((txt s).b a) = true then 1 else 2) (a + m) (s.extract a (a + m)) none
theorem two_allocs (W : World) (o p : Obj) : Below W.heap.size W ((W.alloc o).alloc p) := ((Below.refl _ W).alloc (Nat.le_refl _) o).alloc (by simp) p

set_option maxHeartbeats 4000000 in
set_option maxRecDepth 100000 in
theorem nameX_any (s : ByteArray) (hs : s.size ≤ 1000000) (a : Nat) (ha : a < s.size) (W : World) : Calls Tryd.prog 89 #[.string s, .int .i64 (a : Int)] W fun e w' => NextP W a (nameX s a) e w' := by
  have hsz : (s.extract a s.size).size = s.size - a := ext_size s (Nat.le_refl _)
  have hin := namedE_in (txt (s.extract a s.size)).b (s.extract a s.size).size
  have HNM := Lib.hid (fun w => named_any (s.extract a s.size) (by omega) w)
  unfold nameX
  obtain ⟨m, hm⟩ : ∃ m, namedE (txt (s.extract a s.size)).b (s.extract a s.size).size = m := ⟨_, rfl⟩
  rw [hm] at HNM hin ⊢
  rw [hsz] at hin
  have HTA := Lib.hid (two_allocs W)
  have g0 : (0 : Int) ≤ (a : Int) := by omega
  have g1 : (a : Int) ≤ (s.size : Int) := by omega
  have g2 : (a : Int) < (s.size : Int) := by omega
  clear hm hsz
  by_cases h6 : 60 < m
  · have d1 : (60 : Int) < (m : Int) := by omega
    have d2 : decide ((60 : Int) < (m : Int)) = true := decide_eq_true d1
    simp only []
    rw [if_pos h6]
    go_enter Tryd.func89, Tryd.ntmps89
    go_wp2_with (go_at_call 55; refine (HNM.out _).mono ?_; rintro e w' ⟨rfl, rfl⟩)
    refine bodyPost_ret (v := .tuple #[tokV 0 0 0 ⟨#[]⟩ (.slice none 0 0), stopV 3 a]) (by simp [results, Tryd.results89, go_sem, tokV, stopV]) rfl ?_
    exact ⟨rfl, HTA.out _ _⟩
  · have d1 : ¬ (60 : Int) < (m : Int) := by omega
    have d2 : decide ((60 : Int) < (m : Int)) = false := decide_eq_false d1
    simp only []
    rw [if_neg h6]
    have hba : (s[a]'ha).toNat = (txt s).b a := by rw [get_bang]; rfl
    have HU := Lib.hid (fun w => upper_any ((txt s).b a) w)
    obtain ⟨c, hc⟩ : ∃ c, (txt s).b a = c := ⟨_, rfl⟩
    rw [hc] at hba HU ⊢
    obtain ⟨z, hz⟩ : ∃ z, a + m = z := ⟨_, rfl⟩
    have e1 : (a : Int) + (m : Int) = (z : Int) := by omega
    have e0 : IntKind.i64.wrap ((a : Int) + (m : Int)) = (z : Int) := by rw [e1]; exact IntWalk.i64_in _ (by omega)
    have g3 : (a : Int) ≤ (z : Int) := by omega
    have g4 : (z : Int) ≤ (s.size : Int) := by omega
    have g5 : (0 : Int) ≤ (z : Int) := by omega
    rw [hz]
    clear hc hz hin
    cases hu : upperN c with
    | true =>
      rw [hu] at HU
      rw [if_pos rfl]
      go_enter Tryd.func89, Tryd.ntmps89
      go_wp2_with (first
        | (go_at_call 55; refine (HNM.out _).mono ?_; rintro e w' ⟨rfl, rfl⟩)
        | (go_at_call 56; refine (HU.out _).mono ?_; rintro e w' ⟨rfl, rfl⟩))
      refine bodyPost_ret (v := .tuple #[tokV 1 a z (s.extract a z) (.slice none 0 0), stopV 0 0]) (by simp [results, Tryd.results89, go_sem, tokV, stopV]) rfl ?_
      exact ⟨_, rfl, rfl, HTA.out _ _⟩
    | false =>
      rw [hu] at HU
      rw [if_neg (by simp)]
      go_enter Tryd.func89, Tryd.ntmps89
      go_wp2_with (first
        | (go_at_call 55; refine (HNM.out _).mono ?_; rintro e w' ⟨rfl, rfl⟩)
        | (go_at_call 56; refine (HU.out _).mono ?_; rintro e w' ⟨rfl, rfl⟩))
      refine bodyPost_ret (v := .tuple #[tokV 2 a z (s.extract a z) (.slice none 0 0), stopV 0 0]) (by simp [results, Tryd.results89, go_sem, tokV, stopV]) rfl ?_
      exact ⟨_, rfl, rfl, HTA.out _ _⟩

def classX (s : ByteArray) (a : Nat) : Nx :=
  match untilE (txt s).b s.size 93 (s.size + 1) (a + 1) with
  | none => .bad 10 a
  | some e =>
    match readE (s.extract (a + 1) e) with
    | .bad c k => .bad c (a + 1 + k)
    | .good l => .tok 4 (e + 1) ⟨#[]⟩ (some l)
theorem tok_blocks {W wx : World} (hB : Below (W.heap.size + 2) ((W.alloc T0).alloc S0) wx) : wx.heap[W.heap.size]? = some (.cells #[.int .i64 0, .int .i64 0, .int .i64 0, .string ⟨#[]⟩, .slice none 0 0] 62 (0, 0)) ∧ wx.heap[W.heap.size + 1]? = some (.cells #[.int .i64 0, .int .i64 0] 48 (0, 0)) := by
  refine ⟨(hB.block _ (by omega)).trans ?_, (hB.block _ (by omega)).trans ?_⟩
  · exact ((MapKept.heap_alloc (W.alloc T0) S0).2 _ (by simp)).trans (heap_alloc_new W _)
  · have h := (MapKept.heap_alloc (W.alloc T0) S0).1
    rw [show (W.alloc T0).heap.size = W.heap.size + 1 by simp] at h
    exact h

end Go.Proofs.YtfjlhfalnciamaaDoor.Lex
