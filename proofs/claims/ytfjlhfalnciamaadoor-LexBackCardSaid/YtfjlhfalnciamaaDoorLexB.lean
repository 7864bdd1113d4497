/- Blanks (package lex), walked. -/
import Derived.Test.YtfjlhfalnciamaaDoorLexA
import Derived.Scope
import Derived.WalkMore
import Derived.ScopeJumps
namespace Go.Proofs.YtfjlhfalnciamaaDoor.Lex
open Go Go.RowKit Go.Proofs.Chars
open Go.Proofs.YtfjlhfalnciamaaDoor.Utf Go.Proofs.YtfjlhfalnciamaaDoor.Chars

def wsN (c : Nat) : Bool := decide (c = 9 ∨ c = 10 ∨ c = 13 ∨ c = 32)
/-- The end of a line: the first place, from one on, at which it ends. -/
def lineE (b : Nat → Nat) (n : Nat) : Nat → Nat → Nat
  | 0, a => a
  | f + 1, a => if a < n ∧ b a ≠ 10 then lineE b n f (a + 1) else a
/-- The first place, from one on, that is not blank. -/
def blankE (b : Nat → Nat) (n : Nat) : Nat → Nat → Nat
  | 0, a => a
  | f + 1, a => if a < n ∧ wsN (b a) = true then blankE b n f (a + 1) else if a + 1 < n ∧ b a = 47 ∧ b (a + 1) = 47 then blankE b n f (lineE b n n a) else a
theorem lineE_in (b : Nat → Nat) (n : Nat) : ∀ f a, a ≤ n → a ≤ lineE b n f a ∧ lineE b n f a ≤ n
  | 0, a, h => ⟨Nat.le_refl _, h⟩
  | f + 1, a, h => by
    rw [lineE]
    split
    · have := lineE_in b n f (a + 1) (by omega)
      exact ⟨by omega, this.2⟩
    · exact ⟨Nat.le_refl _, h⟩
theorem blankE_in (b : Nat → Nat) (n : Nat) : ∀ f a, a ≤ n → a ≤ blankE b n f a ∧ blankE b n f a ≤ n
  | 0, a, h => ⟨Nat.le_refl _, h⟩
  | f + 1, a, h => by
    rw [blankE]
    split
    · have := blankE_in b n f (a + 1) (by omega)
      exact ⟨by omega, this.2⟩
    · split
      · have h1 := lineE_in b n n a h
        have := blankE_in b n f _ h1.2
        exact ⟨by omega, this.2⟩
      · exact ⟨Nat.le_refl _, h⟩
def wsI (c : Nat) : Int := Lib.indexByte [9, 10, 13, 32] c.toUInt8
theorem wsI_is : ∀ c : Fin 256, decide (0 ≤ wsI c.val) = wsN c.val := by decide +kernel
theorem ws_any (c : Nat) (w : World) : Calls Tryd.prog 87 #[.string ⟨#[9, 10, 13, 32]⟩, .int .u8 (c : Int)] w fun e w' => e = .returned (.int .i64 (wsI c)) ∧ w = w' :=
  (Tryd.strings_IndexByte ⟨#[9, 10, 13, 32]⟩ (c : Int) w).mono fun _ _ h => ⟨h.1, h.2.symm⟩
/-- A text of two bytes stands at a place. -/
theorem pre_two (s : ByteArray) (k : Nat) (x y : UInt8) : Lib.hasPrefix (s.extract k s.size).data.toList [x, y] = decide (k + 1 < s.size ∧ (txt s).b k = x.toNat ∧ (txt s).b (k + 1) = y.toNat) := by
  have hl : (s.extract k s.size).data.toList = s.data.toList.drop k := by
    rw [ByteArray.data_extract, Array.toList_extract, List.extract_eq_take_drop]
    exact List.take_of_length_le (by rw [List.length_drop, ← Lib.size_eq]; exact Nat.le_refl _)
  rw [hl]
  have hb : ∀ i, i < s.size → s.data.toList[i]? = some (s.get! i) := fun i h => by
    rw [← Lib.getD_get!', List.getD_eq_getElem?_getD]
    cases e : s.data.toList[i]? with
    | none => rw [List.getElem?_eq_none_iff, ← Lib.size_eq] at e; omega
    | some x => rfl
  have hsz := Lib.size_eq s
  unfold Lib.hasPrefix
  by_cases h1 : k + 1 < s.size
  · have e0 := hb k (by omega)
    have e1 := hb (k + 1) h1
    have ed : s.data.toList.drop k = s.get! k :: s.get! (k + 1) :: s.data.toList.drop (k + 2) := by
      rw [List.drop_eq_getElem_cons (by omega), List.drop_eq_getElem_cons (i := k + 1) (by omega)]
      rw [List.getElem?_eq_some_iff] at e0 e1
      rw [e0.2, e1.2]
    rw [ed]
    have b0 : (txt s).b k = (s.get! k).toNat := rfl
    have b1 : (txt s).b (k + 1) = (s.get! (k + 1)).toNat := rfl
    rw [b0, b1]
    simp only [List.isPrefixOf, Bool.and_true]
    by_cases hx : x = s.get! k
    · by_cases hy : y = s.get! (k + 1)
      · subst hx; subst hy; simp [h1]
      · have : (y == s.get! (k + 1)) = false := by simpa using hy
        rw [this, Bool.and_false]
        symm
        rw [decide_eq_false_iff_not]
        rintro ⟨_, _, h⟩
        exact hy (UInt8.toNat_inj.1 h.symm)
    · have : (x == s.get! k) = false := by simpa using hx
      rw [this, Bool.false_and]
      symm
      rw [decide_eq_false_iff_not]
      rintro ⟨_, h, _⟩
      exact hx (UInt8.toNat_inj.1 h.symm)
  · have hlen : (s.data.toList.drop k).length < 2 := by rw [List.length_drop, ← hsz]; omega
    rw [decide_eq_false (fun h => h1 h.1)]
    cases hd : s.data.toList.drop k with
    | nil => rfl
    | cons p l =>
      cases l with
      | nil => simp [List.isPrefixOf]
      | cons q l => rw [hd] at hlen; simp only [List.length_cons] at hlen; omega
theorem two_any (s : ByteArray) (k : Nat) (x y : UInt8) (w : World) : Calls Tryd.prog 88 #[.string (s.extract k s.size), .string ⟨#[x, y]⟩] w fun e w' => e = .returned (.bool (decide (k + 1 < s.size ∧ (txt s).b k = x.toNat ∧ (txt s).b (k + 1) = y.toNat))) ∧ w = w' := by
  rw [← pre_two]
  exact (Tryd.strings_HasPrefix (s.extract k s.size) ⟨#[x, y]⟩ w).mono fun _ _ h => ⟨h.1, h.2.symm⟩

/-- What holds whenever the scan begins anew, and what every pass lowers. -/
def JB (s : ByteArray) (b : Nat → Nat) (N : Nat) (w : World) (a' : Act) (w' : World) : Prop :=
  w = w' ∧ ∃ (a f : Nat) (u5 u6 u7 u8 u9 u10 u11 u12 u13 u14 u15 u16 u17 u18 u19 u20 u21 u22 u23 u24 u25 u26 u27 u28 u29 u30 u31 u32 u33 u34 : Value), a' = { tmps := #[.string s, .int .i64 (a : Int), undef, undef, .int .i64 0, u5, u6, u7, u8, u9, u10, u11, u12, u13, u14, u15, u16, u17, u18, u19, u20, u21, u22, u23, u24, u25, u26, u27, u28, u29, u30, u31, u32, u33, u34], defers := [] } ∧ a ≤ s.size ∧ s.size < a + f ∧ blankE b s.size f a = N
def MB (s : ByteArray) (a' : Act) : Nat := s.size - (intOf (a'.tmps.getD 1 undef)).toNat
/-- What the code runs from the label on. -/
def restOf : Option Code → Code
  | some (.seq _ (.scope (.seq _ x))) => x
  | _ => .skip
theorem lineE_past {b : Nat → Nat} {n f a : Nat} (h : a < n) (h2 : b a ≠ 10) (hf : 0 < f) : a < lineE b n f a := by
  obtain ⟨f, rfl⟩ : ∃ g, f = g + 1 := ⟨f - 1, by omega⟩
  rw [lineE, if_pos ⟨h, h2⟩]
  have := (lineE_in b n f (a + 1) (by omega)).1
  omega

set_option maxRecDepth 100000 in
set_option maxHeartbeats 4000000 in
theorem blank_any (s : ByteArray) (hs : s.size ≤ 1000000) (k : Nat) (hk : k ≤ s.size) (w : World) : Calls Tryd.prog 60 #[.string s, .int .i64 (k : Int)] w fun e w' => e = .returned (.int .i64 (blankE (txt s).b s.size (s.size + 1) k : Nat)) ∧ w = w' := by
  obtain ⟨N, hN⟩ : ∃ N, blankE (txt s).b s.size (s.size + 1) k = N := ⟨_, rfl⟩
  rw [hN]
  have hb : ∀ i (h : i < s.size), (s[i]'h).toNat = (txt s).b i := fun i h => by rw [get_bang]; rfl
  have hbl : ∀ i, (txt s).b i < 256 := fun i => UInt8.toNat_lt _
  have HT := Lib.hid (fun k => two_any s k 47 47 w)
  obtain ⟨b, hbb⟩ : ∃ b, (txt s).b = b := ⟨_, rfl⟩
  rw [hbb] at hN hb HT hbl
  have HB := Lib.hid hb
  have HBL := Lib.hid hbl
  have HN := Lib.hid hN
  clear hb hN hbb hbl
  go_enter Tryd.func60, Tryd.ntmps60
  go_wp2
  rename_i Qo
  have key : ∀ a' w', JB s b N w a' w' → Code.wp Tryd.prog (restOf Tryd.f60.body) (Exit.jump 0 (fun a'' w'' => JB s b N w a'' w'' ∧ MB s a'' < MB s a') Qo) a' w' := by
    rintro a' w' ⟨rfl, a, f, u5, u6, u7, u8, u9, u10, u11, u12, u13, u14, u15, u16, u17, u18, u19, u20, u21, u22, u23, u24, u25, u26, u27, u28, u29, u30, u31, u32, u33, u34, rfl, ha, hf, hrun⟩
    unfold restOf Tryd.f60
    dsimp only
    have HR := Lib.hid hrun
    have HW := Lib.hid (fun c => ws_any c w)
    clear hrun
    have gb : (a : Int) ≤ (s.size : Int) := by omega
    have gb0 : (0 : Int) ≤ (a : Int) := by omega
    obtain ⟨f, rfl⟩ : ∃ g, f = g + 1 := ⟨f - 1, by omega⟩
    have hgo := HR.out
    rw [blankE] at hgo
    by_cases hlt : a < s.size
    · have g1 : (a : Int) < (s.size : Int) := by omega
      have g2 : decide ((a : Int) < (s.size : Int)) = true := decide_eq_true g1
      have hba := HB.out a hlt
      have hwi := wsI_is ⟨b a, HBL.out a⟩
      obtain ⟨c, hc⟩ : ∃ c, b a = c := ⟨_, rfl⟩
      have HT1 := Lib.hid (HT.out a)
      rw [hc] at HT1
      rw [hc] at hgo hba
      simp only [hc] at hwi
      have HWc := Lib.hid (HW.out c)
      obtain ⟨z, hz⟩ : ∃ z, wsI c = z := ⟨_, rfl⟩
      rw [hz] at hwi HWc
      cases hw : wsN c with
      | true =>
        rw [hw] at hwi
        have hz0 := of_decide_eq_true hwi
        rw [if_pos ⟨hlt, hw⟩] at hgo
        have HG := Lib.hid hgo
        clear hgo HR HT HT1 hz hw HW
        go_wp2_with (go_at_call 87; refine HWc.out.mono ?_; rintro e w' ⟨rfl, rfl⟩)
        go_step3
        refine ⟨rfl, ⟨rfl, a + 1, f, _, _, _, _, _, _, _, _, _, _, _, _, _, _, _, _, _, _, _, _, _, _, _, _, _, _, _, _, _, _, by go_num, by omega, by omega, HG.out⟩, ?_⟩
        simp [MB, intOf]
        omega
      | false =>
        rw [hw] at hwi
        have hz0 := of_decide_eq_false hwi
        rw [if_neg (by rw [hw]; simp)] at hgo
        by_cases ht : a + 1 < s.size ∧ c = 47 ∧ b (a + 1) = 47
        · rw [if_pos ht] at hgo
          have hne : b a ≠ 10 := by rw [hc]; omega
          have hline := lineE_past (f := s.size) hlt hne (by omega)
          have hlin2 := (lineE_in b s.size s.size a ha).2
          obtain ⟨L, hL⟩ : ∃ L, lineE b s.size s.size a = L := ⟨_, rfl⟩
          rw [hL] at hgo hline hlin2
          have HG := Lib.hid hgo
          have HL := Lib.hid hL
          have ht2 : decide (a + 1 < s.size ∧ c = UInt8.toNat 47 ∧ b (a + 1) = UInt8.toNat 47) = true := decide_eq_true ht
          rw [ht2] at HT1
          clear hgo HR HT hz hw HW hne hL ht ht2 hc
          go_wp2_with (first
            | (go_at_call 87; refine HWc.out.mono ?_; rintro e w' ⟨rfl, rfl⟩)
            | (go_at_call 88; refine HT1.out.mono ?_; rintro e w' ⟨rfl, rfl⟩))
          go_loopw [1] (fun x1 wx => ∃ j g : Nat, a ≤ j ∧ j ≤ s.size ∧ s.size ≤ j + g ∧ x1 = .int .i64 (j : Int) ∧ lineE b s.size g j = L ∧ w = wx) (fun x1 _ => s.size - (intOf x1).toNat)
          case atStart => exact ⟨a, s.size, Nat.le_refl _, ha, by omega, rfl, HL.out, rfl⟩
          case round =>
            obtain ⟨j, g, hj1, hj2, hj3, rfl, hjl, rfl⟩ := hrel
            have HJ := Lib.hid hjl
            clear hjl
            by_cases hjs : j < s.size
            · have q1 : (j : Int) < (s.size : Int) := by omega
              have q2 : decide ((j : Int) < (s.size : Int)) = true := decide_eq_true q1
              have hbj := HB.out j hjs
              obtain ⟨g, rfl⟩ : ∃ q, g = q + 1 := ⟨g - 1, by omega⟩
              have hjl := HJ.out
              rw [lineE] at hjl
              obtain ⟨c', hc'⟩ : ∃ c', b j = c' := ⟨_, rfl⟩
              rw [hc'] at hjl hbj
              by_cases h10 : c' = 10
              · rw [if_neg (by omega)] at hjl
                subst hjl
                have p1 : ((c' : Int) != 10) = false := by simpa using (by omega : (c' : Int) = 10)
                clear hc' HJ
                go_wp2_with fail
                go_step3
                refine ⟨rfl, ⟨rfl, j, f, _, _, _, _, _, _, _, _, _, _, _, _, _, _, _, _, _, _, _, _, _, _, _, _, _, _, _, _, _, _, rfl, by omega, by omega, HG.out⟩, ?_⟩
                simp [MB, intOf]
                omega
              · rw [if_pos ⟨hjs, h10⟩] at hjl
                have p1 : ((c' : Int) != 10) = true := by simpa using (by omega : ¬ (c' : Int) = 10)
                have HJ := Lib.hid hjl
                clear hc' hjl
                go_wp2_with fail
                go_roundw
                case rel => exact ⟨j + 1, g, by omega, by omega, by omega, by go_num, HJ.out, trivial⟩
                case measure => simp [intOf]; omega
            · have q1 : ¬ (j : Int) < (s.size : Int) := by omega
              have q2 : decide ((j : Int) < (s.size : Int)) = false := decide_eq_false q1
              have hjl : j = L := by
                have h := HJ.out
                cases g with
                | zero => rw [lineE] at h; exact h
                | succ g => rw [lineE, if_neg (by omega)] at h; exact h
              subst hjl
              clear HJ
              go_wp2_with fail
              go_step3
              refine ⟨rfl, ⟨rfl, j, f, _, _, _, _, _, _, _, _, _, _, _, _, _, _, _, _, _, _, _, _, _, _, _, _, _, _, _, _, _, _, rfl, by omega, by omega, HG.out⟩, ?_⟩
              simp [MB, intOf]
              omega
        · rw [if_neg ht] at hgo
          subst hgo
          have ht2 : decide (a + 1 < s.size ∧ c = UInt8.toNat 47 ∧ b (a + 1) = UInt8.toNat 47) = false := decide_eq_false ht
          rw [ht2] at HT1
          clear HR HT hz hw HW ht ht2 hc
          go_wp2_with (first
            | (go_at_call 87; refine HWc.out.mono ?_; rintro e w' ⟨rfl, rfl⟩)
            | (go_at_call 88; refine HT1.out.mono ?_; rintro e w' ⟨rfl, rfl⟩))
          simp only [Exit.jump]
          go_ret
          exact ⟨rfl, rfl⟩
    · have g1 : ¬ (a : Int) < (s.size : Int) := by omega
      have g2 : decide ((a : Int) < (s.size : Int)) = false := decide_eq_false g1
      rw [if_neg (by omega), if_neg (by omega)] at hgo
      subst hgo
      have HT1 := Lib.hid (HT.out a)
      rw [decide_eq_false (by omega)] at HT1
      clear HR HT HW
      go_wp2_with (go_at_call 88; refine HT1.out.mono ?_; rintro e w' ⟨rfl, rfl⟩)
      simp only [Exit.jump]
      go_ret
      exact ⟨rfl, rfl⟩
  refine wp_scope_jumps 0 (JB s b N w) (fun a' _ => MB s a') rfl ?_ (fun a' w' hJ => wp_seq (wp_skip (key a' w' hJ)))
  go_wp2
  go_step3
  rename_i hK
  refine hK _ _ (wp_mono (key _ _ ⟨rfl, k, s.size + 1, _, _, _, _, _, _, _, _, _, _, _, _, _, _, _, _, _, _, _, _, _, _, _, _, _, _, _, _, _, _, rfl, hk, by omega, HN.out⟩) ?_)
  intro e a1 w1 h
  cases e with
  | goto l => exact ⟨h.1, h.2.1⟩
  | _ => exact h

end Go.Proofs.YtfjlhfalnciamaaDoor.Lex
