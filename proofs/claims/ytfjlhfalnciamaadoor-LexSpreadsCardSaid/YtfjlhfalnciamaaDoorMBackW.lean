/- Package texts, merged: CharsBackW. -/
import Derived.Test.YtfjlhfalnciamaaDoorMCharsS
import Derived.Test.YtfjlhfalnciamaaDoorMBackA

namespace Go.Proofs.YtfjlhfalnciamaaDoor.Chars
open Go Go.RowKit Go.Proofs.Chars
open Go.Proofs.YtfjlhfalnciamaaDoor.Utf

theorem againR_len (x : Rg) : (againR x).length ≤ 2 := by unfold againR; split <;> (try split) <;> simp
theorem againL_len : ∀ O : List Rg, (againL O).length ≤ 2 * O.length
  | [] => by simp [againL]
  | x :: O => by
    have h := againL_len O
    have h2 := againR_len x
    simp only [againL, List.flatMap_cons, List.length_append, List.length_cons] at h ⊢
    omega
theorem rgs_none (w : World) : Rgs w (.slice none 0 0) [] := Rowed.rgs (S := 0) ⟨rfl, .inl ⟨rfl, rfl⟩⟩ (by simp)
theorem canon_le : ∀ {O : List Rg} {b : Int}, Canon b O → ∀ x ∈ O, x.1 ≤ x.2
  | y :: O, b, h, x, hx => by
    rcases List.mem_cons.1 hx with rfl | hx
    · exact h.2.1
    · exact canon_le h.2.2.2 x hx

/-- What was told of a set is read. -/
theorem back_read {O : List Rg} (hc : Canon 0 O) (hv : ∀ x ∈ O, Lib.validRune x.1 = true ∧ Lib.validRune x.2 = true) (hl : O.length ≤ 3000) (W : World) (T : U8 W) :
    Calls Tryd.prog 29 #[.string ⟨(textL O).toArray⟩] W fun e w' => ∃ v P c, e = .returned (.tuple #[v, .agg #[.int .i64 c, .int .i64 0]]) ∧ Rgs w' v P ∧ P.length ≤ 2 * O.length ∧ ((O = [] ∧ c = 14) ∨ (O ≠ [] ∧ c = 0 ∧ SameSet P O)) ∧ Below W.heap.size W w' := by
  have hsz : (⟨(textL O).toArray⟩ : ByteArray).size ≤ 50000 := by
    have := textL_len O hv
    simp [ByteArray.size]
    omega
  refine (read_any _ hsz W T).mono ?_
  intro e w' h
  by_cases h0 : O = []
  · subst h0
    rw [text_none] at h
    obtain ⟨rfl, hb⟩ := h
    exact ⟨_, [], 14, rfl, rgs_none w', by simp, .inl ⟨rfl, rfl⟩, hb⟩
  · rw [text_read (fun x hx => ⟨(hv x hx).1, (hv x hx).2, canon_le hc x hx⟩) h0] at h
    obtain ⟨v, P, rfl, hr, hof, hpl, hb⟩ := h
    refine ⟨v, P, 0, rfl, hr.rgs (canon_in32 hof.1 (Int.le_refl _)), Nat.le_trans hpl (againL_len O), .inr ⟨h0, rfl, fun r => ?_⟩, hb⟩
    rw [hof.1.memU, hof.2, again_mem (canon_le hc)]

set_option maxRecDepth 100000 in
theorem back_long {w : World} {va : Value} {a : List Rg} (s : ByteArray) (Ha : Rgs w va a) (h : 20 < a.length ∨ 300 < s.size) :
    Calls Tryd.prog 5 #[va, .string s] w fun e w' => e = .returned (.bool true) ∧ Below w.heap.size w w' := by
  have HLA := Ha.len 3 w
  clear Ha
  by_cases ha : 20 < a.length
  · have h1 : (20 : Int) < a.length := by omega
    have h2 : decide ((20 : Int) < a.length) = true := decide_eq_true h1
    go_enter Tryd.func5, Tryd.ntmps5
    go_wp2
    go_ret
    exact ⟨rfl, Below.refl _ _⟩
  · have h1 : ¬ (20 : Int) < a.length := by omega
    have h2 : decide ((20 : Int) < a.length) = false := decide_eq_false h1
    have h3 : (300 : Int) < s.size := by omega
    have h4 : decide ((300 : Int) < s.size) = true := decide_eq_true h3
    go_enter Tryd.func5, Tryd.ntmps5
    go_wp2
    go_ret
    exact ⟨rfl, Below.refl _ _⟩

theorem skip_if {c : Prop} [Decidable c] {P Q : Prop} (hc : ¬ c) (h : Q) : if c then P else Q := by rw [if_neg hc]; exact h
/-- The signs of the surrogates, as the law makes them. -/
theorem sur_rgs (w : World) : Rgs (w.alloc (.cells #[.int .i32 55296, .int .i32 57343] 44)) (.slice (some ⟨w.heap.size, 0, none⟩) 1 1) sur := by
  refine ⟨fun x hx => by simp [sur] at hx; subst hx; exact ⟨⟨by decide, by decide⟩, by decide, by decide⟩, some ⟨w.heap.size, 0, none⟩, 1, rfl, by simp [sur], by simp [maxLen], fun _ => ⟨w.heap.size, 0, rfl, by simp, fun i x hx => ?_⟩⟩
  match i, hx with
  | 0, hx =>
    simp [sur] at hx
    subst hx
    exact ⟨by simp only [World.cell?, heap_alloc_new]; rfl, by simp only [World.cell?, heap_alloc_new]; rfl⟩
  | i + 1, hx => simp [sur] at hx
/-- What a set less the surrogates is, is told of the set. -/
theorem text_same {L O Q : List Rg} (ho : Canon 0 O) (hm : ∀ r, memU O r ↔ memU L r ∧ ¬ memU sur r) (hq : Canon 0 Q) (hn : ∀ r, memU Q r ↔ memU L r ∧ ¬ memU sur r) : Q = O :=
  hq.uniq ho fun r => by rw [← hq.memU, ← ho.memU, hm, hn]
theorem text_own {L O Q : List Rg} (ho : Canon 0 O) (hm : ∀ r, memU O r ↔ memU L r ∧ ¬ memU sur r) (hq : Canon 0 Q) (hn : ∀ r, memU Q r ↔ memU O r ∧ ¬ memU sur r) : Q = O :=
  hq.uniq ho fun r => by rw [← hq.memU, ← ho.memU, hn, hm]; exact ⟨fun h => h.1, fun h => ⟨h, h.2⟩⟩

theorem andGo_len : ∀ (A B : List Rg), (andGo A B).length ≤ A.length + B.length
  | [], B => by rw [andGo]; simp
  | x :: A, [] => by rw [andGo]; simp
  | x :: A, y :: B => by
    rw [andGo, List.length_append]
    have h1 := andGo_len A (y :: B)
    have h2 := andGo_len (x :: A) B
    simp only [List.length_cons] at *
    split <;> split <;> simp only [List.length_cons, List.length_nil] <;> omega
termination_by A B => A.length + B.length
theorem sur_canon : Canon 0 sur := by
  unfold sur
  exact ⟨by decide, by decide, by decide, trivial⟩
theorem notGo_sur : (notGo 0 sur).length = 2 := by decide
theorem less_len {P O : List Rg} (hp : Canon 0 P) (ho : Canon 0 O) (hm : ∀ r, memU O r ↔ memU P r ∧ ¬ memU sur r) : O.length ≤ P.length + 2 := by
  have hn := not_is sur_canon.isOf
  have ha := and_is hp.isOf hn.1.isOf
  have e : O = andGo P (notGo 0 sur) := ho.uniq ha.1 fun r => by
    rw [← ho.memU, ← ha.1.memU, hm, ha.2, hn.2]
    exact ⟨fun h => ⟨h.1, h.1.1, h.1.2.1, h.2⟩, fun h => ⟨h.1, h.2.2.2⟩⟩
  have := andGo_len P (notGo 0 sur)
  rw [notGo_sur] at this
  rw [e]
  exact this
theorem read_len {s : ByteArray} : ∀ (f a : Nat) (l m : List Rg), a ≤ s.size → readGo s f a l = .good m → m.length ≤ l.length + (s.size - a)
  | 0, a, l, m, _, h => by
    rw [readGo] at h
    cases h
    omega
  | f + 1, a, l, m, hl, h => by
    rw [readGo] at h
    by_cases ha : a < s.size
    · rw [if_pos ha] at h
      cases hs : sgnE s a with
      | err c => rw [hs] at h; cases h
      | sgn lo nx =>
        rw [hs] at h
        simp only [] at h
        have h1 := sgnE_in ha hs
        split at h
        · rename_i hd
          cases hs2 : sgnE s (nx + 1) with
          | err c => rw [hs2] at h; cases h
          | sgn hi n2 =>
            rw [hs2] at h
            simp only [] at h
            have h2 := sgnE_in hd.1 hs2
            split at h
            · cases h
            · have := read_len f n2 _ m h2.2.2 h
              simp only [List.length_append, List.length_cons, List.length_nil] at this
              omega
        · have := read_len f nx _ m h1.2.2 h
          simp only [List.length_append, List.length_cons, List.length_nil] at this
          omega
    · rw [if_neg ha] at h
      cases h
      omega
theorem good_len {s : ByteArray} {l : List Rg} (h : readE s = .good l) : l.length ≤ s.size := by
  unfold readE at h
  split at h
  · cases h
  · have := read_len _ _ _ _ (Nat.zero_le _) h
    simpa using this
theorem read_bad {s : ByteArray} : ∀ (f a : Nat) (l : List Rg) (c : Int) (k : Nat), readGo s f a l = .bad c k → c ≠ 0
  | 0, a, l, c, k, h => by
    rw [readGo] at h
    cases h
  | f + 1, a, l, c, k, h => by
    rw [readGo] at h
    split at h
    · cases hs : sgnE s a with
      | err q =>
        rw [hs] at h
        cases h
        rcases sgnE_err hs with rfl | rfl <;> decide
      | sgn lo nx =>
        rw [hs] at h
        simp only [] at h
        split at h
        · cases hs2 : sgnE s (nx + 1) with
          | err q =>
            rw [hs2] at h
            cases h
            rcases sgnE_err hs2 with rfl | rfl <;> decide
          | sgn hi n2 =>
            rw [hs2] at h
            simp only [] at h
            split at h
            · cases h; decide
            · exact read_bad f n2 _ c k h
        · exact read_bad f nx _ c k h
    · cases h
theorem bad_code {s : ByteArray} {c : Int} {k : Nat} (h : readE s = .bad c k) : c ≠ 0 := by
  unfold readE at h
  split at h
  · cases h; decide
  · exact read_bad _ _ _ _ _ h

set_option maxHeartbeats 4000000 in
set_option maxRecDepth 100000 in
theorem back_walk {W : World} {va : Value} {a : List Rg} (s : ByteArray) (Ha : Rgs W va a) (hla : ¬ 20 < a.length) (hls : ¬ 300 < s.size) (T : GT W) :
    Calls Tryd.prog 5 #[va, .string s] W fun e w' => e = .returned (.bool true) ∧ Below W.heap.size W w' := by
  have HLA := Ha.len 3 W
  have d1 : ¬ (20 : Int) < a.length := by omega
  have d2 : decide ((20 : Int) < a.length) = false := decide_eq_false d1
  have d3 : ¬ (300 : Int) < s.size := by omega
  have d4 : decide ((300 : Int) < s.size) = false := decide_eq_false d3
  have HA := Lib.hid Ha
  have HG := Lib.hid T
  have hbs : Below W.heap.size W (W.alloc (.cells #[.int .i32 55296, .int .i32 57343] 44)) := (Below.refl _ _).alloc (Nat.le_refl _) _
  have HBS := Lib.hid hbs
  have HC := Lib.hid (less_any (Ha.stay hbs) (sur_rgs W) (by omega) (by simp [sur]))
  clear Ha T hbs
  go_enter Tryd.func5, Tryd.ntmps5
  go_wp2_with fail
  refine HC.out.mono ?_
  rintro e w1 ⟨v1, O, rfl, hr, hc, hm, hl1, hb⟩
  have HB1 : Hid (Below W.heap.size W w1) := HBS.out.trans (hb.mono HBS.out.size)
  have hol : O.length ≤ 22 := by simp [sur] at hl1; omega
  have HRO := Lib.hid (hr.rgs (canon_in32 hc (Int.le_refl _)))
  have HCO := Lib.hid hc
  have HMO : Hid (∀ r, memU O r ↔ memU a r ∧ ¬ memU sur r) := Lib.hid hm
  have HVO := Lib.hid (signs_of hc hm)
  clear hr hc hm hb hl1 HC HBS
  have HC := Lib.hid (text_any w1 (HG.out.stay HB1.out) HRO.out (by omega))
  go_wp2_with fail
  refine HC.out.mono ?_
  rintro e w2 ⟨O2, rfl, hc, hm, hb⟩
  obtain rfl := (text_own HCO.out HMO.out hc hm).symm
  have HB2 : Hid (Below W.heap.size W w2) := HB1.out.trans (hb.mono HB1.out.size)
  have HRO := Lib.hid (HRO.out.stay hb)
  clear hc hm hb HC HB1
  have HC := Lib.hid (back_read HCO.out HVO.out (by omega) w2 (HG.out.stay HB2.out).1)
  go_wp2_with fail
  refine HC.out.mono ?_
  rintro e w3 ⟨v2, P, c, rfl, hrp, hpl, hcase, hb⟩
  have HB3 : Hid (Below W.heap.size W w3) := HB2.out.trans (hb.mono HB2.out.size)
  have hba : Below w3.heap.size w3 (w3.alloc (.cells #[.int .i64 c, .int .i64 0] 48)) := (Below.refl _ _).alloc (Nat.le_refl _) _
  have HRO := Lib.hid ((HRO.out.stay hb).stay hba)
  have HRP := Lib.hid (hrp.stay hba)
  have HCS := Lib.hid hcase
  have hcell : (w3.alloc (.cells #[.int .i64 c, .int .i64 0] 48)).cell? ⟨w3.heap.size, 0, none⟩ = some (.int .i64 c) := by simp only [World.cell?, heap_alloc_new]; rfl
  have HCELL := Lib.hid hcell
  have hlt : w3.heap.size < (w3.alloc (.cells #[.int .i64 c, .int .i64 0] 48)).heap.size := by simp
  have HB4 : Hid (Below W.heap.size W (w3.alloc (.cells #[.int .i64 c, .int .i64 0] 48))) := HB3.out.trans (hba.mono HB3.out.size)
  have HA4 := Lib.hid (HA.out.stay HB4.out)
  clear hrp hcase hb hba hcell HC HB2 HB3
  go_upto_region 5 with fail
  generalize (w3.alloc (.cells #[.int .i64 c, .int .i64 0] 48)) = w4 at *
  have HTA : Hid (∀ wx, Below w4.heap.size w4 wx → Calls Tryd.prog 30 #[va] wx fun e w' => e = .returned (.string ⟨(textL O).toArray⟩) ∧ Below w4.heap.size w4 w') := Lib.hid fun wx hb => by
    refine (text_any wx (HG.out.stay (HB4.out.trans (hb.mono HB4.out.size))) (HA4.out.stay hb) (by omega)).mono ?_
    rintro e w' ⟨O2, rfl, hc, hm, hb2⟩
    obtain rfl := (text_same HCO.out HMO.out hc hm).symm
    exact ⟨rfl, hb.trans (hb2.mono hb.size)⟩
  have HTO : Hid (∀ wx, Below w4.heap.size w4 wx → Calls Tryd.prog 30 #[v1] wx fun e w' => e = .returned (.string ⟨(textL O).toArray⟩) ∧ Below w4.heap.size w4 w') := Lib.hid fun wx hb => by
    refine (text_any wx (HG.out.stay (HB4.out.trans (hb.mono HB4.out.size))) (HRO.out.stay hb) (by omega)).mono ?_
    rintro e w' ⟨O2, rfl, hc, hm, hb2⟩
    obtain rfl := (text_own HCO.out HMO.out hc hm).symm
    exact ⟨rfl, hb.trans (hb2.mono hb.size)⟩
  have HEM : Hid (∀ t : Bool, (t = true ↔ O = []) → ∀ wx, Below w4.heap.size w4 wx → Calls Tryd.prog 24 #[v1] wx fun e w' => e = .returned (.bool t) ∧ Below w4.heap.size w4 w') := Lib.hid fun t ht wx hb => by
    refine (empty_any (HRO.out.stay hb) (by omega) t (ht.trans (empty_is HCO.out.isOf))).mono ?_
    rintro e w' ⟨rfl, hb2⟩
    exact ⟨rfl, hb.trans (hb2.mono hb.size)⟩
  generalize (⟨(textL O).toArray⟩ : ByteArray) = tx at HTA HTO
  go_cut [59] (fun p wx => p = .bool false ∧ Below w4.heap.size w4 wx)
  case first =>
    rcases HCS.out with ⟨h0, h14⟩ | ⟨h0, h14, hsame⟩
    · have HE := Lib.hid (HEM.out true ⟨fun _ => h0, fun _ => rfl⟩)
      subst h14
      clear HCS h0
      have hcw : w4.drew.cell? ⟨w3.heap.size, 0, none⟩ = some (.int .i64 14) := HCELL.out
      have hbw : Below w4.heap.size w4 w4.drew := (Below.refl _ _).drew
      first | (go_region_with (first
          | (go_at_call 24; refine (HE.out _ (by assumption)).mono ?_; rintro e w' ⟨rfl, hbk⟩; have hck := (hbk.cell (p := ⟨w3.heap.size, 0, none⟩) hlt).trans HCELL.out)
          | (go_at_call_of 30 va; refine (HTA.out _ (by assumption)).mono ?_; rintro e w' ⟨rfl, hbk⟩; have hck := (hbk.cell (p := ⟨w3.heap.size, 0, none⟩) hlt).trans HCELL.out)
          | (go_at_call_of 30 v1; refine (HTO.out _ (by assumption)).mono ?_; rintro e w' ⟨rfl, hbk⟩; have hck := (hbk.cell (p := ⟨w3.heap.size, 0, none⟩) hlt).trans HCELL.out)
          | (refine skip_if (fun h => ?_) ?_; · (unfold undef at h; cases h)))) | (fail)
      all_goals (go_wp2_with fail; go_meet; exact ⟨rfl, by assumption⟩)
    · have HE := Lib.hid (HEM.out false ⟨(fun h => by cases h), fun h => absurd h h0⟩)
      have HSM : Hid (∀ wx, Below w4.heap.size w4 wx → Calls Tryd.prog 25 #[v2, v1] wx fun e w' => e = .returned (.bool true) ∧ Below w4.heap.size w4 w') := Lib.hid fun wx hb => by
        refine (same_any (HRP.out.stay hb) (HRO.out.stay hb) (by omega) (by omega) true ⟨fun _ => hsame, fun _ => rfl⟩).mono ?_
        rintro e w' ⟨rfl, hb2⟩
        exact ⟨rfl, hb.trans (hb2.mono hb.size)⟩
      subst h14
      clear HCS h0 hsame
      first | (go_region_held3 (fun w' => w'.cell? ⟨w3.heap.size, 0, none⟩ = some (.int .i64 0) ∧ Below w4.heap.size w4 w')
        (first
          | exact ⟨HCELL.out, (Below.refl _ _).drew⟩
          | (go_split_ands; exact ⟨by assumption, by assumption⟩)
          | exact ⟨(hbk.cell (p := ⟨w3.heap.size, 0, none⟩) hlt).trans HCELL.out, hbk⟩)
        (first
          | (go_at_call 24; go_split_ands; refine (HE.out _ (by assumption)).mono ?_; rintro e w' ⟨rfl, hbk⟩)
          | (go_at_call 25; go_split_ands; refine (HSM.out _ (by assumption)).mono ?_; rintro e w' ⟨rfl, hbk⟩)
          | (go_at_call_of 30 va; go_split_ands; refine (HTA.out _ (by assumption)).mono ?_; rintro e w' ⟨rfl, hbk⟩)
          | (go_at_call_of 30 v1; go_split_ands; refine (HTO.out _ (by assumption)).mono ?_; rintro e w' ⟨rfl, hbk⟩))) | (fail)
      all_goals (go_wp2_with fail; go_meet; exact ⟨rfl, by assumption⟩)
  case rest =>
    obtain ⟨rfl, hb⟩ := hcut
    have HB5 := Lib.hid (HB4.out.trans (hb.mono HB4.out.size))
    clear hb HTA HTO HEM HRO HCO HMO HVO HRP HCS HCELL HA4 HA HB4
    have HC := Lib.hid (read_any s (by omega) wc (HG.out.stay HB5.out).1)
    go_wp2_with fail
    refine HC.out.mono ?_
    intro e w5 hread
    clear HC
    cases hrd : readE s with
    | bad c k =>
      rw [hrd] at hread
      obtain ⟨rfl, hb⟩ := hread
      have hc0 : (c == 0) = false := by simpa using bad_code hrd
      have HB6 : Hid (Below W.heap.size W (w5.alloc (.cells #[.int .i64 c, .int .i64 (k : Int)] 48))) := (HB5.out.trans (hb.mono HB5.out.size)).alloc (HB5.out.trans (hb.mono HB5.out.size)).size _
      have HC := Lib.hid (works_any _ (HG.out.stay HB6.out))
      clear hrd hb
      unfold stopV
      go_wp2_with fail
      refine HC.out.mono ?_
      rintro e w7 ⟨rfl, hb⟩
      have HB7 := Lib.hid (HB6.out.trans (hb.mono HB6.out.size))
      clear hb
      go_wp2
      go_ret
      exact ⟨rfl, HB7.out⟩
    | good l =>
      rw [hrd] at hread
      obtain ⟨v3, P3, rfl, hr, hof, hpl, hb⟩ := hread
      have hll := good_len hrd
      have hsome := good_some hrd
      have HB6 : Hid (Below W.heap.size W (w5.alloc (.cells #[.int .i64 0, .int .i64 0] 48))) := (HB5.out.trans (hb.mono HB5.out.size)).alloc (HB5.out.trans (hb.mono HB5.out.size)).size _
      have hba : Below w5.heap.size w5 (w5.alloc (.cells #[.int .i64 0, .int .i64 0] 48)) := (Below.refl _ _).alloc (Nat.le_refl _) _
      have HR3 := Lib.hid ((hr.rgs (canon_in32 hof.1 (Int.le_refl _))).stay hba)
      have HOF := Lib.hid hof
      have hp300 : P3.length ≤ 300 := by omega
      have HC := Lib.hid (text_any _ (HG.out.stay HB6.out) HR3.out (by omega))
      have HSOME : Hid (∃ r, memU P3 r ∧ ¬ memU sur r) := Lib.hid (by
        obtain ⟨r, h1, h2⟩ := hsome
        exact ⟨r, by rw [hof.1.memU, hof.2]; exact h1, h2⟩)
      clear hrd hb hr hof hpl hba hsome hll
      unfold stopV
      go_wp2_with fail
      refine HC.out.mono ?_
      rintro e w7 ⟨O3, rfl, hc, hm, hb⟩
      have HB7 := Lib.hid (HB6.out.trans (hb.mono HB6.out.size))
      have HR3 := Lib.hid (HR3.out.stay hb)
      have hl3 := less_len HOF.out.1 hc hm
      have HM3 : Hid (∀ r, memU O3 r ↔ memU P3 r ∧ ¬ memU sur r) := Lib.hid hm
      have HC3 := Lib.hid hc
      have hne : O3 ≠ [] := by
        rintro rfl
        obtain ⟨r, h1, h2⟩ := HSOME.out
        obtain ⟨_, _, x, hx, _⟩ := (HM3.out r).2 ⟨h1, h2⟩
        cases hx
      clear HC hc hm hb
      have HC := Lib.hid (back_read HC3.out (signs_of HC3.out HM3.out) (by omega) w7 (HG.out.stay HB7.out).1)
      go_wp2_with fail
      refine HC.out.mono ?_
      rintro e w8 ⟨v4, P4, c, rfl, hr, hpl, hcase, hb⟩
      rcases hcase with ⟨h0, _⟩ | ⟨_, rfl, hsame⟩
      · exact absurd h0 hne
      have HB8 := Lib.hid (HB7.out.trans (hb.mono HB7.out.size))
      have hsz8 : W.heap.size ≤ w8.heap.size := HB8.out.size
      have hba : Below w8.heap.size w8 (w8.alloc (.cells #[.int .i64 0, .int .i64 0] 48)) := (Below.refl _ _).alloc (Nat.le_refl _) _
      have HB9 : Hid (Below W.heap.size W (w8.alloc (.cells #[.int .i64 0, .int .i64 0] 48))) := HB8.out.alloc hsz8 _
      have hcell : (w8.alloc (.cells #[.int .i64 0, .int .i64 0] 48)).cell? ⟨w8.heap.size, 0, none⟩ = some (.int .i64 0) := by simp only [World.cell?, heap_alloc_new]; rfl
      have hlt9 : w8.heap.size < (w8.alloc (.cells #[.int .i64 0, .int .i64 0] 48)).heap.size := by simp
      have HR3 := Lib.hid ((HR3.out.stay hb).stay hba)
      have HR4 := Lib.hid (hr.stay hba)
      have HSAME := Lib.hid hsame
      have HCELL := Lib.hid hcell
      clear hcell hb hr hsame hba HC HB8
      go_upto_region 10 with fail
      generalize (w8.alloc (.cells #[.int .i64 0, .int .i64 0] 48)) = w9 at *
      have hbs : Below w9.heap.size w9 (w9.alloc (.cells #[.int .i32 55296, .int .i32 57343] 44)) := (Below.refl _ _).alloc (Nat.le_refl _) _
      have HBS := Lib.hid hbs
      have HC := Lib.hid (less_any (HR3.out.stay hbs) (sur_rgs w9) (by omega) (by simp [sur]))
      clear hbs
      go_wp2_with fail
      refine HC.out.mono ?_
      rintro e w10 ⟨v5, O5, rfl, hr, hc, hm, hl5, hb⟩
      obtain rfl := (text_same HC3.out HM3.out hc hm).symm
      have hb9 := HBS.out.trans (hb.mono HBS.out.size)
      have HB10 : Hid (Below W.heap.size W w10) := HB9.out.trans (hb9.mono HB9.out.size)
      have HR5 := Lib.hid (hr.rgs (canon_in32 hc (Int.le_refl _)))
      have HR4 := Lib.hid (HR4.out.stay hb9)
      have hcell : w10.cell? ⟨w8.heap.size, 0, none⟩ = some (.int .i64 0) := (hb9.cell (p := ⟨w8.heap.size, 0, none⟩) hlt9).trans HCELL.out
      have HCELL := Lib.hid hcell
      have hlt10 : w8.heap.size < w10.heap.size := Nat.lt_of_lt_of_le hlt9 hb9.size
      have HC2 := Lib.hid (empty_any HR5.out (by omega) false ⟨(fun h => by cases h), fun h => absurd ((empty_is HC3.out.isOf).2 h) hne⟩)
      clear hr hc hm hb hb9 hcell HC HBS
      go_wp2_with fail
      refine HC2.out.mono ?_
      rintro e w11 ⟨rfl, hb⟩
      have HB11 := Lib.hid (HB10.out.trans (hb.mono HB10.out.size))
      have hcell : w11.cell? ⟨w8.heap.size, 0, none⟩ = some (.int .i64 0) := (hb.cell (p := ⟨w8.heap.size, 0, none⟩) hlt10).trans HCELL.out
      have HSM := Lib.hid (same_any (HR4.out.stay hb) (HR5.out.stay hb) (by omega) (by omega) true ⟨fun _ => HSAME.out, fun _ => rfl⟩)
      clear hb HC2
      go_wp2_with fail
      refine HSM.out.mono ?_
      rintro e w12 ⟨rfl, hb⟩
      have HB12 := Lib.hid (HB11.out.trans (hb.mono HB11.out.size))
      have HC := Lib.hid (works_any _ (HG.out.stay HB12.out))
      clear hb HSM
      go_wp2_with fail
      refine HC.out.mono ?_
      rintro e w13 ⟨rfl, hb⟩
      have HB13 := Lib.hid (HB12.out.trans (hb.mono HB12.out.size))
      clear hb HC
      go_wp2
      go_ret
      exact ⟨rfl, HB13.out⟩

theorem back_all {W : World} {va : Value} {a : List Rg} (Ha : Rgs W va a) (s : ByteArray) (T : GT W) :
    Calls Tryd.prog 5 #[va, .string s] W fun e w' => e = .returned (.bool true) ∧ Below W.heap.size W w' := by
  by_cases hla : 20 < a.length
  · exact back_long s Ha (.inl hla)
  by_cases hls : 300 < s.size
  · exact back_long s Ha (.inr hls)
  exact back_walk s Ha hla hls T

end Go.Proofs.YtfjlhfalnciamaaDoor.Chars
