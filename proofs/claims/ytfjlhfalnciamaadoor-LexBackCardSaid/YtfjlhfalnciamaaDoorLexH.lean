/- The part of a grammar's text that begins at a place (package lex), walked. -/
import Derived.Test.YtfjlhfalnciamaaDoorLexG
namespace Go.Proofs.YtfjlhfalnciamaaDoor.Lex
open Go Go.RowKit Go.Proofs.Chars
open Go.Proofs.YtfjlhfalnciamaaDoor.Utf Go.Proofs.YtfjlhfalnciamaaDoor.Chars

def signI (c : Nat) : Int := Lib.indexByte [58, 124, 59, 40, 41, 63, 42, 43, 46, 126] c.toUInt8
theorem signI_in : ∀ c : Fin 256, -1 ≤ signI c.val ∧ signI c.val ≤ 9 := by decide +kernel
theorem idx_any (c : Nat) (w : World) : Calls Tryd.prog 87 #[.string ⟨#[58, 124, 59, 40, 41, 63, 42, 43, 46, 126]⟩, .int .u8 (c : Int)] w fun e w' => e = .returned (.int .i64 (signI c)) ∧ w = w' :=
  (Tryd.strings_IndexByte ⟨#[58, 124, 59, 40, 41, 63, 42, 43, 46, 126]⟩ (c : Int) w).mono fun _ _ h => ⟨h.1, h.2.symm⟩
def nextX (s : ByteArray) (a : Nat) : Nx :=
  if letterN ((txt s).b a) = true then nameX s a
  else if (txt s).b a = 39 then litX s a
  else if (txt s).b a = 91 then classX s a
  else if a + 1 < s.size ∧ (txt s).b a = 45 ∧ (txt s).b (a + 1) = 62 then .tok 15 (a + 2) ⟨#[]⟩ none
  else if 0 ≤ signI ((txt s).b a) then .tok (5 + signI ((txt s).b a)) (a + 1) ⟨#[]⟩ none
  else .bad 11 a
theorem SetIs.form {W w' : World} {g : Option (List Rg)} {v : Value} (h : SetIs W w' g v) : ∃ A n cap, v = .slice A n cap := by
  cases g with
  | none => exact ⟨none, 0, 0, h⟩
  | some l =>
    obtain ⟨O, hr, _⟩ := h
    obtain ⟨A, cap, e⟩ := hr.form
    exact ⟨_, _, _, e⟩
theorem SetIs.put {W W2 w1 : World} {g : Option (List Rg)} {v : Value} (h : SetIs W2 w1 g v) (hs : W.heap.size + 2 ≤ W2.heap.size) (v0 v1 v2 v3 v4 p q : Value) : SetIs W (put7 w1 W.heap.size v0 v1 v2 v3 v4 p q) g v := by
  cases g with
  | none => exact h
  | some l =>
    obtain ⟨O, hr, h2⟩ := h
    exact ⟨O, (put7_row hr (fun e => by have := (hr.lt _ e).1; omega) (fun e => by have := (hr.lt _ e).1; omega) v0 v1 v2 v3 v4 p q).low (by omega), h2⟩

set_option maxHeartbeats 400000 in
set_option maxRecDepth 100000 in
theorem nextX_any (s : ByteArray) (hs : s.size ≤ 50000) (a : Nat) (ha : a < s.size) (W : World) (T : U8 W) : Calls Tryd.prog 61 #[.string s, .int .i64 (a : Int)] W fun e w' => NextP W a (nextX s a) e w' := by
  have hba : (s[a]'ha).toNat = (txt s).b a := by rw [get_bang]; rfl
  have hbl : (txt s).b a < 256 := UInt8.toNat_lt _
  have g0 : (0 : Int) ≤ (a : Int) := by omega
  have g1 : (a : Int) < (s.size : Int) := by omega
  have g2 : (a : Int) ≤ (s.size : Int) := by omega
  obtain ⟨N, hN⟩ : ∃ N, nextX s a = N := ⟨_, rfl⟩
  rw [hN]
  unfold nextX at hN
  have T2 : U8 ((W.alloc T0).alloc S0) := T.stay (two_allocs W T0 S0)
  have HLE := Lib.hid (fun w => letter_any ((txt s).b a) w)
  have HLT := Lib.hid (fun w => two_any s a 45 62 w)
  have hsi := signI_in ⟨(txt s).b a, hbl⟩
  have HIX := Lib.hid (fun w => idx_any ((txt s).b a) w)
  obtain ⟨c, hc⟩ : ∃ c, (txt s).b a = c := ⟨_, rfl⟩
  rw [hc] at hba hN HLE HLT HIX
  simp only [hc] at hsi
  clear T hbl hc
  cases hl : letterN c with
  | true =>
    rw [hl] at HLE hN
    rw [if_pos rfl] at hN
    · subst hN
      have hX : ∃ N, nameX s a = N := ⟨_, rfl⟩
      have HC0 := nameX_any s (by omega) a ha ((W.alloc T0).alloc S0)
      obtain ⟨N, hN⟩ := hX
      rw [hN] at HC0 ⊢
      clear hN T2 HIX hsi hl
      have HC := Lib.hid HC0
      have hsz0 : W.heap.size + 2 ≤ ((W.alloc T0).alloc S0).heap.size := by simp
      clear HLT
      go_enter Tryd.func61, Tryd.ntmps61
      go_wp2_with (first
        | (go_at_call 86; refine (HLE.out _).mono ?_; rintro e w' ⟨rfl, rfl⟩))
      refine HC.out.mono ?_
      intro e w1 hnx
      clear HC
      cases N with
      | bad cc pp =>
        obtain ⟨rfl, hb⟩ := hnx
        obtain ⟨b0, b1⟩ := tok_blocks (W := W) (by simpa using hb)
        obtain ⟨⟨c0, c1, c2, c3, c4, c5, c6⟩, f0, f1, f2, f3, f4, f5, f6⟩ := tok_cells b0 b1
        have HF := Lib.hid (put7_below ((two_allocs W T0 S0).trans (hb.mono (by omega))))
        clear hb b0 b1
        unfold tokV stopV
        go_wp2
        refine bodyPost_ret (v := .tuple #[tokV 0 0 0 ⟨#[]⟩ (.slice none 0 0), stopV cc pp]) (by simp [results, Tryd.results61, go_sem, tokV, stopV, c0, c1, c2, c3, c4, c5, c6]) rfl ?_
        exact ⟨rfl, HF.out _ _ _ _ _ _ _⟩
      | tok kk zz tt gg =>
        obtain ⟨v, rfl, hset, hb⟩ := hnx
        obtain ⟨A, n, cap, rfl⟩ := hset.form
        obtain ⟨b0, b1⟩ := tok_blocks (W := W) (by simpa using hb)
        obtain ⟨⟨c0, c1, c2, c3, c4, c5, c6⟩, f0, f1, f2, f3, f4, f5, f6⟩ := tok_cells b0 b1
        have HF := Lib.hid (put7_below ((two_allocs W T0 S0).trans (hb.mono (by omega))))
        have HSET := Lib.hid (hset.put hsz0)
        clear hb b0 b1 hset
        unfold tokV stopV
        go_wp2
        refine bodyPost_ret (v := .tuple #[tokV kk a zz tt (.slice A n cap), stopV 0 0]) (by simp [results, Tryd.results61, go_sem, tokV, stopV, c0, c1, c2, c3, c4, c5, c6]) rfl ?_
        exact ⟨_, rfl, HSET.out _ _ _ _ _ _ _, HF.out _ _ _ _ _ _ _⟩
  | false =>
    rw [hl] at HLE hN
    rw [if_neg (by simp)] at hN
    by_cases h39 : c = 39
    · rw [if_pos h39] at hN
      subst hN
      have hX : ∃ N, litX s a = N := ⟨_, rfl⟩
      have HC0 := litX_any s hs a ha ((W.alloc T0).alloc S0) T2
      obtain ⟨N, hN⟩ := hX
      rw [hN] at HC0 ⊢
      subst h39
      clear hN T2 HIX hsi hl
      have HC := Lib.hid HC0
      have hsz0 : W.heap.size + 2 ≤ ((W.alloc T0).alloc S0).heap.size := by simp
      clear HLT
      go_enter Tryd.func61, Tryd.ntmps61
      go_wp2_with (first
        | (go_at_call 86; refine (HLE.out _).mono ?_; rintro e w' ⟨rfl, rfl⟩))
      refine HC.out.mono ?_
      intro e w1 hnx
      clear HC
      cases N with
      | bad cc pp =>
        obtain ⟨rfl, hb⟩ := hnx
        obtain ⟨b0, b1⟩ := tok_blocks (W := W) (by simpa using hb)
        obtain ⟨⟨c0, c1, c2, c3, c4, c5, c6⟩, f0, f1, f2, f3, f4, f5, f6⟩ := tok_cells b0 b1
        have HF := Lib.hid (put7_below ((two_allocs W T0 S0).trans (hb.mono (by omega))))
        clear hb b0 b1
        unfold tokV stopV
        go_wp2
        refine bodyPost_ret (v := .tuple #[tokV 0 0 0 ⟨#[]⟩ (.slice none 0 0), stopV cc pp]) (by simp [results, Tryd.results61, go_sem, tokV, stopV, c0, c1, c2, c3, c4, c5, c6]) rfl ?_
        exact ⟨rfl, HF.out _ _ _ _ _ _ _⟩
      | tok kk zz tt gg =>
        obtain ⟨v, rfl, hset, hb⟩ := hnx
        obtain ⟨A, n, cap, rfl⟩ := hset.form
        obtain ⟨b0, b1⟩ := tok_blocks (W := W) (by simpa using hb)
        obtain ⟨⟨c0, c1, c2, c3, c4, c5, c6⟩, f0, f1, f2, f3, f4, f5, f6⟩ := tok_cells b0 b1
        have HF := Lib.hid (put7_below ((two_allocs W T0 S0).trans (hb.mono (by omega))))
        have HSET := Lib.hid (hset.put hsz0)
        clear hb b0 b1 hset
        unfold tokV stopV
        go_wp2
        refine bodyPost_ret (v := .tuple #[tokV kk a zz tt (.slice A n cap), stopV 0 0]) (by simp [results, Tryd.results61, go_sem, tokV, stopV, c0, c1, c2, c3, c4, c5, c6]) rfl ?_
        exact ⟨_, rfl, HSET.out _ _ _ _ _ _ _, HF.out _ _ _ _ _ _ _⟩
    rw [if_neg h39] at hN
    have p1 : ((c : Int) == 39) = false := by simpa using (by omega : ¬ (c : Int) = 39)
    by_cases h91 : c = 91
    · rw [if_pos h91] at hN
      subst hN
      have hX : ∃ N, classX s a = N := ⟨_, rfl⟩
      have HC0 := classX_any s hs a ha ((W.alloc T0).alloc S0) T2
      obtain ⟨N, hN⟩ := hX
      rw [hN] at HC0 ⊢
      subst h91
      clear hN T2 HIX hsi hl p1 h39
      have HC := Lib.hid HC0
      have hsz0 : W.heap.size + 2 ≤ ((W.alloc T0).alloc S0).heap.size := by simp
      clear HLT
      go_enter Tryd.func61, Tryd.ntmps61
      go_wp2_with (first
        | (go_at_call 86; refine (HLE.out _).mono ?_; rintro e w' ⟨rfl, rfl⟩))
      refine HC.out.mono ?_
      intro e w1 hnx
      clear HC
      cases N with
      | bad cc pp =>
        obtain ⟨rfl, hb⟩ := hnx
        obtain ⟨b0, b1⟩ := tok_blocks (W := W) (by simpa using hb)
        obtain ⟨⟨c0, c1, c2, c3, c4, c5, c6⟩, f0, f1, f2, f3, f4, f5, f6⟩ := tok_cells b0 b1
        have HF := Lib.hid (put7_below ((two_allocs W T0 S0).trans (hb.mono (by omega))))
        clear hb b0 b1
        unfold tokV stopV
        go_wp2
        refine bodyPost_ret (v := .tuple #[tokV 0 0 0 ⟨#[]⟩ (.slice none 0 0), stopV cc pp]) (by simp [results, Tryd.results61, go_sem, tokV, stopV, c0, c1, c2, c3, c4, c5, c6]) rfl ?_
        exact ⟨rfl, HF.out _ _ _ _ _ _ _⟩
      | tok kk zz tt gg =>
        obtain ⟨v, rfl, hset, hb⟩ := hnx
        obtain ⟨A, n, cap, rfl⟩ := hset.form
        obtain ⟨b0, b1⟩ := tok_blocks (W := W) (by simpa using hb)
        obtain ⟨⟨c0, c1, c2, c3, c4, c5, c6⟩, f0, f1, f2, f3, f4, f5, f6⟩ := tok_cells b0 b1
        have HF := Lib.hid (put7_below ((two_allocs W T0 S0).trans (hb.mono (by omega))))
        have HSET := Lib.hid (hset.put hsz0)
        clear hb b0 b1 hset
        unfold tokV stopV
        go_wp2
        refine bodyPost_ret (v := .tuple #[tokV kk a zz tt (.slice A n cap), stopV 0 0]) (by simp [results, Tryd.results61, go_sem, tokV, stopV, c0, c1, c2, c3, c4, c5, c6]) rfl ?_
        exact ⟨_, rfl, HSET.out _ _ _ _ _ _ _, HF.out _ _ _ _ _ _ _⟩
    rw [if_neg h91] at hN
    have p2 : ((c : Int) == 91) = false := by simpa using (by omega : ¬ (c : Int) = 91)
    have HTA := Lib.hid (two_allocs W)
    clear T2
    by_cases har : a + 1 < s.size ∧ c = 45 ∧ (txt s).b (a + 1) = 62
    · rw [if_pos har] at hN
      subst hN
      have HL1 : Hid (∀ w, Calls Tryd.prog 88 #[.string (s.extract a s.size), .string ⟨#[45, 62]⟩] w fun e w' => e = .returned (.bool true) ∧ w = w') := Lib.hid fun w => by
        have h := HLT.out w
        rw [show decide (a + 1 < s.size ∧ c = UInt8.toNat 45 ∧ (txt s).b (a + 1) = UInt8.toNat 62) = true from decide_eq_true har] at h
        exact h
      obtain ⟨_, h45, _⟩ := har
      subst h45
      clear HLT HIX hsi hl h39 h91 p1 p2
      have q1 : (a : Int) + 2 ≤ 9223372036854775807 := by omega
      go_enter Tryd.func61, Tryd.ntmps61
      go_wp2_with (first
        | (go_at_call 86; refine (HLE.out _).mono ?_; rintro e w' ⟨rfl, rfl⟩)
        | (go_at_call 88; refine (HL1.out _).mono ?_; rintro e w' ⟨rfl, rfl⟩))
      refine bodyPost_ret (v := .tuple #[tokV 15 a (a + 2) ⟨#[]⟩ (.slice none 0 0), stopV 0 0]) (by rw [show tokV 15 a (a + 2) ⟨#[]⟩ (.slice none 0 0) = .agg #[.int .i64 15, .int .i64 (a : Int), .int .i64 ((a : Int) + 2), .string ⟨#[]⟩, .slice none 0 0] by simp only [tokV]; rw [show ((a + 2 : Nat) : Int) = (a : Int) + 2 by omega]]; simp [results, Tryd.results61, go_sem, stopV]) rfl ?_
      exact ⟨_, rfl, rfl, HTA.out _ _⟩
    · rw [if_neg har] at hN
      have HL1 : Hid (∀ w, Calls Tryd.prog 88 #[.string (s.extract a s.size), .string ⟨#[45, 62]⟩] w fun e w' => e = .returned (.bool false) ∧ w = w') := Lib.hid fun w => by
        have h := HLT.out w
        rw [show decide (a + 1 < s.size ∧ c = UInt8.toNat 45 ∧ (txt s).b (a + 1) = UInt8.toNat 62) = false from decide_eq_false har] at h
        exact h
      obtain ⟨d, hd⟩ : ∃ d, signI c = d := ⟨_, rfl⟩
      rw [hd] at hN HIX hsi
      clear har HLT hl hd
      have q1 : (a : Int) + 1 ≤ 9223372036854775807 := by omega
      by_cases hd0 : 0 ≤ d
      · rw [if_pos hd0] at hN
        subst hN
        have q2 : decide (0 ≤ d) = true := decide_eq_true hd0
        have q3 : (5 : Int) + d ≤ 9223372036854775807 := by omega
        go_enter Tryd.func61, Tryd.ntmps61
        go_wp2_with (first
          | (go_at_call 86; refine (HLE.out _).mono ?_; rintro e w' ⟨rfl, rfl⟩)
          | (go_at_call 88; refine (HL1.out _).mono ?_; rintro e w' ⟨rfl, rfl⟩)
          | (go_at_call 87; refine (HIX.out _).mono ?_; rintro e w' ⟨rfl, rfl⟩))
        refine bodyPost_ret (v := .tuple #[tokV (5 + d) a (a + 1) ⟨#[]⟩ (.slice none 0 0), stopV 0 0]) (by rw [show tokV (5 + d) a (a + 1) ⟨#[]⟩ (.slice none 0 0) = .agg #[.int .i64 (5 + d), .int .i64 (a : Int), .int .i64 ((a : Int) + 1), .string ⟨#[]⟩, .slice none 0 0] by simp only [tokV]; rw [show ((a + 1 : Nat) : Int) = (a : Int) + 1 by omega]]; simp [results, Tryd.results61, go_sem, stopV]) rfl ?_
        exact ⟨_, rfl, rfl, HTA.out _ _⟩
      · rw [if_neg hd0] at hN
        subst hN
        have q2 : decide (0 ≤ d) = false := decide_eq_false hd0
        go_enter Tryd.func61, Tryd.ntmps61
        go_wp2_with (first
          | (go_at_call 86; refine (HLE.out _).mono ?_; rintro e w' ⟨rfl, rfl⟩)
          | (go_at_call 88; refine (HL1.out _).mono ?_; rintro e w' ⟨rfl, rfl⟩)
          | (go_at_call 87; refine (HIX.out _).mono ?_; rintro e w' ⟨rfl, rfl⟩))
        refine bodyPost_ret (v := .tuple #[tokV 0 0 0 ⟨#[]⟩ (.slice none 0 0), stopV 11 a]) (by simp [results, Tryd.results61, go_sem, tokV, stopV]) rfl ?_
        exact ⟨rfl, HTA.out _ _⟩

end Go.Proofs.YtfjlhfalnciamaaDoor.Lex
