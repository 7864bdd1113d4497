/- What is told of a set is read as it: plain maths. -/
import Derived.Test.YtfjlhfalnciamaaDoorCharsT
namespace Go.Proofs.YtfjlhfalnciamaaDoor.Chars
open Go Go.RowKit Go.Proofs.Chars
open Go.Proofs.YtfjlhfalnciamaaDoor.Utf

/-- Some bytes stand at a place of a text. -/
def Stands (s : ByteArray) (k : Nat) (t : List UInt8) : Prop := k + t.length ≤ s.size ∧ ∀ i x, t[i]? = some x → (txt s).b (k + i) = x.toNat
theorem stands_app {s : ByteArray} {k : Nat} {t u : List UInt8} (h : Stands s k (t ++ u)) : Stands s k t ∧ Stands s (k + t.length) u := by
  obtain ⟨h1, h2⟩ := h
  rw [List.length_append] at h1
  refine ⟨⟨by omega, fun i x hx => h2 i x ?_⟩, by omega, fun i x hx => ?_⟩
  · rw [List.getElem?_append_left (List.getElem?_eq_some_iff.1 hx).1]; exact hx
  · have := h2 (t.length + i) x (by rw [List.getElem?_append_right (by omega)]; rw [show t.length + i - t.length = i by omega]; exact hx)
    rw [← Nat.add_assoc] at this
    exact this
theorem stands_whole (t : List UInt8) : Stands ⟨t.toArray⟩ 0 t := by
  refine ⟨by simp [ByteArray.size], fun i x hx => ?_⟩
  show ((⟨t.toArray⟩ : ByteArray).get! (0 + i)).toNat = x.toNat
  rw [← Lib.getD_get!', Nat.zero_add, List.getD_eq_getElem?_getD]
  show (t[i]?.getD 0).toNat = x.toNat
  rw [hx]; rfl
theorem ext_b (s : ByteArray) (k i : Nat) : (txt (s.extract k s.size)).b i = (txt s).b (k + i) := by
  show ((s.extract k s.size).get! i).toNat = (s.get! (k + i)).toNat
  by_cases h : k + i < s.size
  · rw [ext_byte s h]
  · rw [get_out s _ (by omega), get_out (s.extract k s.size) i (by rw [ext_size s (Nat.le_refl _)]; omega)]
theorem dc_ascii {s : ByteArray} {k c : Nat} (h : (txt s).b k = c) (hc : c < 128) : (txt s).dc k = (c, 1) := by
  unfold Txt.dc
  rw [h]
  exact dec_one hc
/-- A backslash stands at a place: what it tells is told by what is behind it. -/
theorem sgnE_back {s : ByteArray} {k : Nat} (h : (txt s).b k = 92) : sgnE s k = behindEsc k (escE (txt (s.extract (k + 1) s.size)).b (s.extract (k + 1) s.size).size) := by
  have hd := dc_ascii h (by omega)
  unfold sgnE Txt.ok Txt.r Txt.w
  rw [hd]
  simp
/-- The bytes of a sign that is no backslash stand at a place. -/
theorem sgnE_plain {s : ByteArray} {k n : Nat} (hv : Lib.validRune (n : Int) = true) (h92 : n ≠ 92) (h : Stands s k (encB (n : Int)).data.toList) : sgnE s k = .sgn (n : Int) (k + (encB (n : Int)).data.toList.length) := by
  have hnat := encB_nat n
  have hlen : (encN n).length = (encB (n : Int)).data.toList.length := by rw [← hnat, List.length_map]
  have hne : encN n ≠ [] := by
    have := (encB_size (n : Int) hv).1
    rw [Lib.size_eq, ← hlen] at this
    intro e
    rw [e] at this
    simp at this
  have hd := (txt s).enc k n hne (by rw [hlen]; exact h.1) (fun j x hx => by
    rw [← hnat, List.getElem?_map, Option.map_eq_some_iff] at hx
    obtain ⟨c, hc, rfl⟩ := hx
    exact h.2 j c hc)
  unfold sgnE Txt.ok Txt.r Txt.w
  rw [hd]
  have hok : (decide (n ≠ 65533) || decide (1 < (encN n).length)) = true := by
    by_cases h1 : n = 65533
    · subst h1; decide
    · simp [h1]
  simp only []
  rw [hok, if_neg (by simp), if_pos h92, hlen]
theorem contains3 (n : Nat) (hv : Lib.validRune (n : Int) = true) : Lib.contains esc3.data.toList (encB (n : Int)).data.toList = true ↔ (n = 93 ∨ n = 45 ∨ n = 94) := by
  by_cases h : n < 128
  · have key : ∀ m : Fin 128, Lib.contains esc3.data.toList (encB ((m.val : Nat) : Int)).data.toList = decide (m.val = 93 ∨ m.val = 45 ∨ m.val = 94) := by decide +kernel
    have := key ⟨n, h⟩
    rw [this, decide_eq_true_iff]
  · have hnat := encB_nat n
    have hvi := (valid_iff _).1 hv
    obtain ⟨c, t, hct, hc⟩ : ∃ c t, (encB (n : Int)).data.toList = c :: t ∧ 192 ≤ c.toNat := by
      cases hl : (encB (n : Int)).data.toList with
      | nil =>
        have := (encB_size (n : Int) hv).1
        rw [Lib.size_eq, hl] at this
        simp at this
      | cons c t =>
        refine ⟨c, t, rfl, ?_⟩
        rw [hl] at hnat
        simp only [List.map_cons] at hnat
        unfold encN at hnat
        rw [if_neg (by omega), if_neg h] at hnat
        split at hnat
        · injection hnat with h1 _; omega
        · split at hnat
          · injection hnat with h1 _; omega
          · injection hnat with h1 _; omega
    rw [hct]
    have n1 : (c == 93) = false := by rw [beq_eq_false_iff_ne]; intro e; subst e; simp at hc
    have n2 : (c == 45) = false := by rw [beq_eq_false_iff_ne]; intro e; subst e; simp at hc
    have n3 : (c == 94) = false := by rw [beq_eq_false_iff_ne]; intro e; subst e; simp at hc
    constructor
    · intro hh
      simp [Lib.contains, Lib.index, esc3, List.isPrefixOf, n1, n2, n3] at hh
    · intro hh; omega
theorem digV_digH : ∀ d : Fin 16, digV (digH d.val).toNat = (d.val : Int) := by decide +kernel

theorem hex_read {b : Nat → Nat} {n m : Nat} (hm : m < 256) (hb : ∀ i x, (hexL m)[i]? = some x → b (2 + i) = x.toNat) (he : b (2 + (hexL m).length) = 125) (hn : 2 + (hexL m).length < n) : hexGo b n 6 2 0 = (2 + (hexL m).length, (m : Int)) := by
  have hv125 : digV 125 = -1 := by decide
  unfold hexL at hb he hn ⊢
  by_cases h : m < 16
  · rw [if_pos h] at hb he hn ⊢
    have b2 := hb 0 _ rfl
    simp at hn he b2
    have d2 : digV (b 2) = (m : Int) := by rw [b2]; exact digV_digH ⟨m, h⟩
    rw [hexGo, if_pos ⟨by omega, by rw [d2]; omega⟩, hexGo, if_neg (by rw [show 2 + 1 = 3 from rfl, he, hv125]; omega), d2]
    simp
  · rw [if_neg h] at hb he hn ⊢
    have b2 := hb 0 _ rfl
    have b3 := hb 1 _ rfl
    simp at hn he b2 b3
    have d2 : digV (b 2) = ((m / 16 : Nat) : Int) := by rw [b2]; exact digV_digH ⟨m / 16, by omega⟩
    have d3 : digV (b 3) = ((m % 16 : Nat) : Int) := by rw [b3]; exact digV_digH ⟨m % 16, by omega⟩
    rw [hexGo, if_pos ⟨by omega, by rw [d2]; omega⟩, hexGo, if_pos ⟨by omega, by rw [show 2 + 1 = 3 from rfl, d3]; omega⟩, hexGo, if_neg (by rw [show 2 + 1 + 1 = 4 from rfl, he, hv125]; omega), d2, show 2 + 1 = 3 from rfl, d3]
    simp
    omega

theorem sgn_eq {a b : Int} {m n : Nat} (h1 : a = b) (h2 : m = n) : Sgn.sgn a m = Sgn.sgn b n := by rw [h1, h2]
/-- A sign that is told is read as it was. -/
theorem sgn_back {s : ByteArray} {k : Nat} {r : Int} (hv : Lib.validRune r = true) (h : Stands s k (signS r)) : sgnE s k = .sgn r (k + (signS r).length) := by
  have h0 : 0 ≤ r := by have := (valid_iff r).1 hv; omega
  obtain ⟨n, rfl⟩ := Int.eq_ofNat_of_zero_le h0
  have hsz : (s.extract (k + 1) s.size).size = s.size - (k + 1) := ext_size s (Nat.le_refl _)
  -- the byte behind a backslash
  have esc1 : ∀ c : Nat, ∀ q : Int, signS (n : Int) = [92, UInt8.ofNat c] → c < 256 → q = (n : Int) → (∀ b : Nat → Nat, ∀ m : Nat, m ≠ 0 → b 0 = c → escE b m = some (q, 1)) → sgnE s k = .sgn (n : Int) (k + (signS (n : Int)).length) := fun c q hs hc hq hesc => by
    rw [hs] at h ⊢
    have b0 := h.2 0 92 rfl
    have b1 := h.2 1 (UInt8.ofNat c) rfl
    have hl := h.1
    rw [Nat.add_zero] at b0
    simp at hl
    rw [sgnE_back b0, hesc _ _ (by rw [hsz]; omega) (by rw [ext_b, Nat.add_zero, b1, UInt8.toNat_ofNat']; omega), hq]
    rfl
  have hsg : signS (n : Int) = (signB (n : Int) esc3).data.toList := rfl
  unfold signB at hsg
  split at hsg
  · rename_i e
    exact esc1 110 10 hsg (by omega) e.symm (fun b m hm hb => by unfold escE; rw [if_neg hm, if_pos hb])
  split at hsg
  · rename_i e
    exact esc1 116 9 hsg (by omega) e.symm (fun b m hm hb => by unfold escE; rw [if_neg hm, if_neg (by omega), if_pos hb])
  split at hsg
  · rename_i e
    exact esc1 114 13 hsg (by omega) e.symm (fun b m hm hb => by unfold escE; rw [if_neg hm, if_neg (by omega), if_neg (by omega), if_pos hb])
  split at hsg
  · rename_i hcase
    have hn : n = 92 ∨ n = 93 ∨ n = 45 ∨ n = 94 := by
      rcases hcase with e | e
      · left; omega
      · rcases (contains3 n hv).1 e with e | e | e <;> omega
    have hs2 : signS (n : Int) = [92, UInt8.ofNat n] := by
      rw [hsg]
      rcases hn with rfl | rfl | rfl | rfl <;> decide +kernel
    refine esc1 n (n : Int) hs2 (by omega) rfl (fun b m hm hb => ?_)
    unfold escE
    rw [if_neg hm, if_neg (by omega), if_neg (by omega), if_neg (by omega), if_pos (by omega), hb]
  split at hsg
  · rename_i h1 h2 h3 h4 h5
    have hs2 : signS (n : Int) = (encB (n : Int)).data.toList := hsg
    rw [hs2] at h ⊢
    exact sgnE_plain hv (fun e => h4 (.inl (by omega))) h
  · rename_i h1 h2 h3 h4 h5
    have hn : n < 256 := by omega
    have hs2 : signS (n : Int) = [92, 117, 123] ++ (hexL n ++ [125]) := by
      rw [hsg, Int.toNat_natCast]
      simp
    rw [hs2] at h ⊢
    obtain ⟨ha, hb⟩ := stands_app h
    obtain ⟨hb, hc⟩ := stands_app hb
    have b0 := ha.2 0 92 rfl
    have b1 := ha.2 1 117 rfl
    have b2 := ha.2 2 123 rfl
    have be := hc.2 0 125 rfl
    have hl := h.1
    rw [Nat.add_zero] at b0
    simp at hl
    have hx : ∀ i x, (hexL n)[i]? = some x → (txt (s.extract (k + 1) s.size)).b (2 + i) = x.toNat := fun i x hx => by
      rw [ext_b]
      have := hb.2 i x hx
      simp at this
      rw [show k + 1 + (2 + i) = k + 3 + i by omega]
      exact this
    have hy : (txt (s.extract (k + 1) s.size)).b (2 + (hexL n).length) = 125 := by
      rw [ext_b]
      simp at be
      rw [show k + 1 + (2 + (hexL n).length) = k + 3 + (hexL n).length by omega]
      exact be
    have hg := hex_read hn hx hy (n := (s.extract (k + 1) s.size).size) (by rw [hsz]; omega)
    have hlen : 1 ≤ (hexL n).length := by unfold hexL; split <;> simp
    rw [sgnE_back b0]
    unfold escE
    have e0 : (txt (s.extract (k + 1) s.size)).b 0 = 117 := by rw [ext_b, Nat.add_zero]; exact b1
    have e1 : (txt (s.extract (k + 1) s.size)).b 1 = 123 := by rw [ext_b, show k + 1 + 1 = k + 2 from rfl]; exact b2
    rw [if_neg (by rw [hsz]; omega), e0, if_neg (by omega), if_neg (by omega), if_neg (by omega), if_neg (by omega), if_pos rfl]
    unfold numE
    rw [hg]
    simp only []
    rw [if_neg (by rw [hsz, e1]; omega), if_neg (by rw [hsz, hy]; omega), if_pos hv]
    unfold behindEsc
    simp only []
    refine sgn_eq rfl ?_
    simp
    omega

theorem sign_first (r : Int) (hv : Lib.validRune r = true) : ∃ c t, signS r = c :: t ∧ c ≠ 45 := by
  have h0 : 0 ≤ r := by have := (valid_iff r).1 hv; omega
  obtain ⟨n, rfl⟩ := Int.eq_ofNat_of_zero_le h0
  have hsg : signS (n : Int) = (signB (n : Int) esc3).data.toList := rfl
  unfold signB at hsg
  split at hsg
  · exact ⟨92, [110], hsg, by decide⟩
  split at hsg
  · exact ⟨92, [116], hsg, by decide⟩
  split at hsg
  · exact ⟨92, [114], hsg, by decide⟩
  split at hsg
  · refine ⟨92, (encB (n : Int)).data.toList, ?_, by decide⟩
    rw [hsg]; clear hsg; generalize encB (n : Int) = e; cases e; simp
  split at hsg
  · rename_i h1 h2 h3 h4 h5
    cases hl : (encB (n : Int)).data.toList with
    | nil =>
      have := (encB_size (n : Int) hv).1
      rw [Lib.size_eq, hl] at this
      simp at this
    | cons c t =>
      refine ⟨c, t, hsg.trans hl, ?_⟩
      rintro rfl
      have hnat := encB_nat n
      have hvi := (valid_iff _).1 hv
      rw [hl] at hnat
      simp only [List.map_cons] at hnat
      have h45 : n ≠ 45 := fun e => h4 (.inr ((contains3 n hv).2 (.inr (.inl e))))
      unfold encN at hnat
      rw [if_neg (by omega)] at hnat
      have e45 : (45 : UInt8).toNat = 45 := rfl
      rw [e45] at hnat
      repeat' (split at hnat)
      all_goals (have a := (List.cons.inj hnat).1; clear hnat; omega)
  · refine ⟨92, [117, 123] ++ (hexL (n : Int).toNat ++ [125]), ?_, by decide⟩
    rw [hsg]; simp

end Go.Proofs.YtfjlhfalnciamaaDoor.Chars
