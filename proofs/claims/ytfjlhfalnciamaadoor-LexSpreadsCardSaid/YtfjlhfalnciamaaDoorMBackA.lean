/- Package texts, merged: CharsBackA, CharsBackB. -/
import Derived.Test.YtfjlhfalnciamaaDoorMCharsS

namespace Go.Proofs.YtfjlhfalnciamaaDoor.Chars
open Go Go.RowKit Go.Proofs.Chars
open Go.Proofs.YtfjlhfalnciamaaDoor.Utf

/-- Some bytes stand at a place of a text. -/
def Stands (s : ByteArray) (k : Nat) (t : List UInt8) : Prop := k + t.length ≤ s.size ∧ ∀ i x, t[i]? = some x → (txt s).b (k + i) = x.toNat
theorem stands_app {s : ByteArray} {k : Nat} {t u : List UInt8} (h : Stands s k (t ++ u)) : Stands s k t ∧ Stands s (k + t.length) u := by
  obtain ⟨h1, h2⟩ := h
  rw [List.length_append] at h1
  refine ⟨⟨by omega, fun i x hx => h2 i x ?_⟩, by omega, fun i x hx => ?_⟩
  · rw [List.getElem?_append_left (List.getElem?_eq_some_iff.1 hx).1]; exact hx
  · have := h2 (t.length + i) x (by rw [List.getElem?_append_right (by omega)]; rw [show t.length + i - t.length = i by omega]; exact hx)
    rw [← Nat.add_assoc] at this
    exact this
theorem stands_whole (t : List UInt8) : Stands ⟨t.toArray⟩ 0 t := by
  refine ⟨by simp [ByteArray.size], fun i x hx => ?_⟩
  show ((⟨t.toArray⟩ : ByteArray).get! (0 + i)).toNat = x.toNat
  rw [← Lib.getD_get!', Nat.zero_add, List.getD_eq_getElem?_getD]
  show (t[i]?.getD 0).toNat = x.toNat
  rw [hx]; rfl
theorem ext_b (s : ByteArray) (k i : Nat) : (txt (s.extract k s.size)).b i = (txt s).b (k + i) := by
  show ((s.extract k s.size).get! i).toNat = (s.get! (k + i)).toNat
  by_cases h : k + i < s.size
  · rw [ext_byte s h]
  · rw [get_out s _ (by omega), get_out (s.extract k s.size) i (by rw [ext_size s (Nat.le_refl _)]; omega)]
theorem dc_ascii {s : ByteArray} {k c : Nat} (h : (txt s).b k = c) (hc : c < 128) : (txt s).dc k = (c, 1) := by
  unfold Txt.dc
  rw [h]
  exact dec_one hc
/-- A backslash stands at a place: what it tells is told by what is behind it. -/
theorem sgnE_back {s : ByteArray} {k : Nat} (h : (txt s).b k = 92) : sgnE s k = behindEsc k (escE (txt (s.extract (k + 1) s.size)).b (s.extract (k + 1) s.size).size) := by
  have hd := dc_ascii h (by omega)
  unfold sgnE Txt.ok Txt.r Txt.w
  rw [hd]
  simp
/-- The bytes of a sign that is no backslash stand at a place. -/
theorem sgnE_plain {s : ByteArray} {k n : Nat} (hv : Lib.validRune (n : Int) = true) (h92 : n ≠ 92) (h : Stands s k (encB (n : Int)).data.toList) : sgnE s k = .sgn (n : Int) (k + (encB (n : Int)).data.toList.length) := by
  have hnat := encB_nat n
  have hlen : (encN n).length = (encB (n : Int)).data.toList.length := by rw [← hnat, List.length_map]
  have hne : encN n ≠ [] := by
    have := (encB_size (n : Int) hv).1
    rw [Lib.size_eq, ← hlen] at this
    intro e
    rw [e] at this
    simp at this
  have hd := (txt s).enc k n hne (by rw [hlen]; exact h.1) (fun j x hx => by
    rw [← hnat, List.getElem?_map, Option.map_eq_some_iff] at hx
    obtain ⟨c, hc, rfl⟩ := hx
    exact h.2 j c hc)
  unfold sgnE Txt.ok Txt.r Txt.w
  rw [hd]
  have hok : (decide (n ≠ 65533) || decide (1 < (encN n).length)) = true := by
    by_cases h1 : n = 65533
    · subst h1; decide
    · simp [h1]
  simp only []
  rw [hok, if_neg (by simp), if_pos h92, hlen]
theorem contains3 (n : Nat) (hv : Lib.validRune (n : Int) = true) : Lib.contains esc3.data.toList (encB (n : Int)).data.toList = true ↔ (n = 93 ∨ n = 45 ∨ n = 94) := by
  by_cases h : n < 128
  · have key : ∀ m : Fin 128, Lib.contains esc3.data.toList (encB ((m.val : Nat) : Int)).data.toList = decide (m.val = 93 ∨ m.val = 45 ∨ m.val = 94) := by decide +kernel
    have := key ⟨n, h⟩
    rw [this, decide_eq_true_iff]
  · have hnat := encB_nat n
    have hvi := (valid_iff _).1 hv
    obtain ⟨c, t, hct, hc⟩ : ∃ c t, (encB (n : Int)).data.toList = c :: t ∧ 192 ≤ c.toNat := by
      cases hl : (encB (n : Int)).data.toList with
      | nil =>
        have := (encB_size (n : Int) hv).1
        rw [Lib.size_eq, hl] at this
        simp at this
      | cons c t =>
        refine ⟨c, t, rfl, ?_⟩
        rw [hl] at hnat
        simp only [List.map_cons] at hnat
        unfold encN at hnat
        rw [if_neg (by omega), if_neg h] at hnat
        split at hnat
        · injection hnat with h1 _; omega
        · split at hnat
          · injection hnat with h1 _; omega
          · injection hnat with h1 _; omega
    rw [hct]
    have n1 : (c == 93) = false := by rw [beq_eq_false_iff_ne]; intro e; subst e; simp at hc
    have n2 : (c == 45) = false := by rw [beq_eq_false_iff_ne]; intro e; subst e; simp at hc
    have n3 : (c == 94) = false := by rw [beq_eq_false_iff_ne]; intro e; subst e; simp at hc
    constructor
    · intro hh
      simp [Lib.contains, Lib.index, esc3, List.isPrefixOf, n1, n2, n3] at hh
    · intro hh; omega
theorem digV_digH : ∀ d : Fin 16, digV (digH d.val).toNat = (d.val : Int) := by decide +kernel

theorem hex_read {b : Nat → Nat} {n m : Nat} (hm : m < 256) (hb : ∀ i x, (hexL m)[i]? = some x → b (2 + i) = x.toNat) (he : b (2 + (hexL m).length) = 125) (hn : 2 + (hexL m).length < n) : hexGo b n 6 2 0 = (2 + (hexL m).length, (m : Int)) := by
  have hv125 : digV 125 = -1 := by decide
  unfold hexL at hb he hn ⊢
  by_cases h : m < 16
  · rw [if_pos h] at hb he hn ⊢
    have b2 := hb 0 _ rfl
    simp at hn he b2
    have d2 : digV (b 2) = (m : Int) := by rw [b2]; exact digV_digH ⟨m, h⟩
    rw [hexGo, if_pos ⟨by omega, by rw [d2]; omega⟩, hexGo, if_neg (by rw [show 2 + 1 = 3 from rfl, he, hv125]; omega), d2]
    simp
  · rw [if_neg h] at hb he hn ⊢
    have b2 := hb 0 _ rfl
    have b3 := hb 1 _ rfl
    simp at hn he b2 b3
    have d2 : digV (b 2) = ((m / 16 : Nat) : Int) := by rw [b2]; exact digV_digH ⟨m / 16, by omega⟩
    have d3 : digV (b 3) = ((m % 16 : Nat) : Int) := by rw [b3]; exact digV_digH ⟨m % 16, by omega⟩
    rw [hexGo, if_pos ⟨by omega, by rw [d2]; omega⟩, hexGo, if_pos ⟨by omega, by rw [show 2 + 1 = 3 from rfl, d3]; omega⟩, hexGo, if_neg (by rw [show 2 + 1 + 1 = 4 from rfl, he, hv125]; omega), d2, show 2 + 1 = 3 from rfl, d3]
    simp
    omega

theorem sgn_eq {a b : Int} {m n : Nat} (h1 : a = b) (h2 : m = n) : Sgn.sgn a m = Sgn.sgn b n := by rw [h1, h2]
/-- A sign that is told is read as it was. -/
theorem sgn_back {s : ByteArray} {k : Nat} {r : Int} (hv : Lib.validRune r = true) (h : Stands s k (signS r)) : sgnE s k = .sgn r (k + (signS r).length) := by
  have h0 : 0 ≤ r := by have := (valid_iff r).1 hv; omega
  obtain ⟨n, rfl⟩ := Int.eq_ofNat_of_zero_le h0
  have hsz : (s.extract (k + 1) s.size).size = s.size - (k + 1) := ext_size s (Nat.le_refl _)
  -- the byte behind a backslash
  have esc1 : ∀ c : Nat, ∀ q : Int, signS (n : Int) = [92, UInt8.ofNat c] → c < 256 → q = (n : Int) → (∀ b : Nat → Nat, ∀ m : Nat, m ≠ 0 → b 0 = c → escE b m = some (q, 1)) → sgnE s k = .sgn (n : Int) (k + (signS (n : Int)).length) := fun c q hs hc hq hesc => by
    rw [hs] at h ⊢
    have b0 := h.2 0 92 rfl
    have b1 := h.2 1 (UInt8.ofNat c) rfl
    have hl := h.1
    rw [Nat.add_zero] at b0
    simp at hl
    rw [sgnE_back b0, hesc _ _ (by rw [hsz]; omega) (by rw [ext_b, Nat.add_zero, b1, UInt8.toNat_ofNat']; omega), hq]
    rfl
  have hsg : signS (n : Int) = (signB (n : Int) esc3).data.toList := rfl
  unfold signB at hsg
  split at hsg
  · rename_i e
    exact esc1 110 10 hsg (by omega) e.symm (fun b m hm hb => by unfold escE; rw [if_neg hm, if_pos hb])
  split at hsg
  · rename_i e
    exact esc1 116 9 hsg (by omega) e.symm (fun b m hm hb => by unfold escE; rw [if_neg hm, if_neg (by omega), if_pos hb])
  split at hsg
  · rename_i e
    exact esc1 114 13 hsg (by omega) e.symm (fun b m hm hb => by unfold escE; rw [if_neg hm, if_neg (by omega), if_neg (by omega), if_pos hb])
  split at hsg
  · rename_i hcase
    have hn : n = 92 ∨ n = 93 ∨ n = 45 ∨ n = 94 := by
      rcases hcase with e | e
      · left; omega
      · rcases (contains3 n hv).1 e with e | e | e <;> omega
    have hs2 : signS (n : Int) = [92, UInt8.ofNat n] := by
      rw [hsg]
      rcases hn with rfl | rfl | rfl | rfl <;> decide +kernel
    refine esc1 n (n : Int) hs2 (by omega) rfl (fun b m hm hb => ?_)
    unfold escE
    rw [if_neg hm, if_neg (by omega), if_neg (by omega), if_neg (by omega), if_pos (by omega), hb]
  split at hsg
  · rename_i h1 h2 h3 h4 h5
    have hs2 : signS (n : Int) = (encB (n : Int)).data.toList := hsg
    rw [hs2] at h ⊢
    exact sgnE_plain hv (fun e => h4 (.inl (by omega))) h
  · rename_i h1 h2 h3 h4 h5
    have hn : n < 256 := by omega
    have hs2 : signS (n : Int) = [92, 117, 123] ++ (hexL n ++ [125]) := by
      rw [hsg, Int.toNat_natCast]
      simp
    rw [hs2] at h ⊢
    obtain ⟨ha, hb⟩ := stands_app h
    obtain ⟨hb, hc⟩ := stands_app hb
    have b0 := ha.2 0 92 rfl
    have b1 := ha.2 1 117 rfl
    have b2 := ha.2 2 123 rfl
    have be := hc.2 0 125 rfl
    have hl := h.1
    rw [Nat.add_zero] at b0
    simp at hl
    have hx : ∀ i x, (hexL n)[i]? = some x → (txt (s.extract (k + 1) s.size)).b (2 + i) = x.toNat := fun i x hx => by
      rw [ext_b]
      have := hb.2 i x hx
      simp at this
      rw [show k + 1 + (2 + i) = k + 3 + i by omega]
      exact this
    have hy : (txt (s.extract (k + 1) s.size)).b (2 + (hexL n).length) = 125 := by
      rw [ext_b]
      simp at be
      rw [show k + 1 + (2 + (hexL n).length) = k + 3 + (hexL n).length by omega]
      exact be
    have hg := hex_read hn hx hy (n := (s.extract (k + 1) s.size).size) (by rw [hsz]; omega)
    have hlen : 1 ≤ (hexL n).length := by unfold hexL; split <;> simp
    rw [sgnE_back b0]
    unfold escE
    have e0 : (txt (s.extract (k + 1) s.size)).b 0 = 117 := by rw [ext_b, Nat.add_zero]; exact b1
    have e1 : (txt (s.extract (k + 1) s.size)).b 1 = 123 := by rw [ext_b, show k + 1 + 1 = k + 2 from rfl]; exact b2
    rw [if_neg (by rw [hsz]; omega), e0, if_neg (by omega), if_neg (by omega), if_neg (by omega), if_neg (by omega), if_pos rfl]
    unfold numE
    rw [hg]
    simp only []
    rw [if_neg (by rw [hsz, e1]; omega), if_neg (by rw [hsz, hy]; omega), if_pos hv]
    unfold behindEsc
    simp only []
    refine sgn_eq rfl ?_
    simp
    omega

theorem sign_first (r : Int) (hv : Lib.validRune r = true) : ∃ c t, signS r = c :: t ∧ c ≠ 45 := by
  have h0 : 0 ≤ r := by have := (valid_iff r).1 hv; omega
  obtain ⟨n, rfl⟩ := Int.eq_ofNat_of_zero_le h0
  have hsg : signS (n : Int) = (signB (n : Int) esc3).data.toList := rfl
  unfold signB at hsg
  split at hsg
  · exact ⟨92, [110], hsg, by decide⟩
  split at hsg
  · exact ⟨92, [116], hsg, by decide⟩
  split at hsg
  · exact ⟨92, [114], hsg, by decide⟩
  split at hsg
  · refine ⟨92, (encB (n : Int)).data.toList, ?_, by decide⟩
    rw [hsg]; clear hsg; generalize encB (n : Int) = e; cases e; simp
  split at hsg
  · rename_i h1 h2 h3 h4 h5
    cases hl : (encB (n : Int)).data.toList with
    | nil =>
      have := (encB_size (n : Int) hv).1
      rw [Lib.size_eq, hl] at this
      simp at this
    | cons c t =>
      refine ⟨c, t, hsg.trans hl, ?_⟩
      rintro rfl
      have hnat := encB_nat n
      have hvi := (valid_iff _).1 hv
      rw [hl] at hnat
      simp only [List.map_cons] at hnat
      have h45 : n ≠ 45 := fun e => h4 (.inr ((contains3 n hv).2 (.inr (.inl e))))
      unfold encN at hnat
      rw [if_neg (by omega)] at hnat
      have e45 : (45 : UInt8).toNat = 45 := rfl
      rw [e45] at hnat
      repeat' (split at hnat)
      all_goals (have a := (List.cons.inj hnat).1; clear hnat; omega)
  · refine ⟨92, [117, 123] ++ (hexL (n : Int).toNat ++ [125]), ?_, by decide⟩
    rw [hsg]; simp

end Go.Proofs.YtfjlhfalnciamaaDoor.Chars

namespace Go.Proofs.YtfjlhfalnciamaaDoor.Chars
open Go Go.RowKit Go.Proofs.Chars
open Go.Proofs.YtfjlhfalnciamaaDoor.Utf

/-- How a range is read again. -/
def againR (x : Rg) : List Rg := if x.1 = x.2 then [(x.1, x.1)] else if x.1 + 1 < x.2 then [(x.1, x.2)] else [(x.1, x.1), (x.2, x.2)]
def againL (O : List Rg) : List Rg := O.flatMap againR
theorem again_mem {O : List Rg} (h : ∀ x ∈ O, x.1 ≤ x.2) (r : Int) : memU (againL O) r ↔ memU O r := by
  have key : (∃ y ∈ againL O, y.1 ≤ r ∧ r ≤ y.2) ↔ ∃ x ∈ O, x.1 ≤ r ∧ r ≤ x.2 := by
    constructor
    · rintro ⟨y, hy, h1, h2⟩
      obtain ⟨x, hx, hy⟩ := List.mem_flatMap.1 hy
      refine ⟨x, hx, ?_⟩
      have := h x hx
      unfold againR at hy
      split at hy
      · simp at hy; subst hy; simp at h1 h2; omega
      · split at hy
        · simp at hy; subst hy; exact ⟨h1, h2⟩
        · simp at hy
          rcases hy with rfl | rfl
          · simp at h1 h2; omega
          · simp at h1 h2; omega
    · rintro ⟨x, hx, h1, h2⟩
      have := h x hx
      by_cases e : x.1 = x.2
      · exact ⟨(x.1, x.1), List.mem_flatMap.2 ⟨x, hx, by unfold againR; rw [if_pos e]; simp⟩, h1, by show r ≤ x.1; omega⟩
      · by_cases g : x.1 + 1 < x.2
        · exact ⟨(x.1, x.2), List.mem_flatMap.2 ⟨x, hx, by unfold againR; rw [if_neg e, if_pos g]; simp⟩, h1, h2⟩
        · by_cases e2 : r = x.1
          · exact ⟨(x.1, x.1), List.mem_flatMap.2 ⟨x, hx, by unfold againR; rw [if_neg e, if_neg g]; simp⟩, h1, by show r ≤ x.1; omega⟩
          · exact ⟨(x.2, x.2), List.mem_flatMap.2 ⟨x, hx, by unfold againR; rw [if_neg e, if_neg g]; simp⟩, by show x.2 ≤ r; omega, h2⟩
  unfold memU
  rw [key]
/-- No '-' stands at a place, or the text ends there. -/
def NoDash (s : ByteArray) (k : Nat) : Prop := s.size ≤ k ∨ (txt s).b k ≠ 45
theorem stands_first {s : ByteArray} {k : Nat} {c : UInt8} {t : List UInt8} (h : Stands s k (c :: t)) : (txt s).b k = c.toNat ∧ k < s.size := by
  have h1 := h.2 0 c rfl
  have h2 := h.1
  rw [Nat.add_zero] at h1
  simp at h2
  exact ⟨h1, by omega⟩
theorem read_one {s : ByteArray} {k f : Nat} {l : List Rg} {r : Int} (hv : Lib.validRune r = true) (h : Stands s k (signS r)) (hn : NoDash s (k + (signS r).length)) (hf : 1 ≤ f) :
    readGo s f k l = readGo s (f - 1) (k + (signS r).length) (l ++ [(r, r)]) := by
  obtain ⟨f, rfl⟩ : ∃ g, f = g + 1 := ⟨f - 1, by omega⟩
  obtain ⟨c, t, hs, _⟩ := sign_first r hv
  have hk : k < s.size := by have := h; rw [hs] at this; exact (stands_first this).2
  rw [readGo, if_pos hk, sgn_back hv h]
  simp only []
  rw [if_neg (by
    rintro ⟨h1, h2⟩
    rcases hn with h3 | h3
    · omega
    · exact h3 h2)]
  rfl
theorem dash_first {s : ByteArray} {k : Nat} {r : Int} (hv : Lib.validRune r = true) (h : Stands s k (signS r)) : NoDash s k := by
  obtain ⟨c, t, hs, hc⟩ := sign_first r hv
  rw [hs] at h
  right
  rw [(stands_first h).1]
  intro e
  exact hc (UInt8.toNat_inj.1 (by rw [e]; rfl))
/-- A range that is told is read again. -/
theorem read_piece {s : ByteArray} {k f : Nat} {l : List Rg} {x : Rg} (h1 : Lib.validRune x.1 = true) (h2 : Lib.validRune x.2 = true) (_ : x.1 ≤ x.2) (h : Stands s k (pieceT x)) (hn : NoDash s (k + (pieceT x).length)) (hf : (pieceT x).length ≤ f) :
    ∃ f', f - (pieceT x).length ≤ f' ∧ readGo s f k l = readGo s f' (k + (pieceT x).length) (l ++ againR x) := by
  unfold pieceT at h hn hf ⊢
  unfold againR
  obtain ⟨c1, t1, hs1, _⟩ := sign_first x.1 h1
  obtain ⟨c2, t2, hs2, _⟩ := sign_first x.2 h2
  have l1 : 1 ≤ (signS x.1).length := by rw [hs1]; simp
  have l2 : 1 ≤ (signS x.2).length := by rw [hs2]; simp
  by_cases e : x.1 = x.2
  · rw [if_pos e, List.append_nil] at h hn hf ⊢
    rw [if_pos e]
    exact ⟨f - 1, by omega, read_one h1 h hn (by omega)⟩
  · rw [if_neg e] at h hn hf ⊢
    rw [if_neg e]
    obtain ⟨ha, hb⟩ := stands_app h
    by_cases g : x.1 + 1 < x.2
    · rw [if_pos g] at hb hn hf ⊢
      rw [if_pos g]
      obtain ⟨hd, hc⟩ := stands_app hb
      have hdash := stands_first (t := []) hd
      simp only [List.length_singleton] at hc
      have hk : k < s.size := by have := ha; rw [hs1] at this; exact (stands_first this).2
      have hk2 : k + (signS x.1).length + 1 < s.size := by have := hc; rw [hs2] at this; exact (stands_first this).2
      rw [List.length_append, List.length_append, List.length_singleton] at hf ⊢
      obtain ⟨f, rfl⟩ : ∃ q, f = q + 1 := ⟨f - 1, by omega⟩
      refine ⟨f, by omega, ?_⟩
      rw [readGo, if_pos hk, sgn_back h1 ha]
      simp only []
      rw [if_pos ⟨hk2, by rw [hdash.1]; rfl⟩, sgn_back h2 hc]
      simp only []
      rw [if_neg (by omega), show k + (signS x.1).length + 1 + (signS x.2).length = k + ((signS x.1).length + (1 + (signS x.2).length)) by omega]
    · rw [if_neg g, List.nil_append] at hb hn hf ⊢
      rw [if_neg g]
      rw [List.length_append] at hf hn ⊢
      refine ⟨f - 1 - 1, by omega, ?_⟩
      rw [read_one h1 ha (dash_first h2 hb) (by omega), read_one h2 hb (by rw [Nat.add_assoc]; exact hn) (by omega), Nat.add_assoc, List.append_assoc]
      rfl
theorem read_all {s : ByteArray} : ∀ (O : List Rg) (k f : Nat) (l : List Rg), (∀ x ∈ O, Lib.validRune x.1 = true ∧ Lib.validRune x.2 = true ∧ x.1 ≤ x.2) → Stands s k (textL O) → k + (textL O).length = s.size → (textL O).length ≤ f →
    readGo s f k l = .good (l ++ againL O)
  | [], k, f, l, _, _, hk, _ => by
    have hk' : k = s.size := by simpa [textL] using hk
    cases f with
    | zero => rw [readGo]; simp [againL]
    | succ f => rw [readGo, if_neg (by omega)]; simp [againL]
  | x :: O, k, f, l, hv, h, hk, hf => by
    have hx := hv x List.mem_cons_self
    have e : textL (x :: O) = pieceT x ++ textL O := by simp [textL]
    rw [e] at h hk hf
    rw [List.length_append] at hk hf
    obtain ⟨ha, hb⟩ := stands_app h
    have hn : NoDash s (k + (pieceT x).length) := by
      cases O with
      | nil => left; simp [textL] at hk; omega
      | cons y O =>
        have hy := hv y (List.mem_cons_of_mem _ List.mem_cons_self)
        have e2 : textL (y :: O) = signS y.1 ++ ((if y.1 = y.2 then [] else (if y.1 + 1 < y.2 then [45] else []) ++ signS y.2) ++ textL O) := by simp [textL, pieceT]
        rw [e2] at hb
        exact dash_first hy.1 (stands_app hb).1
    obtain ⟨f', hf', hr⟩ := read_piece (f := f) (l := l) hx.1 hx.2.1 hx.2.2 ha hn (by omega)
    rw [hr, read_all O _ f' _ (fun y hy => hv y (List.mem_cons_of_mem _ hy)) hb (by omega) (by omega), List.append_assoc]
    congr 1
/-- What is told of a set that has a sign is read as it. -/
theorem text_read {O : List Rg} (hv : ∀ x ∈ O, Lib.validRune x.1 = true ∧ Lib.validRune x.2 = true ∧ x.1 ≤ x.2) (hne : O ≠ []) : readE ⟨(textL O).toArray⟩ = .good (againL O) := by
  have hsz : (⟨(textL O).toArray⟩ : ByteArray).size = (textL O).length := by simp [ByteArray.size]
  unfold readE
  rw [if_neg (by
    rw [hsz]
    cases O with
    | nil => exact absurd rfl hne
    | cons x O =>
      obtain ⟨c, t, hs, _⟩ := sign_first x.1 (hv x List.mem_cons_self).1
      have e2 : textL (x :: O) = signS x.1 ++ ((if x.1 = x.2 then [] else (if x.1 + 1 < x.2 then [45] else []) ++ signS x.2) ++ textL O) := by simp [textL, pieceT]
      rw [e2, hs]
      simp)]
  rw [read_all O 0 _ [] hv (stands_whole _) (by rw [hsz]; omega) (by rw [hsz]; omega)]
  rfl
theorem text_none : readE ⟨(textL []).toArray⟩ = .bad 14 0 := by
  kernel_rfl
/-- What is read has a sign. -/
theorem read_some {s : ByteArray} : ∀ (f a : Nat) (l m : List Rg), readGo s f a l = .good m → ∃ q, m = l ++ q ∧ (∀ x ∈ q, Lib.validRune x.1 = true ∧ Lib.validRune x.2 = true ∧ x.1 ≤ x.2) ∧ (a < s.size → 1 ≤ f → q ≠ [])
  | 0, a, l, m, h => by
    rw [readGo] at h
    cases h
    exact ⟨[], by simp, by simp, fun _ h => by omega⟩
  | f + 1, a, l, m, h => by
    rw [readGo] at h
    by_cases ha : a < s.size
    · rw [if_pos ha] at h
      cases hs : sgnE s a with
      | err c => rw [hs] at h; cases h
      | sgn lo nx =>
        rw [hs] at h
        simp only [] at h
        have h1 := sgnE_in ha hs
        split at h
        · rename_i hd
          cases hs2 : sgnE s (nx + 1) with
          | err c => rw [hs2] at h; cases h
          | sgn hi n2 =>
            rw [hs2] at h
            simp only [] at h
            have h2 := sgnE_in hd.1 hs2
            split at h
            · cases h
            · rename_i hle
              obtain ⟨q, e1, e2, _⟩ := read_some f n2 _ m h
              refine ⟨(lo, hi) :: q, by rw [e1]; simp, fun x hx => ?_, fun _ _ => by simp⟩
              rcases List.mem_cons.1 hx with rfl | hx
              · exact ⟨h1.1, h2.1, by show lo ≤ hi; omega⟩
              · exact e2 x hx
        · obtain ⟨q, e1, e2, _⟩ := read_some f nx _ m h
          refine ⟨(lo, lo) :: q, by rw [e1]; simp, fun x hx => ?_, fun _ _ => by simp⟩
          rcases List.mem_cons.1 hx with rfl | hx
          · exact ⟨h1.1, h1.1, Int.le_refl _⟩
          · exact e2 x hx
    · rw [if_neg ha] at h
      cases h
      exact ⟨[], by simp, by simp, fun h => absurd h ha⟩
theorem good_some {s : ByteArray} {l : List Rg} (h : readE s = .good l) : ∃ r, memU l r ∧ ¬ memU sur r := by
  unfold readE at h
  split at h
  · cases h
  · rename_i h0
    obtain ⟨q, e1, h2, h3⟩ := read_some _ _ _ _ h
    rw [List.nil_append] at e1
    subst e1
    have hq := h3 (by omega) (by omega)
    cases l with
    | nil => exact absurd rfl hq
    | cons x q =>
      have hx := h2 x List.mem_cons_self
      have hv := (valid_iff x.1).1 hx.1
      refine ⟨x.1, ⟨by omega, by unfold most; omega, x, List.mem_cons_self, Int.le_refl _, hx.2.2⟩, fun hh => ?_⟩
      obtain ⟨_, _, y, hy, h5, h6⟩ := hh
      simp [sur] at hy
      subst hy
      simp at h5 h6
      omega

end Go.Proofs.YtfjlhfalnciamaaDoor.Chars
