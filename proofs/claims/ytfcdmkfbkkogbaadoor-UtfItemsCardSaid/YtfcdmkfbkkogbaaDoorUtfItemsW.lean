/- The law UtfItems, walked. -/
import Derived.Test.YtfcdmkfbkkogbaaDoorUtfN
namespace Go.Proofs.YtfcdmkfbkkogbaaDoor.Utf
open Go Go.RowKit

/-- All of the first k items are signs. -/
def rightTo (t : Txt) : Nat → Bool
  | 0 => true
  | k + 1 => rightTo t k && t.ok (t.pos k)
/-- One of the first k items begins at a place, or the text ends there. -/
def caretTo (t : Txt) (a : Int) : Nat → Bool
  | 0 => a == (t.n : Int)
  | k + 1 => caretTo t a k || ((t.pos k : Int) == a)
theorem rightTo_iff (t : Txt) : ∀ k, rightTo t k = true ↔ ∀ j, j < k → t.ok (t.pos j) = true
  | 0 => by simp [rightTo]
  | k + 1 => by
    rw [rightTo, Bool.and_eq_true, rightTo_iff t k]
    constructor
    · rintro ⟨h1, h2⟩ j hj
      by_cases e : j = k
      · subst e; exact h2
      · exact h1 j (by omega)
    · intro h; exact ⟨fun j hj => h j (by omega), h k (by omega)⟩
theorem right_is (s : ByteArray) : rightB s = rightTo (txt s) (txt s).cnt := by
  rw [Bool.eq_iff_iff, rightTo_iff]
  exact valid_txt s
theorem caretTo_iff (t : Txt) (a : Int) : ∀ k, caretTo t a k = true ↔ a = (t.n : Int) ∨ ∃ j, j < k ∧ (t.pos j : Int) = a
  | 0 => by simp [caretTo]
  | k + 1 => by
    rw [caretTo, Bool.or_eq_true, caretTo_iff t a k, beq_iff_eq]
    constructor
    · rintro ((h | ⟨j, h1, h2⟩) | h)
      · exact .inl h
      · exact .inr ⟨j, by omega, h2⟩
      · exact .inr ⟨k, by omega, h⟩
    · rintro (h | ⟨j, h1, h2⟩)
      · exact .inl (.inl h)
      · by_cases e : j = k
        · subst e; exact .inr h2
        · exact .inl (.inr ⟨j, by omega, h2⟩)
theorem caret_is (t : Txt) (a : Int) : caretB t a = caretTo t a t.cnt := by
  rw [Bool.eq_iff_iff, caretTo_iff]
  by_cases h0 : a < 0
  · rw [caret_no t (.inl h0)]
    constructor
    · intro h; cases h
    · rintro (h | ⟨j, _, h⟩) <;> omega
  obtain ⟨k, rfl⟩ := Int.eq_ofNat_of_zero_le (show 0 ≤ a by omega)
  rw [caret_iff]
  constructor
  · rintro ⟨h1, j, h2⟩
    by_cases e : k = t.n
    · exact .inl (by omega)
    · exact .inr ⟨j, t.lt_cnt (by omega), by omega⟩
  · rintro (h | ⟨j, h1, h2⟩)
    · have : k = t.n := by omega
      exact ⟨by omega, t.cnt, by rw [t.pos_cnt]; exact this.symm⟩
    · have := t.pos_of_lt h1
      exact ⟨by omega, j, by omega⟩

set_option maxRecDepth 100000 in
theorem items_walk (s : ByteArray) (a : Int) (W : World) (h : G W) :
    Calls Tryd.prog 3 #[.string s, .int .i64 a] W fun e w' => e = .returned (.bool true) ∧ Below W.heap.size W w' := by
  by_cases hl : 2000 < s.size
  · have e1 : decide ((2000 : Int) < (s.size : Int)) = true := decide_eq_true (by omega)
    go_enter Tryd.func3, Tryd.ntmps3
    go_wp2
    go_ret
    exact ⟨rfl, Below.refl _ _⟩
  have e1 : decide ((2000 : Int) < (s.size : Int)) = false := decide_eq_false (by omega)
  have hs6 : s.size ≤ 2000 := by omega
  have HG := Lib.hid h
  have HI := Lib.hid (items_any s W h.1 (by omega))
  have HW := Lib.hid works_any
  have hil : (items (txt s)).length = (txt s).cnt := itemsTo_len _ _
  have hig : ∀ j, j < (txt s).cnt → (items (txt s))[j]? = some ((txt s).item ((txt s).pos j)) := fun j h => itemsTo_get h
  obtain ⟨L, hL⟩ : ∃ L, items (txt s) = L := ⟨_, rfl⟩
  rw [hL] at HI hil hig
  have HIG := Lib.hid hig
  have hcle : (txt s).cnt ≤ 2000 := Nat.le_trans (txt s).cnt_le hs6
  have hc0 : caretTo (txt s) a 0 = (a == (s.size : Int)) := rfl
  have HC0 := Lib.hid hc0
  obtain ⟨S, hS⟩ : ∃ S, W.heap.size = S := ⟨_, rfl⟩
  rw [hS] at HI ⊢
  have HS := Lib.hid hS
  have hsz : S ≤ W.heap.size := by omega
  clear h hl hL hig hc0 hS
  go_enter Tryd.func3, Tryd.ntmps3
  go_wp2_with fail
  refine HI.out.mono ?_
  rintro e w2 ⟨vL, rfl, hrow, hb2⟩
  have HLN := hrow.len
  rw [hil] at HLN
  have HR := Lib.hid hrow
  have HG2 : Hid (G w2) := HG.out.stay (by rw [HS.out]; exact hb2)
  have HB2 := Lib.hid hb2
  clear hrow hb2 HI
  go_wp2_with fail
  go_loopw [6, 7, 8, 9, 10, 11, 12] (fun n rt ct i q k' wa wx => ∃ j : Nat, j ≤ (txt s).cnt ∧ n = .int .i64 (j : Int) ∧ rt = .bool (rightTo (txt s) j) ∧ ct = .bool (caretTo (txt s) a j) ∧ i = .int .i64 ((txt s).pos j : Int) ∧ Rowed wx S vL L ∧ G wx ∧ Below S W wx) (fun n _ _ _ _ _ _ _ => (txt s).cnt - (intOf n).toNat)
  case atStart => exact ⟨0, Nat.zero_le _, rfl, rfl, by rw [HC0.out], rfl, HR.out, HG2.out, HB2.out⟩
  case round =>
    obtain ⟨j, hj, rfl, rfl, rfl, rfl, hrow, hg, hB⟩ := hrel
    have HR := Lib.hid hrow
    have HG3 := Lib.hid hg
    have HB3 := Lib.hid hB
    by_cases hlt : j < (txt s).cnt
    · have hx := HIG.out j hlt
      obtain ⟨g, cap, rfl, hcap, hcm, hgl, hcells⟩ := hrow.at (by omega)
      rw [hil] at hcap ⊢
      have c0 := hcells j _ hx 0 _ rfl
      have c1 := hcells j _ hx 1 _ rfl
      have c2 := hcells j _ hx 2 _ rfl
      have c3 := hcells j _ hx 3 _ rfl
      have hps : (txt s).pos (j + 1) = (txt s).pos j + (txt s).w ((txt s).pos j) := rfl
      have hrt : rightTo (txt s) (j + 1) = (rightTo (txt s) j && (txt s).ok ((txt s).pos j)) := rfl
      have hct : caretTo (txt s) a (j + 1) = (caretTo (txt s) a j || (((txt s).pos j : Int) == a)) := rfl
      have hpl : (txt s).pos j < s.size := (txt s).pos_of_lt hlt
      obtain ⟨p, hp⟩ : ∃ x, (txt s).pos j = x := ⟨_, rfl⟩
      rw [hp] at c0 c1 c2 c3 hps hrt hct hpl ⊢
      have H7 := Lib.hid (refat_any s p wr hpl (by omega))
      have hok := (txt s).ok_iff p
      have hbad := (txt s).bad p
      have hrl := (txt s).r_lt p
      have hw1 := (txt s).w_pos p
      have hw4 := (txt s).w_le p
      unfold refR at H7
      have hrb : (txt s).ok p = false → (txt s).r p = 65533 ∧ (txt s).w p = 1 := fun h => by
        have := (hbad fun hs => by rw [hok.2 hs] at h; cases h).1
        unfold Txt.r Txt.w; rw [this]; exact ⟨rfl, rfl⟩
      have c0 : wr.cell? ⟨g, j * 4, none⟩ = some (.int .i64 (p : Int)) := by rw [Nat.mul_comm]; exact c0
      have c1 : wr.cell? ⟨g, j * 4 + 1, none⟩ = some (.int .i64 ((txt s).w p : Int)) := by rw [Nat.mul_comm]; exact c1
      have c2 : wr.cell? ⟨g, j * 4 + 2, none⟩ = some (.int .i32 ((txt s).r p : Int)) := by rw [Nat.mul_comm]; exact c2
      have c3 : wr.cell? ⟨g, j * 4 + 3, none⟩ = some (.bool ((txt s).ok p)) := by rw [Nat.mul_comm]; exact c3
      obtain ⟨w0, hw0⟩ : ∃ x, (txt s).w p = x := ⟨_, rfl⟩
      obtain ⟨r0, hr0⟩ : ∃ x, (txt s).r p = x := ⟨_, rfl⟩
      obtain ⟨o0, ho0⟩ : ∃ x, (txt s).ok p = x := ⟨_, rfl⟩
      obtain ⟨rt, hrt0⟩ : ∃ x, rightTo (txt s) j = x := ⟨_, rfl⟩
      obtain ⟨ct, hct0⟩ : ∃ x, caretTo (txt s) a j = x := ⟨_, rfl⟩
      rw [hr0, hw0, ho0] at H7
      rw [hw0] at c1 hw1 hw4 hps hrb
      rw [hr0] at c2 hrl hrb
      rw [ho0] at c3 hrb hrt
      rw [hrt0] at hrt ⊢
      rw [hct0] at hct ⊢
      obtain ⟨q, hq⟩ : ∃ q, (if o0 = true then (r0 : Int) else -1) = q := ⟨_, rfl⟩
      rw [hq] at H7
      have hfacts : (o0 = true ∧ q = (r0 : Int)) ∨ (o0 = false ∧ q = -1 ∧ r0 = 65533 ∧ w0 = 1) := by
        cases o0 with
        | true => exact .inl ⟨rfl, hq.symm⟩
        | false => exact .inr ⟨rfl, hq.symm, (hrb rfl).1, (hrb rfl).2⟩
      have HPS := Lib.hid hps
      have HRT := Lib.hid hrt
      have HCT := Lib.hid hct
      have H7 : Hid (Calls Tryd.prog 16 #[.string s, .int .i64 (p : Int)] wr fun e W' => e = .returned (.tuple #[.int .i64 q, .int .i64 (w0 : Int)]) ∧ Below wr.heap.size wr W') := H7.out
      have gn : decide ((txt s).cnt ≤ j) = false := decide_eq_false (by omega)
      have hr0i : (r0 : Int) < 1114112 := by omega
      have hszr : S ≤ wr.heap.size := Nat.le_trans hsz hB.size
      have C0 := Lib.hid c0
      have C1 := Lib.hid c1
      have C2 := Lib.hid c2
      have C3 := Lib.hid c3
      have HGL := Lib.hid hgl
      clear hrow hg hB hx hcells hp hw0 hr0 ho0 hrt0 hct0 hps hrt hct hq hok hbad hrb c0 c1 c2 c3 hgl
      rcases hfacts with ⟨rfl, rfl⟩ | ⟨rfl, rfl, rfl, rfl⟩
      · have e5 : decide ((r0 : Int) < 0) = false := decide_eq_false (by omega)
        go_wp2_with fail
        refine H7.out.mono ?_
        rintro e w3 ⟨rfl, hb3⟩
        have d0 : w3.cell? ⟨g, j * 4, none⟩ = some (.int .i64 (p : Int)) := (hb3.cell (p := ⟨g, j * 4, none⟩) HGL.out).trans C0.out
        have d1 : w3.cell? ⟨g, j * 4 + 1, none⟩ = some (.int .i64 (w0 : Int)) := (hb3.cell (p := ⟨g, j * 4 + 1, none⟩) HGL.out).trans C1.out
        have d2 : w3.cell? ⟨g, j * 4 + 2, none⟩ = some (.int .i32 (r0 : Int)) := (hb3.cell (p := ⟨g, j * 4 + 2, none⟩) HGL.out).trans C2.out
        have d3 : w3.cell? ⟨g, j * 4 + 3, none⟩ = some (.bool true) := (hb3.cell (p := ⟨g, j * 4 + 3, none⟩) HGL.out).trans C3.out
        have hgl3 : g < w3.heap.size := Nat.lt_of_lt_of_le HGL.out hb3.size
        have hr3 := HR.out.stay hb3
        rw [hil] at hr3
        have HR3 := Lib.hid hr3
        have HG4 := Lib.hid (HG3.out.stay hb3)
        have HB4 := Lib.hid (HB3.out.trans (hb3.mono hszr))
        have HS3 := Lib.hid (Nat.le_trans hszr hb3.size)
        clear hb3 hr3 HR HG3 HB3 C0 C1 C2 C3
        go_wp2_with fail
        go_quiet (fail)
        have K0 := Lib.hid (fun q : Nat => below_drewNv ((Below.refl w3.heap.size w3).alloc (Nat.le_refl _) (.cells #[.int .i64 (p : Int), .int .i64 (w0 : Int), .int .i32 (r0 : Int), .bool true] 27)) q)
        cases ct
        all_goals
          go_wp2_with fail
          go_roundw
          case rel => exact ⟨j + 1, by omega, by go_num, by rw [HRT.out]; simp, by rw [HCT.out]; rfl, by rw [HPS.out]; go_num, HR3.out.stay (K0.out _), HG4.out.stay (K0.out _), HB4.out.trans ((K0.out _).mono HS3.out)⟩
          case measure => simp [intOf]; omega
      · have e5 : decide ((-1 : Int) < 0) = true := by decide
        go_wp2_with fail
        refine H7.out.mono ?_
        rintro e w3 ⟨rfl, hb3⟩
        have d0 : w3.cell? ⟨g, j * 4, none⟩ = some (.int .i64 (p : Int)) := (hb3.cell (p := ⟨g, j * 4, none⟩) HGL.out).trans C0.out
        have d1 : w3.cell? ⟨g, j * 4 + 1, none⟩ = some (.int .i64 1) := (hb3.cell (p := ⟨g, j * 4 + 1, none⟩) HGL.out).trans C1.out
        have d2 : w3.cell? ⟨g, j * 4 + 2, none⟩ = some (.int .i32 65533) := (hb3.cell (p := ⟨g, j * 4 + 2, none⟩) HGL.out).trans C2.out
        have d3 : w3.cell? ⟨g, j * 4 + 3, none⟩ = some (.bool false) := (hb3.cell (p := ⟨g, j * 4 + 3, none⟩) HGL.out).trans C3.out
        have hgl3 : g < w3.heap.size := Nat.lt_of_lt_of_le HGL.out hb3.size
        have hr3 := HR.out.stay hb3
        rw [hil] at hr3
        have HR3 := Lib.hid hr3
        have HG4 := Lib.hid (HG3.out.stay hb3)
        have HB4 := Lib.hid (HB3.out.trans (hb3.mono hszr))
        have HS3 := Lib.hid (Nat.le_trans hszr hb3.size)
        clear hb3 hr3 HR HG3 HB3 C0 C1 C2 C3
        go_wp2_with fail
        go_quiet (fail)
        have K0 := Lib.hid (fun q : Nat => below_drewNv ((Below.refl w3.heap.size w3).alloc (Nat.le_refl _) (.cells #[.int .i64 (p : Int), .int .i64 1, .int .i32 65533, .bool false] 27)) q)
        cases ct
        all_goals
          go_wp2_with fail
          go_roundw
          case rel => exact ⟨j + 1, by omega, by go_num, by rw [HRT.out]; simp, by rw [HCT.out]; rfl, by rw [HPS.out]; go_num, HR3.out.stay (K0.out _), HG4.out.stay (K0.out _), HB4.out.trans ((K0.out _).mono HS3.out)⟩
          case measure => simp [intOf]; omega
    · obtain rfl : j = (txt s).cnt := by omega
      have hpe : (txt s).pos (txt s).cnt = s.size := (txt s).pos_cnt
      rw [hpe]
      have H1 := Lib.hid (fun w => count_any s w (by omega))
      have H2 := Lib.hid (fun w hw => right_any s w hw (by omega))
      rw [right_is] at H2
      have H3 := Lib.hid (fun w hw => caret_any s a w hw (by omega))
      rw [caret_is] at H3
      obtain ⟨rt, hrt0⟩ : ∃ x, rightTo (txt s) (txt s).cnt = x := ⟨_, rfl⟩
      obtain ⟨ct, hct0⟩ : ∃ x, caretTo (txt s) a (txt s).cnt = x := ⟨_, rfl⟩
      rw [hrt0] at H2 ⊢
      rw [hct0] at H3 ⊢
      have hrr : (rt == rt) = true := by simp
      have hcc : (ct == ct) = true := by simp
      have hnn : (((txt s).cnt : Int) == ((txt s).cnt : Int)) = true := by simp
      clear hrow hg hB hpe hrt0 hct0 hj hlt
      go_wp2_with fail
      refine (H1.out _).mono ?_
      rintro e w3 ⟨rfl, hb3⟩
      have HG4 := Lib.hid (HG3.out.stay hb3)
      have HB4 := Lib.hid (HB3.out.trans (hb3.mono (Nat.le_trans hsz HB3.out.size)))
      clear hb3 HG3 HB3
      go_wp2_with fail
      refine (H2.out _ HG4.out.1).mono ?_
      rintro e w4 ⟨rfl, hb3⟩
      have HG5 := Lib.hid (HG4.out.stay hb3)
      have HB5 := Lib.hid (HB4.out.trans (hb3.mono (Nat.le_trans hsz HB4.out.size)))
      clear hb3 HG4 HB4
      go_wp2_with fail
      refine (H3.out _ HG5.out.1).mono ?_
      rintro e w5 ⟨rfl, hb3⟩
      have HG6 := Lib.hid (HG5.out.stay hb3)
      have HB6 := Lib.hid (HB5.out.trans (hb3.mono (Nat.le_trans hsz HB5.out.size)))
      clear hb3 HG5 HB5
      go_wp2_with fail
      refine (HW.out _ HG6.out).mono ?_
      rintro e w6 ⟨rfl, hb3⟩
      have HB7 := Lib.hid (HB6.out.trans (hb3.mono (Nat.le_trans hsz HB6.out.size)))
      clear hb3
      go_wp2
      go_ret
      exact ⟨rfl, HB7.out⟩

end Go.Proofs.YtfcdmkfbkkogbaaDoor.Utf
