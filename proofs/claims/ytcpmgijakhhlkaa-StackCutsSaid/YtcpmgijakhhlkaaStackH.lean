/- Package stack: Put, walked. -/
import Derived.Test.YtcpmgijakhhlkaaStackG
namespace Go.Proofs.Ytcpmgijakhhlkaa.Stack
open Go Go.RowKit

abbrev res4 (n : Int) (x y : Bool) (e : Int) : Value := .tuple #[.int .i64 n, .bool x, .bool y, .int .i64 e]
set_option maxRecDepth 100000 in
theorem put_none {w : World} {v : Value} (h : Calls Try.prog 29 #[v] w fun e w' => e = .returned (.bool true) ∧ w = w') (r a up : Int) :
    Calls Try.prog 8 #[v, .int .i64 r, .int .i64 a, .int .i64 up] w fun e w' => e = .returned (res4 0 false false 1) ∧ w = w' := by
  have HP := Lib.hid h
  clear h
  go_enter Try.func8, Try.ntmps8
  go_wp2_with fail
  refine HP.out.mono ?_
  rintro e w' ⟨rfl, rfl⟩
  go_wp2
  refine bodyPost_ret (v := res4 0 false false 1) (by simp [results, Try.results8, go_sem]) rfl ?_
  exact ⟨rfl, rfl⟩
set_option maxRecDepth 100000 in
theorem put_bad {w : World} {B p : Nat} {N : List Nd} {K : List Ky} (h : Stk w B p N K) {r a up : Int} (hbad : r < 0 ∨ a < 0 ∨ ¬ (0 ≤ up ∧ up < (N.length : Int))) :
    Calls Try.prog 8 #[ptr p, .int .i64 r, .int .i64 a, .int .i64 up] w fun e w' => e = .returned (res4 0 false false 2) ∧ w = w' := by
  have HP := Lib.hid (plain_any h)
  have HH := Lib.hid (has_any h up)
  clear h
  by_cases h1 : r < 0
  · clear hbad
    go_enter Try.func8, Try.ntmps8
    go_wp2_with fail
    refine HP.out.mono ?_
    rintro e w' ⟨rfl, rfl⟩
    go_wp2
    refine bodyPost_ret (v := res4 0 false false 2) (by simp [results, Try.results8, go_sem]) rfl ?_
    exact ⟨rfl, rfl⟩
  · by_cases h2 : a < 0
    · clear hbad
      go_enter Try.func8, Try.ntmps8
      go_wp2_with fail
      refine HP.out.mono ?_
      rintro e w' ⟨rfl, rfl⟩
      go_wp2
      refine bodyPost_ret (v := res4 0 false false 2) (by simp [results, Try.results8, go_sem]) rfl ?_
      exact ⟨rfl, rfl⟩
    · have h3 : ¬ (0 ≤ up ∧ up < (N.length : Int)) := by
        rcases hbad with h | h | h
        · exact absurd h h1
        · exact absurd h h2
        · exact h
      rw [decide_eq_false h3] at HH
      clear hbad h3
      go_enter Try.func8, Try.ntmps8
      go_wp2_with fail
      refine HP.out.mono ?_
      rintro e w' ⟨rfl, rfl⟩
      go_wp2_with fail
      refine HH.out.mono ?_
      rintro e w' ⟨rfl, rfl⟩
      go_wp2
      refine bodyPost_ret (v := res4 0 false false 2) (by simp [results, Try.results8, go_sem]) rfl ?_
      exact ⟨rfl, rfl⟩

/-- What Put leaves, where the node is the one of number n among N1; t: it went on there already. -/
def PutP (w : World) (B p : Nat) (N1 : List Nd) (n up : Nat) (fresh : Bool) (e : Ending) (w' : World) : Prop :=
  ∃ (t : Bool) (x : Nd), N1[n]? = some x ∧ (x.u.length ≤ 8 → (t = true ↔ up ∈ x.u)) ∧ e = .returned (res4 (n : Int) fresh (!t) 0) ∧ Stk w' B p (if t then N1 else addUp N1 n up) (keys N1) ∧ Below B w w'
theorem mem_upI {x : Nd} {up : Nat} : ((up : Int) ∈ upI x) ↔ up ∈ x.u := by
  unfold upI
  rw [List.mem_map]
  exact ⟨fun ⟨a, ha, e⟩ => by (have : a = up := by omega); subst this; exact ha, fun h => ⟨up, h, rfl⟩⟩
set_option maxRecDepth 100000 in
theorem put_old {w : World} {B p : Nat} {N : List Nd} (h : Stk w B p N (keys N)) (hl : lk N ≤ 98) {r a : Int} {n up : Nat} (hr : in64 r) (ha : in64 a) (hr0 : 0 ≤ r) (ha0 : 0 ≤ a) (hup : up < N.length) (hi : idx (keys N) (r, a) = some n) :
    Calls Try.prog 8 #[ptr p, .int .i64 r, .int .i64 a, .int .i64 (up : Int)] w fun e w' => PutP w B p N n up false e w' := by
  have hn := idx_lt hi
  obtain ⟨x, hx⟩ : ∃ x, N[n]? = some x := ⟨N[n], List.getElem?_eq_getElem hn⟩
  have hN : N.length ≤ 200 := by obtain ⟨_, _, _, hc⟩ := h; exact hc.len
  have HP := Lib.hid (plain_any h)
  have HH := has_any h (up : Int)
  rw [decide_eq_true (by omega)] at HH
  have HH := Lib.hid HH
  have HI := Lib.hid (linked_any h hx (up := (up : Int)) (by constructor <;> omega))
  have HK := Lib.hid (link_any h hn (up := up) (by omega) hl)
  have HS := Lib.hid h
  obtain ⟨vn, mf, mm, hc⟩ := h
  obtain ⟨c0, c1, _, _, _⟩ := hc.cells
  have hrun := hc.found.look hr ha
  rw [hi] at hrun
  simp only [Option.getD_some, Option.isSome_some] at hrun
  have h1 : ¬ r < 0 := by omega
  have h2 : ¬ a < 0 := by omega
  have HX := Lib.hid hx
  clear hc hi hx hr0 ha0 hr ha hn hup hN
  go_enter Try.func8, Try.ntmps8
  go_wp2_with fail
  refine HP.out.mono ?_
  rintro e w' ⟨rfl, rfl⟩
  go_wp2_with fail
  refine HH.out.mono ?_
  rintro e w' ⟨rfl, rfl⟩
  go_wp2_with fail
  refine HI.out.mono ?_
  rintro e w' ⟨t, rfl, ht, rfl⟩
  have HT := Lib.hid ht
  clear ht
  cases t
  · go_wp2_with fail
    refine HK.out.mono ?_
    rintro e w' ⟨rfl, hS, hB⟩
    have HS2 := Lib.hid hS
    have HB2 := Lib.hid hB
    clear hS hB
    go_wp2
    refine bodyPost_ret (v := res4 (n : Int) false true 0) (by simp [results, Try.results8, go_sem]) rfl ?_
    exact ⟨false, x, HX.out, fun h => (HT.out h).trans mem_upI, rfl, HS2.out, HB2.out⟩
  · go_wp2
    refine bodyPost_ret (v := res4 (n : Int) false false 0) (by simp [results, Try.results8, go_sem]) rfl ?_
    exact ⟨true, x, HX.out, fun h => ⟨fun _ => mem_upI.1 ((HT.out h).1 (by trivial)), fun _ => rfl⟩, rfl, HS.out, Below.refl _ _⟩

set_option maxHeartbeats 4000000 in
set_option maxRecDepth 100000 in
theorem put_new {w : World} {B p : Nat} {N : List Nd} (h : Stk w B p N (keys N)) (hl : lk N ≤ 98) (hlen : N.length ≤ 198) {r a : Int} {up : Nat} (hr : in64 r) (ha : in64 a) (hr0 : 0 ≤ r) (ha0 : 0 ≤ a) (hup : up < N.length) (hi : idx (keys N) (r, a) = none) :
    Calls Try.prog 8 #[ptr p, .int .i64 r, .int .i64 a, .int .i64 (up : Int)] w fun e w' => PutP w B p (N ++ [⟨r, a, []⟩]) N.length up true e w' := by
  have HP := Lib.hid (plain_any h)
  have HH := has_any h (up : Int)
  rw [decide_eq_true (by omega)] at HH
  have HH := Lib.hid HH
  obtain ⟨vn, mf, mm, hc⟩ := h
  obtain ⟨c0, c1, _, _, _⟩ := hc.cells
  have hrun := hc.found.look hr ha
  rw [hi] at hrun
  simp only [Option.getD_none, Option.isSome_none] at hrun
  have hpos := hc.pos
  obtain ⟨w1, hrun2, hf1, ht1⟩ := hc.found.put hr ha (by rw [keys_len]; omega) (by rw [keys_len]; omega) hi
  rw [keys_len] at hrun2
  have hc1 := hc.turnF (fun k hk => mapTurned_block ht1 k hk) hf1
  have hb1 : Below B w w1 := mapTurned_below ht1 hc.fB
  obtain ⟨L, hL, ho, hr', hp'⟩ := hc1.nodes
  have hLl : L.length = N.length := by rw [← hL, List.length_map]
  obtain ⟨A, cap, rfl, _, _⟩ := ownsRow_form ho
  obtain ⟨d0, _, _, _, df⟩ := hc1.cells
  have df0 := df 0
  have hpl := hc1.lt
  obtain ⟨i0, hi0, hz0, hz1, hz2⟩ := info_parts infoN
  have hBs : B ≤ w1.heap.size := by have := hc1.pB; omega
  have hpv : some p ≠ (Value.slice A L.length cap).ownBlock := fun e => by
    obtain ⟨_, _, cur, hb⟩ := ownsRow_block ho e.symm
    rw [hc1.head] at hb
    cases hb
  have h1 : ¬ r < 0 := by omega
  have h2 : ¬ a < 0 := by omega
  have h3 : ((L.length : Int) == 1048576) = false := beq_eq_false_iff_ne.2 (by omega)
  rw [hLl] at ho d0 hpv c0 h3
  have HO := Lib.hid ho
  have HC1 := Lib.hid hc1
  have HB1 := Lib.hid hb1
  have HL := Lib.hid hL
  have HR := Lib.hid hr'
  have HPP := Lib.hid hp'
  have HLL := Lib.hid hLl
  clear hc hc1 hb1 hL hr' hp' ho hi hf1 ht1 hr0 ha0 hr ha df hLl
  go_enter Try.func8, Try.ntmps8
  go_wp2_with fail
  refine HP.out.mono ?_
  rintro e w' ⟨rfl, rfl⟩
  go_wp2_with fail
  refine HH.out.mono ?_
  rintro e w' ⟨rfl, rfl⟩
  go_upto_region 12 with (first
    | (at_builtin
       refine wpList_append_lies _ (by rfl) _ _ _ (by rfl) B 70 i0 _ 3 40 Try.underlying38 hi0 hz0 hz1 hz2 rfl (by omega) (.slice A N.length cap) N.length (nmCells L) (by rfl) (HO.out.alloc _) ⟨w1.heap.size, 0, none⟩ 1 1 [.int .i64 r, .int .i64 a, .slice none 0 0] (by rfl) (by rfl) (World.news_of_block (heap_alloc_new _ _)) (by simp [Value.oneCell']) (by omega) (by unfold maxLen; omega) (by omega) (by simp; omega) (w1.heap.size + 1) (by simp) ?_
       intro gg c5 w5 hown5 hgrow hat hlt5
       have u0 := (hgrow.cell_far ⟨p, 0, none⟩ (by simp; omega) hpv).trans ((World.cell?_alloc_lt w1 _ ⟨p, 0, none⟩ hpl).trans d0)
       have v0 := (hgrow.frozen_far ⟨p, 0, none⟩ (by simp; omega) hpv).trans ((Below.frozen (p := ⟨p, 0, none⟩) ((Below.refl w1.heap.size w1).alloc (Nat.le_refl _) _) hpl).trans df0)
       have HW := Lib.hid hown5
       have HG := Lib.hid hgrow
       clear hown5 hgrow hat hlt5))
  rw [← HLL.out] at HW
  obtain ⟨hc6, hb6⟩ := HC1.out.added _ HL.out (by rw [HLL.out]; exact HO.out) HR.out HPP.out (by rw [HLL.out]; exact HG.out) HW.out (by omega)
  rw [HLL.out] at hc6 hb6
  generalize w5.setCell ⟨p, 0, none⟩ (.slice (some ⟨gg, 0, none⟩) (N.length + 1) c5) = w6 at *
  have hS6 : Stk w6 B p (N ++ [⟨r, a, []⟩]) (keys (N ++ [⟨r, a, []⟩])) := by
    refine ⟨.slice (some ⟨gg, 0, none⟩) (N.length + 1) c5, mf, mm, ?_⟩
    rw [lk_snoc]
    have e : keys (N ++ [⟨r, a, []⟩]) = keys N ++ [(r, a)] := by simp [keys]
    rw [e]
    exact hc6
  have hx : (N ++ [(⟨r, a, []⟩ : Nd)])[N.length]? = some ⟨r, a, []⟩ := by simp
  have HI := Lib.hid (linked_any hS6 hx (up := (up : Int)) (by constructor <;> omega))
  have HK := Lib.hid (link_any hS6 (n := N.length) (up := up) (by simp) (by omega) (by rw [lk_snoc]; exact hl))
  have HS6 := Lib.hid hS6
  have HX := Lib.hid hx
  have HB6 := Lib.hid (HB1.out.trans hb6)
  clear hc6 hb6 hS6 hx u0 v0 HW HG HO HC1 HR HPP c0 c1 d0 df0
  go_wp2_with fail
  refine HI.out.mono ?_
  rintro e w' ⟨t, rfl, ht, rfl⟩
  have HT := Lib.hid ht
  clear ht
  cases t
  · go_wp2_with fail
    refine HK.out.mono ?_
    rintro e w' ⟨rfl, hS, hB⟩
    have HS2 := Lib.hid hS
    have HB2 := Lib.hid hB
    clear hS hB
    go_wp2
    refine bodyPost_ret (v := res4 (N.length : Int) true true 0) (by simp [results, Try.results8, go_sem]) rfl ?_
    exact ⟨false, _, HX.out, fun h => (HT.out h).trans mem_upI, rfl, HS2.out, HB6.out.trans HB2.out⟩
  · go_wp2
    refine bodyPost_ret (v := res4 (N.length : Int) true false 0) (by simp [results, Try.results8, go_sem]) rfl ?_
    exact ⟨true, _, HX.out, fun h => ⟨fun _ => mem_upI.1 ((HT.out h).1 (by trivial)), fun _ => rfl⟩, rfl, HS6.out, HB6.out⟩

end Go.Proofs.Ytcpmgijakhhlkaa.Stack
