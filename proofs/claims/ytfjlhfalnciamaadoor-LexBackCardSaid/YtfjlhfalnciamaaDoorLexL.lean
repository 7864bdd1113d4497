/- The law LexNames, walked. -/
import Derived.Test.YtfjlhfalnciamaaDoorLexK
namespace Go.Proofs.YtfjlhfalnciamaaDoor.Lex
open Go Go.RowKit Go.Proofs.Chars
open Go.Proofs.YtfjlhfalnciamaaDoor.Utf Go.Proofs.YtfjlhfalnciamaaDoor.Chars

def knownT : ByteArray := ⟨#[97, 58, 32, 39, 98, 39, 32, 59, 32, 47, 47, 32, 110, 111, 10]⟩
def knownL : List (Int × Nat × Nat × ByteArray) := [(2, 0, 1, ⟨#[97]⟩), (5, 1, 2, ⟨#[]⟩), (3, 3, 6, ⟨#[98]⟩), (7, 7, 8, ⟨#[]⟩), (0, 15, 15, ⟨#[]⟩)]
theorem known_all : allE knownT = .good knownL := by kernel_rfl
theorem known_cnt : (txt ⟨#[97, 39]⟩).cnt = 2 := Txt.cnt_of _ (by kernel_rfl)
theorem known_quote : quoteB ⟨#[97, 39]⟩ = [39, 97, 92, 39, 39] := by
  unfold quoteB Items.items
  rw [known_cnt]
  kernel_rfl
theorem known_toks {w : World} {S : Nat} {v : Value} {L : List Tk} (h : Toks w S v L) (hm : L.map keyT = knownL) : ∃ g cap, v = .slice (some ⟨g, 0, none⟩) 5 cap ∧
    w.cell? ⟨g, 0, none⟩ = some (.int .i64 2) ∧ w.cell? ⟨g, 10, none⟩ = some (.int .i64 3) ∧ w.cell? ⟨g, 13, none⟩ = some (.string ⟨#[98]⟩) ∧ w.cell? ⟨g, 20, none⟩ = some (.int .i64 0) ∧ w.cell? ⟨g, 21, none⟩ = some (.int .i64 15) ∧ g < w.heap.size := by
  have hlen : L.length = 5 := by
    have := congrArg List.length hm
    rw [List.length_map] at this
    exact this
  obtain ⟨x0, x1, x2, x3, x4, rfl⟩ : ∃ x0 x1 x2 x3 x4, L = [x0, x1, x2, x3, x4] := by
    match L, hlen with
    | [x0, x1, x2, x3, x4], _ => exact ⟨x0, x1, x2, x3, x4, rfl⟩
  obtain ⟨k0, a0, e0, t0, v0⟩ := x0
  obtain ⟨k1, a1, e1, t1, v1⟩ := x1
  obtain ⟨k2, a2, e2, t2, v2⟩ := x2
  obtain ⟨k3, a3, e3, t3, v3⟩ := x3
  obtain ⟨k4, a4, e4, t4, v4⟩ := x4
  simp [keyT, knownL] at hm
  obtain ⟨⟨rfl, rfl, rfl, rfl⟩, ⟨rfl, rfl, rfl, rfl⟩, ⟨rfl, rfl, rfl, rfl⟩, ⟨rfl, rfl, rfl, rfl⟩, rfl, rfl, rfl, rfl⟩ := hm
  have h' := h
  rcases h.2 with ⟨_, h0⟩ | ⟨g, cap, cur, hv, h1, h3, h4, h5, h6, h7⟩
  · cases h0
  · refine ⟨g, cap, hv, ?_⟩
    have hc : ∀ i u, (tcells [⟨2, 0, 1, ⟨#[97]⟩, v0⟩, ⟨5, 1, 2, ⟨#[]⟩, v1⟩, ⟨3, 3, 6, ⟨#[98]⟩, v2⟩, ⟨7, 7, 8, ⟨#[]⟩, v3⟩, ⟨0, 15, 15, ⟨#[]⟩, v4⟩])[i]? = some u → w.cell? ⟨g, i, none⟩ = some u := fun i u hi => by
      have := World.ownsRow.cells h' (g := g) (by rw [hv]; rfl) i u hi
      rw [addr_add] at this
      exact this
    exact ⟨hc 0 _ rfl, hc 10 _ rfl, hc 13 _ rfl, hc 20 _ rfl, hc 21 _ rfl, (Array.getElem?_eq_some_iff.1 h3).1⟩

set_option maxHeartbeats 1000000 in
set_option maxRecDepth 100000 in
theorem works_any (W : World) (T : GT W) : Calls Tryd.prog 33 #[] W fun e w' => e = .returned (.bool true) ∧ Below W.heap.size W w' := by
  have HA := Lib.hid (all_any knownT W T.1)
  rw [known_all] at HA
  unfold knownT at HA
  have HT := Lib.hid T
  clear T
  go_enter Tryd.func33, Tryd.ntmps33
  go_wp2_with fail
  refine HA.out.mono ?_
  rintro e w1 ⟨v, L, rfl, htk, hm, hb⟩
  obtain ⟨g, cap, rfl, c0, c10, c13, c20, c21, hg⟩ := known_toks htk hm
  have hba : Below w1.heap.size w1 (w1.alloc S0) := (Below.refl _ _).alloc (Nat.le_refl _) _
  have d0 := (hba.cell (p := ⟨g, 0, none⟩) hg).trans c0
  have d10 := (hba.cell (p := ⟨g, 10, none⟩) hg).trans c10
  have d13 := (hba.cell (p := ⟨g, 13, none⟩) hg).trans c13
  have d20 := (hba.cell (p := ⟨g, 20, none⟩) hg).trans c20
  have d21 := (hba.cell (p := ⟨g, 21, none⟩) hg).trans c21
  have HB := Lib.hid (hb.trans (hba.mono hb.size))
  have HQ := Lib.hid (quote_any ⟨#[97, 39]⟩ (by decide) (w1.alloc S0) (HT.out.stay HB.out))
  rw [known_quote] at HQ
  have hsz := HB.out.size
  clear htk hm hb hba c0 c10 c13 c20 c21 HA
  unfold stopV
  go_wp2_with fail
  refine HQ.out.mono ?_
  rintro e w2 ⟨rfl, hb2⟩
  have HB2 := Lib.hid (HB.out.trans (hb2.mono hsz))
  clear hb2 HQ
  go_wp2
  go_ret
  exact ⟨rfl, HB2.out⟩

set_option maxRecDepth 100000 in
theorem names_all {W : World} (s : ByteArray) (T : GT W) : Calls Tryd.prog 7 #[.string s] W fun e w' => e = .returned (.bool true) ∧ Below W.heap.size W w' := by
  by_cases hbig : 300 < s.size
  · have d1 : (300 : Int) < (s.size : Int) := by omega
    have d2 : decide ((300 : Int) < (s.size : Int)) = true := decide_eq_true d1
    clear T
    go_enter Tryd.func7, Tryd.ntmps7
    go_wp2
    go_ret
    exact ⟨rfl, Below.refl _ _⟩
  · have d1 : ¬ (300 : Int) < (s.size : Int) := by omega
    have d2 : decide ((300 : Int) < (s.size : Int)) = false := decide_eq_false d1
    have HN := Lib.hid (name_any s (by omega) W)
    have HR := Lib.hid (rname_any s W)
    have HW := Lib.hid (works_any W T)
    cases hn : nameB (txt s).b s.size with
    | false =>
      rw [hn] at HN HR
      rw [Bool.false_and] at HN
      clear hn T
      go_enter Tryd.func7, Tryd.ntmps7
      go_wp2_with (first
        | (go_at_call 31; refine HN.out.mono ?_; rintro e w' ⟨rfl, rfl⟩)
        | (go_at_call 32; refine HR.out.mono ?_; rintro e w' ⟨rfl, rfl⟩)
        | (go_at_call 33; refine HW.out.mono ?_; rintro e w' ⟨rfl, hb⟩))
      go_ret
      exact ⟨rfl, hb⟩
    | true =>
      rw [hn] at HN HR
      rw [Bool.true_and] at HN
      have his := (nameB_is _ _).1 hn
      have h00 : 0 < s.size := by omega
      have hb0 : (s[0]'h00).toNat = (txt s).b 0 := by rw [get_bang]; rfl
      have hle := his.2.2.1
      obtain ⟨c, hc⟩ : ∃ c, (txt s).b 0 = c := ⟨_, rfl⟩
      rw [hc] at HN hb0 hle
      have hu : upperN c = decide ((c : Int) ≤ 90) := by
        unfold letterN at hle
        unfold upperN at hle ⊢
        rw [Bool.or_eq_true, decide_eq_true_iff, decide_eq_true_iff] at hle
        by_cases h : c ≤ 90
        · rw [decide_eq_true (by omega), decide_eq_true (by omega)]
        · rw [decide_eq_false (by omega), decide_eq_false (by omega)]
      rw [hu] at HN
      clear hn T his hc hle hu
      by_cases h : (c : Int) ≤ 90
      · have e1 : decide ((c : Int) ≤ 90) = true := decide_eq_true h
        rw [e1] at HN
        go_enter Tryd.func7, Tryd.ntmps7
        go_wp2_with (first
          | (go_at_call 31; refine HN.out.mono ?_; rintro e w' ⟨rfl, rfl⟩)
          | (go_at_call 32; refine HR.out.mono ?_; rintro e w' ⟨rfl, rfl⟩)
          | (go_at_call 33; refine HW.out.mono ?_; rintro e w' ⟨rfl, hb⟩))
        go_ret
        exact ⟨rfl, hb⟩
      · have e1 : decide ((c : Int) ≤ 90) = false := decide_eq_false h
        rw [e1] at HN
        go_enter Tryd.func7, Tryd.ntmps7
        go_wp2_with (first
          | (go_at_call 31; refine HN.out.mono ?_; rintro e w' ⟨rfl, rfl⟩)
          | (go_at_call 32; refine HR.out.mono ?_; rintro e w' ⟨rfl, rfl⟩)
          | (go_at_call 33; refine HW.out.mono ?_; rintro e w' ⟨rfl, hb⟩))
        go_ret
        exact ⟨rfl, hb⟩

end Go.Proofs.YtfjlhfalnciamaaDoor.Lex
