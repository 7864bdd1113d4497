/- The document's Lines, walked; rows of numbers. -/
import Derived.Test.YtfcdmkfbkkogbaaDoorEditF
import Derived.Deep.AppendLies
namespace Go.Proofs.YtfcdmkfbkkogbaaDoor.Edit
open Go Go.RowKit Go.Proofs.YtfcdmkfbkkogbaaDoor.Utf

def ints (L : List Nat) : List Value := L.map fun n : Nat => Value.int .i64 (n : Int)
theorem ints_append (L M : List Nat) : ints (L ++ M) = ints L ++ ints M := by simp [ints]
theorem info3 : (Tryd.prog.info? 3).map (fun i => (i.zero, i.size, i.bytes)) = some (some (.int .i64 0), 1, 8) := by kernel_rfl
/-- A row of numbers that the call made. -/
def Lrow (w : World) (S : Nat) (v : Value) (L : List Nat) : Prop := w.ownsRow S 3 1 v L.length (ints L)
theorem Lrow.stay {w w' : World} {S : Nat} {v : Value} {L : List Nat} (h : Lrow w S v L) (hb : Below w.heap.size w w') : Lrow w' S v L := by
  refine ⟨h.1, ?_⟩
  rcases h.2 with h0 | ⟨g, cap, cur, e1, e2, e3, e4⟩
  · exact .inl h0
  · exact .inr ⟨g, cap, cur, e1, e2, (hb.block g (Array.getElem?_eq_some_iff.1 e3).1).trans e3, e4⟩
/-- A row that is not empty lies in a block; its cells. -/
theorem Lrow.at {w : World} {S : Nat} {v : Value} {L : List Nat} (h : Lrow w S v L) (hne : 0 < L.length) : ∃ g cap, v = .slice (some ⟨g, 0, none⟩) L.length cap ∧ L.length ≤ cap ∧ cap ≤ maxLen ∧ S ≤ g ∧ g < w.heap.size ∧ ∀ (i x : Nat), L[i]? = some x → w.cell? ⟨g, i, none⟩ = some (.int .i64 (x : Int)) := by
  rcases h.2 with ⟨_, h0⟩ | ⟨g, cap, cur, hv, h1, h3, h4, h5, h6, h7⟩
  · omega
  · refine ⟨g, cap, hv, h4, h5, h1, (Array.getElem?_eq_some_iff.1 h3).1, fun i x hx => ?_⟩
    have hc := World.ownsRow.cells h (g := g) (by rw [hv]; rfl) i (.int .i64 (x : Int)) (by unfold ints; rw [List.getElem?_map, hx]; rfl)
    rw [← addr_add]; exact hc

/-- Where the lines of a text's first bytes begin. -/
def begs (t : Txt) : Nat → List Nat
  | 0 => [0]
  | i + 1 => if t.b i = 10 then begs t i ++ [i + 1] else begs t i
theorem begs_len (t : Txt) (i : Nat) : (begs t i).length = nl t i + 1 := by
  induction i with
  | zero => rfl
  | succ i ih =>
    rw [begs, nl]
    by_cases h : t.b i = 10
    · rw [if_pos h, if_pos h, List.length_append, ih]; rfl
    · rw [if_neg h, if_neg h, ih]
theorem begs_ln (t : Txt) : ∀ i, i ≤ t.n → ∀ j g, (begs t i)[j]? = some g → Ln t j g ∧ g ≤ i := by
  intro i
  induction i with
  | zero =>
    intro _ j g h
    rw [begs] at h
    cases j with
    | zero => simp at h; subst h; exact ⟨Ln.zero t, Nat.le_refl _⟩
    | succ j => simp at h
  | succ i ih =>
    intro hi j g h
    rw [begs] at h
    by_cases hb : t.b i = 10
    · rw [if_pos hb] at h
      by_cases hj : j < (begs t i).length
      · rw [List.getElem?_append_left hj] at h
        have := ih (by omega) j g h
        exact ⟨this.1, by omega⟩
      · rw [List.getElem?_append_right (by omega)] at h
        have h2 := (List.getElem?_eq_some_iff.1 h).1
        simp at h2
        have hjl : j = nl t i + 1 := by rw [begs_len] at hj h2; omega
        have e : j - (begs t i).length = 0 := by omega
        rw [e] at h
        simp at h
        subst h
        exact ⟨⟨hi, by rw [nl, if_pos hb]; exact hjl.symm, .inr hb⟩, Nat.le_refl _⟩
    · rw [if_neg hb] at h
      have := ih (by omega) j g h
      exact ⟨this.1, by omega⟩

set_option maxRecDepth 100000 in
theorem reflines_any (s : ByteArray) (W : World) (hs : s.size ≤ 1000000) :
    Calls Tryd.prog 31 #[.string s] W fun e w' => ∃ v, e = .returned v ∧ Lrow w' W.heap.size v (begs (txt s) s.size) ∧ Below W.heap.size W w' := by
  obtain ⟨i0, hi, hz0, hz1, hz2⟩ := info_parts info3
  obtain ⟨S, hS⟩ : ∃ S, S = W.heap.size := ⟨_, rfl⟩
  have HS := Lib.hid hS
  rw [← hS]
  have hsz : S ≤ W.heap.size := by omega
  have H0 : Hid (Lrow (W.alloc (.cells #[.int .i64 0] 3)) S (.slice (some ⟨W.heap.size, 0, none⟩) 1 1) [0]) := ⟨rfl, .inr ⟨W.heap.size, 1, #[.int .i64 0], rfl, hsz, heap_alloc_new _ _, Nat.le_refl _, by unfold maxLen; omega, rfl, rfl⟩⟩
  have HB0 : Hid (Below S W (W.alloc (.cells #[.int .i64 0] 3))) := (Below.refl _ _).alloc hsz _
  clear hS
  go_enter Tryd.func31, Tryd.ntmps31
  go_wp2_with fail
  go_loopw [3, 4] (fun v i wx => ∃ k : Nat, k ≤ s.size ∧ i = .int .i64 (k : Int) ∧ Lrow wx S v (begs (txt s) k) ∧ Below S W wx) (fun _ i _ => s.size - (intOf i).toNat)
  case atStart => exact ⟨0, Nat.zero_le _, rfl, H0.out, HB0.out⟩
  case round =>
    obtain ⟨k, hk, rfl, hrow, hB⟩ := hrel
    have HR := Lib.hid hrow
    have HB := Lib.hid hB
    have hszr : S ≤ wr.heap.size := Nat.le_trans hsz hB.size
    have hLl := begs_len (txt s) k
    have hns := nl_small (txt s) k
    by_cases hlt : k < s.size
    · have hby : (s[k]'hlt).toNat = (txt s).b k := by rw [get_bang s k hlt]; rfl
      have hlt' : (k : Int) < (s.size : Int) := by omega
      by_cases hb : (txt s).b k = 10
      · have HE : Hid (begs (txt s) (k + 1) = begs (txt s) k ++ [k + 1]) := by rw [begs]; exact if_pos hb
        rw [hb] at hby
        obtain ⟨L, hL⟩ : ∃ L, begs (txt s) k = L := ⟨_, rfl⟩
        rw [hL] at hrow hLl HE
        have hown : wr.ownsRow S 3 1 u3 L.length (ints L) := hrow
        have hL6 : L.length ≤ 1000001 := by omega
        clear hrow hB hb hL HR hLl hns
        go_wp2_with (at_builtin; refine wpList_append_own _ rfl _ _ 51 rfl S 3 i0 (.int .i64 0) 1 8 Tryd.underlying51 hi hz0 hz1 hz2 rfl (by decide) _ _ _ rfl (hown.alloc _) ⟨wr.heap.size, 0, none⟩ 1 1 [.int .i64 ((k : Int) + 1)] rfl rfl ?c1 ?c2 ?c3 ?c4 ?c5 ?_)
        case c1 => intro j u hj; cases j <;> simp at hj; subst hj; simp [Addr.add]
        case c2 => intro u hu; simp at hu; subst hu; rfl
        case c3 => unfold maxLen; omega
        case c4 => omega
        case c5 => simp; omega
        intro v' w2 hown' hgrow _
        have hB2 : Below S W w2 := ((HB.out.alloc hszr _).grown hgrow (by simp; omega) fun k hk => (hown.lt k hk).1)
        have hown2 : Lrow w2 S v' (L ++ [k + 1]) := by
          unfold Lrow
          rw [ints_append, List.length_append]
          exact hown'
        have HO2 := Lib.hid hown2
        have HB2 := Lib.hid hB2
        clear hown' hgrow hB2 hown hown2
        go_wp2
        go_roundw
        case rel => exact ⟨k + 1, by omega, by go_num, by rw [HE.out]; exact HO2.out, HB2.out⟩
        case measure => simp [intOf]; omega
      · have HE : Hid (begs (txt s) (k + 1) = begs (txt s) k) := by rw [begs]; exact if_neg hb
        have hne : (((s[k]'hlt).toNat : Int) == 10) = false := by rw [beq_eq_false_iff_ne, hby]; omega
        clear hrow hB hb hby hLl hns
        go_wp2
        go_roundw
        case rel => exact ⟨k + 1, by omega, by go_num, by rw [HE.out]; exact HR.out, HB.out⟩
        case measure => simp [intOf]; omega
    · obtain rfl : s.size = k := by omega
      clear hrow hB hLl hns hk
      go_wp2
      go_ret
      exact ⟨_, rfl, HR.out, HB.out⟩

end Go.Proofs.YtfcdmkfbkkogbaaDoor.Edit
