/- The document's set of a list that rises. -/
import Derived.Test.YtfcdmkfbkkogbaaDoorBitsW
namespace Go.Proofs.YtfcdmkfbkkogbaaDoor.Bits
open Go Go.RowKit

theorem mem_pad (r : List Nat) (n : Nat) : mem (r ++ [0]) n = mem r n := by
  unfold mem wd
  congr 1
  split
  · rw [List.getD_eq_getElem?_getD, List.getD_eq_getElem?_getD]
    by_cases h : n / 64 < r.length
    · rw [List.getElem?_append_left h]
    · rw [List.getElem?_append_right (by omega), List.getElem?_eq_none (l := r) (by omega)]
      by_cases e : n / 64 - r.length = 0
      · rw [e]; rfl
      · rw [List.getElem?_eq_none (by simp; omega)]
  · rfl
theorem mem_set {r : List Nat} {i y b : Nat} (hi : r[i]? = some y) (hi2 : i < 1024) (hb : b < 64) (n : Nat) : mem (r.set i (y ||| 2 ^ b)) n = true ↔ mem r n = true ∨ n = 64 * i + b := by
  have hl := (List.getElem?_eq_some_iff.1 hi).1
  unfold mem wd
  rw [List.getD_eq_getElem?_getD, List.getD_eq_getElem?_getD, List.getElem?_set]
  by_cases e : i = n / 64
  · rw [if_pos e, if_pos hl, if_pos (by omega), if_pos (by omega), ← e, hi, Option.getD_some, Option.getD_some, Nat.testBit_or, Bool.or_eq_true, Nat.testBit_two_pow, decide_eq_true_eq]
    constructor
    · rintro (h | h)
      · exact .inl h
      · exact .inr (by omega)
    · rintro (h | h)
      · exact .inl h
      · exact .inr (by omega)
  · rw [if_neg e]
    constructor
    · intro h; exact .inl h
    · rintro (h | h)
      · exact h
      · omega

def refLen (L : List Nat) : Nat → Nat
  | 0 => 0
  | j + 1 => L.getD j 0 / 64 + 1
def lenOf : Value → Nat
  | .slice _ l _ => l
  | _ => 0

theorem Own.lenOf {w : World} {S : Nat} {v : Value} {l : List Nat} (h : Own w S v l) : Bits.lenOf v = l.length := by
  rcases h.1.2 with ⟨rfl, h0⟩ | ⟨g, cap, cur, rfl, _⟩
  · exact h0.symm
  · rfl
theorem ref_end {r L : List Nat} (hlt : ∀ x ∈ L, x < 65536) (h1 : r.length = refLen L L.length) (h2 : ∀ n, mem r n = true ↔ n ∈ L) : tl r = r.length := by
  cases hn : L.length with
  | zero =>
    rw [hn] at h1
    have : r = [] := List.length_eq_zero_iff.1 h1
    subst this
    rfl
  | succ n =>
    rw [hn, refLen] at h1
    obtain ⟨m, hm⟩ : ∃ m, L[n]? = some m := ⟨L[n], List.getElem?_eq_getElem _⟩
    rw [List.getD_eq_getElem?_getD, hm, Option.getD_some] at h1
    have hml := hlt m (List.mem_of_getElem? hm)
    refine tl_tidy (by omega) (.inr fun h0 => ?_)
    have := (h2 m).2 (List.mem_of_getElem? hm)
    unfold mem wd at this
    rw [if_pos (by omega), show m / 64 = r.length - 1 by omega, h0, Nat.zero_testBit] at this
    cases this

set_option maxRecDepth 100000 in
theorem of_ref {w : World} {v : Value} {L : List Nat} (H : Ints w v (L.map Int.ofNat)) (hlt : ∀ x ∈ L, x < 65536) (hp : L.Pairwise (· < ·)) (hlen : ∀ (ty : TypeId) (w' : World), (Builtin.len_ #[51] ty #[v]).run Tryd.prog w' = .ok (.int .i64 (L.length : Int)) w') :
    Calls Tryd.prog 43 #[v] w fun e w' => ∃ v' r, e = .returned v' ∧ Own w' w.heap.size v' r ∧ tl r = r.length ∧ (∀ n, mem r n = true ↔ n ∈ L) ∧ Below w.heap.size w w' := by
  obtain ⟨i0, hi, hz0, hz1, hz2⟩ := info_parts info35
  obtain ⟨S, hS⟩ : ∃ S, S = w.heap.size := ⟨_, rfl⟩
  rw [← hS]
  have HS := Lib.hid hS
  have hsz : S ≤ w.heap.size := by omega
  have HH := Lib.hid H
  have HLT := Lib.hid hlt
  have HP := Lib.hid hp
  have hLn : L.length ≤ 1000000 := by have := H.2; rw [List.length_map] at this; exact this
  clear H hlt hp hS
  go_enter Tryd.func43, Tryd.ntmps43
  go_wp2_with fail
  go_loopw [3, 4] (fun v i wx => ∃ (j : Nat) (r : List Nat), j ≤ L.length ∧ i = .int .i64 j ∧ Own wx S v r ∧ r.length = refLen L j ∧ (∀ n, mem r n = true ↔ n ∈ L.take j) ∧ Below S w wx) (fun _ i _ => L.length - (intOf i).toNat)
  case atStart => exact ⟨0, [], Nat.zero_le _, rfl, ⟨⟨rfl, .inl ⟨rfl, rfl⟩⟩, by simp, by simp⟩, rfl, fun n => by simp [mem, wd], Below.refl _ _⟩
  case round =>
    obtain ⟨j, r, hj, rfl, ho, hrl, hrm, hB⟩ := hrel
    by_cases hlt : j < L.length
    · obtain ⟨m, hm⟩ : ∃ m, L[j]? = some m := ⟨L[j], List.getElem?_eq_getElem _⟩
      have hml := HLT.out m (List.mem_of_getElem? hm)
      have hrle : r.length ≤ m / 64 + 1 := by
        rw [hrl]
        cases j with
        | zero => exact Nat.zero_le _
        | succ j =>
          have := List.pairwise_iff_getElem.1 HP.out j (j + 1) (by omega) hlt (by omega)
          rw [(List.getElem?_eq_some_iff.1 hm).2] at this
          rw [refLen, List.getD_eq_getElem?_getD, List.getElem?_eq_getElem (by omega), Option.getD_some]
          omega
      obtain ⟨b, off, cap, rfl, hb, hcell⟩ : ∃ b off cap, v = .slice (some ⟨b, off, none⟩) L.length cap ∧ b < S ∧ w.cell? ⟨b, off + j, none⟩ = some (.int .i64 (m : Int)) := by
        rcases HH.out.1 with ⟨_, h⟩ | ⟨b, off, cap, rfl, hb, hc⟩
        · have := congrArg List.length h
          rw [List.length_map, List.length_nil] at this
          omega
        · exact ⟨b, off, cap, by rw [List.length_map], by rw [HS.out]; exact hb, hc j _ (by rw [List.getElem?_map, hm]; rfl)⟩
      have HC := Lib.hid hcell
      have HM := Lib.hid hm
      have HRM := Lib.hid hrm
      have HO := Lib.hid ho
      have HB := Lib.hid hB
      clear hm ho hrm hB hrl hcell
      go_wp2_with fail
      go_loopw [3] (fun v wx => ∃ q : List Nat, Own wx S v q ∧ q.length ≤ m / 64 + 1 ∧ (∀ n, mem q n = true ↔ n ∈ L.take j) ∧ Below S w wx) (fun v _ => m / 64 + 1 - lenOf v)
      case atStart => exact ⟨r, HO.out, hrle, HRM.out, HB.out⟩
      case round =>
        obtain ⟨q, ho, hql, hqm, hB⟩ := hrel
        have hcellr : wr.cell? ⟨b, off + j, none⟩ = some (.int .i64 (m : Int)) := (hB.cell (p := ⟨b, off + j, none⟩) hb).trans HC.out
        have hszr : S ≤ wr.heap.size := Nat.le_trans hsz hB.size
        have HQL := ho.words.len22
        by_cases hqlt : q.length ≤ m / 64
        · have g1 : (q.length : Int) ≤ (m : Int) / 64 := by omega
          have hown := ho.1
          have HBQ := Lib.hid hB
          have HQM := Lib.hid hqm
          have HOQ := Lib.hid ho
          have hlo := ho.lenOf
          have HLO := Lib.hid hlo
          clear hB hqm hlo ho
          go_wp2_with (at_builtin; refine wpList_append_own _ rfl _ _ 63 rfl S 94 i0 (.int .u64 0) 1 8 Tryd.underlying63 hi hz0 hz1 hz2 rfl (by decide) _ _ _ rfl (hown.alloc _) ⟨wr.heap.size, 0, none⟩ 1 1 [.int .u64 0] rfl rfl ?c1 ?c2 ?c3 ?c4 ?c5 ?_)
          case c1 => intro j u hj; cases j <;> simp at hj; subst hj; simp [Addr.add]
          case c2 => intro u hu; simp at hu; subst hu; rfl
          case c3 => unfold maxLen; omega
          case c4 => omega
          case c5 => simp; omega
          intro v' w2 hown' hgrow _
          have hB2 : Below S w w2 := ((HBQ.out.alloc hszr _).grown hgrow (by simp; omega) fun k hk => (hown.lt k hk).1)
          have hown2 : Own w2 S v' (q ++ [0]) := by
            refine ⟨?_, fun x hx => ?_, by rw [List.length_append]; unfold maxLen; simp; omega⟩
            · rw [List.length_append]
              have : words (q ++ [0]) = words q ++ [.int .u64 0] := by simp [words, wordV]
              rw [this]
              exact hown'
            · rcases List.mem_append.1 hx with h | h
              · exact HOQ.out.2.1 x h
              · simp at h; omega
          have HO2 := Lib.hid hown2
          have HB2 := Lib.hid hB2
          clear hown' hgrow hB2 hown hown2
          go_wp2
          go_roundw
          case rel => exact ⟨q ++ [0], HO2.out, by rw [List.length_append]; simp; omega, fun n => by rw [mem_pad]; exact HQM.out n, HB2.out⟩
          case measure =>
            have := HO2.out.lenOf
            rw [List.length_append] at this
            have h3 := HLO.out
            simp at this ⊢
            omega
        · have g1 : ¬ (q.length : Int) ≤ (m : Int) / 64 := by omega
          have hql2 : q.length = m / 64 + 1 := by omega
          obtain ⟨g, qcap, rfl⟩ : ∃ g cap, u3 = .slice (some ⟨g, 0, none⟩) q.length cap := by
            rcases ho.1.2 with ⟨_, h⟩ | ⟨g, cap, _, rfl, _⟩
            · omega
            · exact ⟨g, cap, rfl⟩
          obtain ⟨y, hy⟩ : ∃ y, q[m / 64]? = some y := ⟨q[m / 64], List.getElem?_eq_getElem _⟩
          have hcy : wr.cell? ⟨g, m / 64, none⟩ = some (wordV y) := by
            rw [ho.1.cellAt (m / 64) (by omega), words_get, hy]; rfl
          have hfy := ho.1.frozenAt (m / 64)
          have hyl := ho.2.1 y (List.mem_of_getElem? hy)
          have HBT := Lib.hid (u64_or_nat y (2 ^ (m % 64)) hyl (pow_small _ (Nat.mod_lt _ (by omega))))
          have HSH := Lib.hid (shl_one (m % 64) (Nat.mod_lt _ (by omega)))
          have HYL := Lib.hid hyl
          have HY := Lib.hid hy
          have HOQ := Lib.hid ho
          have HQM := Lib.hid hqm
          have HBQ := Lib.hid hB
          clear hy hyl ho hqm hB hql hqlt
          go_wp2_with fail
          go_region
          all_goals go_wp2
          all_goals
            go_roundw
            case rel =>
              rw [HSH.out, HBT.out]
              obtain ⟨t1, t2⟩ := HOQ.out.1.stored (m / 64) (wordV (y ||| 2 ^ (m % 64)))
              have e : (q.set (m / 64) (y ||| 2 ^ (m % 64))).length = q.length := List.length_set
              refine ⟨j + 1, q.set (m / 64) (y ||| 2 ^ (m % 64)), by omega, by go_num, ⟨?_, fun z hz => ?_, ?_⟩, ?_, fun n => ?_, (HBQ.out.setCell (HOQ.out.1.lt g rfl).1 _).drew⟩
              · rw [e, words_set]
                first | exact t1 | (rw [← hql2]; exact t1)
              · rcases List.mem_or_eq_of_mem_set hz with h | rfl
                · exact HOQ.out.2.1 z h
                · exact or_lt HYL.out (pow_small _ (Nat.mod_lt _ (by omega)))
              · rw [e]; exact HOQ.out.2.2
              · rw [e, refLen, List.getD_eq_getElem?_getD, HM.out]; exact hql2
              · rw [mem_set HY.out (by omega) (Nat.mod_lt _ (by omega)), HQM.out n, List.take_add_one, HM.out, List.mem_append, show 64 * (m / 64) + m % 64 = m by omega]
                simp
            case measure => simp [intOf]; omega
    · obtain rfl : j = L.length := by omega
      have HO := Lib.hid ho
      have HB := Lib.hid hB
      have HRM : Hid (∀ n, mem r n = true ↔ n ∈ L) := fun n => by have := hrm n; rw [List.take_length] at this; exact this
      have HRL := Lib.hid hrl
      clear ho hB hrm hrl
      go_wp2
      go_ret
      exact ⟨_, r, rfl, HO.out, ref_end HLT.out HRL.out HRM.out, HRM.out, HB.out⟩

end Go.Proofs.YtfcdmkfbkkogbaaDoor.Bits
