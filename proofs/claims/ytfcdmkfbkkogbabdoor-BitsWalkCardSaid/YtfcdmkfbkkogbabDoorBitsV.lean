/- The law of the walk over a set, walked. -/
import Derived.Test.YtfcdmkfbkkogbabDoorBitsU
namespace Go.Proofs.YtfcdmkfbkkogbabDoor.Bits
open Go Go.RowKit

set_option maxRecDepth 100000 in
theorem walk_long {w : World} {v : Value} {l : List Nat} (H : Words w v l) (h : 30 < l.length) :
    Calls Tryd.prog 5 #[v] w fun e w' => e = .returned (.bool true) ∧ Below w.heap.size w w' := by
  have HL := H.len
  clear H
  have h1 : (30 : Int) < l.length := by omega
  have h2 : decide ((30 : Int) < l.length) = true := decide_eq_true h1
  go_enter Tryd.func5, Tryd.ntmps5
  go_wp2
  go_ret
  exact ⟨rfl, Below.refl _ _⟩

set_option maxRecDepth 100000 in
theorem walk_walk {w : World} {v : Value} {l : List Nat} (H : Words w v l) (h : ¬ 30 < l.length) (T : Tab w) :
    Calls Tryd.prog 5 #[v] w fun e w' => e = .returned (.bool true) ∧ Below w.heap.size w w' := by
  have HL := H.len
  have h1 : ¬ (30 : Int) < l.length := by omega
  have h2 : decide ((30 : Int) < l.length) = false := decide_eq_false h1
  obtain ⟨L, hL⟩ : ∃ L, L = allOf l := ⟨_, rfl⟩
  have HLE := Lib.hid hL
  have HLI := Lib.hid (list_any H T)
  have hLb : L.length ≤ 65536 := by rw [hL]; exact filt_length_le _ _ _
  have HLM := Lib.hid (show ∀ x ∈ L, x < 65536 from fun x hx => by rw [hL] at hx; exact mem_lt (mem_all.1 hx))
  rw [← hL] at HLI
  have HH := Lib.hid H
  have HT := Lib.hid T
  clear H T hL h
  go_enter Tryd.func5, Tryd.ntmps5
  go_wp2_with fail
  refine HLI.out.mono ?_
  rintro e w1 ⟨v1, rfl, hown, hB⟩
  have HH1 := Lib.hid (HH.out.stay hB)
  have HT1 := Lib.hid (HT.out.stay hB)
  have HO := Lib.hid hown
  have HB := Lib.hid hB
  have HLO := own_len hown
  have HNX := Lib.hid (next_any HH1.out HT1.out (-5) (by omega))
  have hfirst : nextI l (Int.toNat (-5)) = hd L := by rw [HLE.out]; exact next_first l
  rw [hfirst] at HNX
  clear hown hB hfirst HLI
  go_wp2_with fail
  refine HNX.out.mono ?_
  rintro e w2 ⟨rfl, rfl⟩
  clear HNX
  go_wp2_with fail
  go_loopw [4, 5, 6] (fun n long i wx => ∃ j : Nat, j ≤ L.length ∧ n = .int .i64 (hd (L.drop j)) ∧ long = .int .i64 (longTo L j : Int) ∧ i = .int .i64 j ∧ Like wx w1) (fun _ _ i _ => L.length - (intOf i).toNat)
  case atStart => exact ⟨0, Nat.zero_le _, by rw [List.drop_zero], rfl, rfl, Like.refl _⟩
  case round =>
    obtain ⟨j, hj, rfl, rfl, rfl, hk⟩ := hrel
    by_cases hlt : j < L.length
    · obtain ⟨m, hm⟩ : ∃ m, L[j]? = some m := ⟨L[j], List.getElem?_eq_getElem _⟩
      obtain ⟨g, cap, rfl⟩ : ∃ g cap, v1 = .slice (some ⟨g, 0, none⟩) L.length cap := by
        rcases HO.out.2 with ⟨_, h⟩ | ⟨g, cap, _, rfl, _⟩
        · omega
        · exact ⟨g, cap, rfl⟩
      have hcell : wr.cell? ⟨g, j, none⟩ = some (.int .i64 (m : Int)) := by
        rw [hk.cell, HO.out.cellAt j (by omega)]
        unfold ints
        rw [List.getElem?_map, hm]; rfl
      have hhd : hd (L.drop j) = (m : Int) := by
        rw [List.drop_eq_getElem_cons hlt, (List.getElem?_eq_some_iff.1 hm).2]; rfl
      rw [hhd]
      have hml := HLM.out m (List.mem_of_getElem? hm)
      have hnx : nextI l (m + 1) = hd (L.drop (j + 1)) := by rw [HLE.out] at hm ⊢; exact next_after hm
      have HNQ := Lib.hid (fun (w' : World) (k : Like w' wr) => next_quiet HH1.out HT1.out (k.trans hk) m hml)
      rw [hnx] at HNQ
      have hlg : longTo L (j + 1) = m / 64 * 8 + 8 := by rw [longTo, List.getD_eq_getElem?_getD, hm]; rfl
      have HLG := Lib.hid hlg
      have b1 : ¬ (m : Int) < 0 := by omega
      have b2 : ¬ (65535 : Int) < (m : Int) := by omega
      have b3 : ((m : Int) != (m : Int)) = false := by simp
      have b4 : decide ((m : Int) < 0) = false := decide_eq_false b1
      have b5 : decide ((65535 : Int) < (m : Int)) = false := decide_eq_false b2
      have s1 : IntKind.i64.wrap ((m : Int) + 1) = (m : Int) + 1 := by rw [IntKind.wrap_i64]; omega
      have HK := Lib.hid hk
      clear hm hhd hnx hlg hk
      go_wp2_with fail
      go_quiet ((go_at_call 19; exact Calls.quiet_of_same (HNQ.out _ (by exact ⟨rfl, rfl, rfl, rfl⟩))))
      go_wp2_with fail
      go_roundw
      case rel => exact ⟨j + 1, by omega, rfl, by rw [HLG.out]; go_num, by go_num, Like.trans (by exact ⟨rfl, rfl, rfl, rfl⟩) HK.out⟩
      case measure => simp [intOf]; omega
    · obtain rfl : j = L.length := by omega
      have hB2 := Bits.Below.like HB.out hk
      have HO2 : Hid (wr.ownsRow w.heap.size 3 1 v1 L.length (ints L)) := hk.owns HO.out
      have hn : hd (L.drop L.length) = -1 := by rw [List.drop_length]; rfl
      rw [hn]
      have hlong : (longTo L L.length : Int) = ((keyS l).size : Int) := by rw [HLE.out, longTo_all HH.out.2.1]
      rw [hlong]
      have HATW : Hid (At w v v l l wr) := ⟨HH1.out.stay (hk.below _), HH1.out.stay (hk.below _), hB2, (HT1.out.stay (hk.below _)).first⟩
      have HOF := Lib.hid (of_any (own_ints HO2.out (by omega)))
      have hcnt : count l = L.length := by rw [HLE.out, count_all]
      have HCNT := Lib.hid hcnt
      have BL := Lib.hid HH.out.2.1
      have HLL := HH1.out.len
      clear hn hlong hk hB2 HO2 hcnt hlt hj HH HH1 HT HT1 HB HO
      go_wp2_with fail
      refine HOF.out.mono ?_
      rintro e w3 ⟨vo, rfl, ho, hB⟩
      have HAT := Lib.hid (HATW.out.next hB)
      have HOW := Lib.hid ho.words
      have hwd : ∀ i, wd (ofL (L.map Int.ofNat)) i = wd l i := fun i => by rw [HLE.out]; exact wd_of_all BL.out i
      have HS : Hid (sameB (ofL (L.map Int.ofNat)) l = true) := same_iff.2 hwd
      have HKC := Lib.hid (key_congr hwd)
      have H1 := Lib.hid (same_any HOW.out HAT.out.1)
      rw [HS.out] at H1
      clear ho hB hwd HATW HOF
      go_wp2_with fail
      refine H1.out.mono ?_
      rintro e w4 ⟨rfl, hk⟩
      have HAT := Lib.hid (HAT.out.like hk)
      have H1 := Lib.hid (key_any (HOW.out.stay (hk.below _)))
      rw [HKC.out] at H1
      obtain ⟨K, hK⟩ : ∃ K, K = keyS l := ⟨_, rfl⟩
      rw [← hK] at H1 ⊢
      have HK := Lib.hid hK
      clear hk HKC HOW HS hK
      go_wp2_with fail
      refine H1.out.mono ?_
      rintro e w5 ⟨rfl, hB⟩
      have HAT := Lib.hid (HAT.out.next hB)
      have H1 := Lib.hid (key_any HAT.out.1)
      rw [← HK.out] at H1
      clear hB
      go_wp2_with fail
      refine H1.out.mono ?_
      rintro e w6 ⟨rfl, hB⟩
      have HAT := Lib.hid (HAT.out.next hB)
      have H1 := Lib.hid (key_any HAT.out.1)
      rw [← HK.out] at H1
      clear hB
      go_wp2_with fail
      refine H1.out.mono ?_
      rintro e w7 ⟨rfl, hB⟩
      have HAT := Lib.hid (HAT.out.next hB)
      have H1 := Lib.hid (count_any HAT.out.1)
      rw [HCNT.out] at H1
      clear hB
      go_wp2_with fail
      refine H1.out.mono ?_
      rintro e w8 ⟨rfl, rfl⟩
      have H1 := Lib.hid (works_any HAT.out.2.2.2)
      go_wp2_with fail
      refine H1.out.mono ?_
      rintro e w9 ⟨rfl, hB⟩
      have HAT := Lib.hid (HAT.out.next hB)
      clear hB H1
      go_wp2
      go_ret
      exact ⟨rfl, HAT.out.2.2.1⟩

end Go.Proofs.YtfcdmkfbkkogbabDoor.Bits
