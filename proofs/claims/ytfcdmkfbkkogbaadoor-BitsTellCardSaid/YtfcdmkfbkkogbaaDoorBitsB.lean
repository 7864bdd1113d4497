/- Sets as rows of words: the same set in new memory (tidied). -/
import Derived.Test.YtfcdmkfbkkogbaaDoorBitsA
import Derived.Laws.CopyOwn
namespace Go.Proofs.YtfcdmkfbkkogbaaDoor.Bits
open Go Go.RowKit

theorem info35 : (Tryd.prog.info? 94).map (fun i => (i.zero, i.size, i.bytes)) = some (some (.int .u64 0), 1, 8) := by kernel_rfl

theorem Words.at {w : World} {v : Value} {l : List Nat} (H : Words w v l) (hl : 0 < l.length) : ∃ b off cap, v = .slice (some ⟨b, off, none⟩) l.length cap ∧ l.length ≤ cap ∧ cap ≤ maxLen ∧ b < w.heap.size ∧ ∀ i x, l[i]? = some x → w.cell? ⟨b, off + i, none⟩ = some (wordV x) := by
  obtain ⟨h, hlt, hmax⟩ := H
  rcases h with ⟨_, rfl⟩ | ⟨_, _, _, rfl⟩ | ⟨b, off, cap, rfl, hne, hcap, hcm, hc⟩
  · simp at hl
  · simp at hl
  · refine ⟨b, off, cap, rfl, hcap, hcm, ?_, hc⟩
    have h1 := hc 0 l[0] (List.getElem?_eq_getElem _)
    unfold World.cell? at h1
    split at h1
    · rename_i e; exact (Array.getElem?_eq_some_iff.1 e).1
    · cases h1

theorem add_off (b off j : Nat) : (⟨b, off, none⟩ : Addr).add j = ⟨b, off + j, none⟩ := by
  by_cases h : j = 0
  · subst h; simp [Addr.add]
  · simp [Addr.add, h]

set_option maxRecDepth 100000 in
theorem tidied_any {w : World} {v : Value} {l : List Nat} (H : Words w v l) : Calls Tryd.prog 84 #[v] w fun e w' => ∃ v', e = .returned v' ∧ Own w' w.heap.size v' (l.take (tl l)) ∧ Below w.heap.size w w' := by
  obtain ⟨i0, hi, hz0, hz1, hz2⟩ := info_parts info35
  have htl := tl_le l
  by_cases h0 : tl l = 0
  · have HT := Lib.hid (tidyLong_any H)
    rw [h0] at HT ⊢
    clear H h0 htl
    go_enter Tryd.func84, Tryd.ntmps84
    go_wp2_with fail
    refine HT.out.mono ?_
    rintro e w1 ⟨rfl, rfl⟩
    go_wp2
    go_ret
    exact ⟨_, rfl, ⟨⟨rfl, .inl ⟨rfl, rfl⟩⟩, by simp, by simp⟩, Below.refl _ _⟩
  · obtain ⟨b, off, cap, rfl, hcap, hcm, hb, hc⟩ := H.at (by omega)
    have HT := Lib.hid (tidyLong_any H)
    have HLT := Lib.hid H.2.1
    have HC := Lib.hid hc
    obtain ⟨n, hn⟩ : ∃ n, n = tl l := ⟨_, rfl⟩
    rw [← hn] at HT htl h0 ⊢
    have hn0 : ((n : Int) == 0) = false := by simp; omega
    obtain ⟨htl1, htl2⟩ := htl
    have Hn := Lib.hid hn
    have hnn : n ≤ l.length := htl1
    clear hn H hc h0
    unfold maxLen at hcm
    go_enter Tryd.func84, Tryd.ntmps84
    go_wp2_with fail
    refine HT.out.mono ?_
    rintro e w1 ⟨rfl, rfl⟩
    go_wp2_with (at_make; refine wpList_make_full _ rfl _ _ 64 rfl w.heap.size 94 i0 (.int .u64 0) 1 Tryd.underlying64 hi hz0 hz1 _ _ _ _ n rfl rfl rfl rfl ?b2 ?b3 (Nat.le_refl _) ?_)
    case b2 => rw [hz2]; omega
    case b3 => unfold maxLen; omega
    intro w1 hown hgrow
    obtain ⟨cur, hg, hcs⟩ : ∃ cur : Array Value, w1.heap[w.heap.size]? = some (.cells cur 94 (0, 0)) ∧ cur.size = n := by
      rcases hown.2 with ⟨h, _⟩ | ⟨g, cp, cur, e, _, hh, _, _, hcz, _⟩
      · cases h
      · simp only [Value.slice.injEq, Option.some.injEq, Addr.mk.injEq, and_true, true_and] at e
        obtain ⟨rfl, rfl⟩ := e
        exact ⟨cur, hh, by omega⟩
    have hB1 : Below w.heap.size w w1 := (Below.refl _ w).grown hgrow (Nat.le_refl _) (by simp)
    have hsrc : ∀ j u, (words (l.take n))[j]? = some u → w1.cell? ((⟨b, off, none⟩ : Addr).add j) = some u := by
      intro j u hu
      simp only [words_get, Option.map_eq_some_iff] at hu
      obtain ⟨x, hx, rfl⟩ := hu
      rw [add_off]
      have hj : j < n := by have := (List.getElem?_eq_some_iff.1 hx).1; rw [List.length_take] at this; omega
      rw [List.getElem?_take_of_lt hj] at hx
      exact (hB1.cell (p := ⟨b, off + j, none⟩) hb).trans (HC.out j x hx)
    have hlen : (words (l.take n)).length = n := by rw [words_length]; exact List.length_take_of_le hnn
    have HSRC := Lib.hid hsrc
    have HB1 := Lib.hid hB1
    have HG := Lib.hid hg
    have HLEN := Lib.hid hlen
    have HCS := Lib.hid hcs
    clear hown hgrow hsrc hB1 hg hlen hcs
    have hg2 : w1.heap[w.heap.size]? = some (.cells cur.toList.toArray 94 (0, 0)) := HG.out
    have HG2 := Lib.hid hg2
    clear hg2
    go_wp2_with (with_reducible refine wpList_copy_splice rfl (.tmp 11) (.tmp 12) 64 64 rfl 94 Tryd.underlying64 (by kernel_rfl) (some ⟨w.heap.size, 0, none⟩) (some ⟨b, off, none⟩) n n l.length cap rfl rfl w.heap.size 0 cur.toList 94 HG2.out (words (l.take n)) ?c1 ?c0 ?c2 ?c3 w.heap.size w HB1.out (Nat.le_refl _) ?_)
    case c1 => rw [HLEN.out]; exact (Nat.min_eq_right hnn).symm
    case c0 => exact fun _ j u hu => by rw [← add_off]; exact HSRC.out j u hu
    case c2 => rw [HLEN.out, Array.length_toList, HCS.out]; omega
    case c3 =>
      intro u hu
      simp only [words, List.mem_map] at hu
      obtain ⟨x, _, rfl⟩ := hu
      rfl
    intro w2 hrow hB2
    have hrow2 : w2.heap[w.heap.size]? = some (.cells (words (l.take n)).toArray 94 (0, 0)) := by
      have := hrow.out
      unfold splice at this
      rw [this, HLEN.out, List.drop_eq_nil_of_le (by rw [Array.length_toList, HCS.out]; omega)]
      simp
    have HROW := Lib.hid hrow2
    have HB2 := Lib.hid hB2
    clear hrow hrow2 hB2
    go_wp2
    go_ret
    have hl2 : (l.take n).length = n := List.length_take_of_le hnn
    have hOwn : Own w2 w.heap.size (.slice (some ⟨w.heap.size, 0, none⟩) n n) (l.take n) := by
      refine ⟨⟨by rw [words_length]; simp, .inr ⟨w.heap.size, n, _, by rw [hl2], Nat.le_refl _, HROW.out, by omega, by unfold maxLen; omega, by simp [words_length, hl2], ?_⟩⟩, fun x hx => HLT.out x (List.mem_of_mem_take hx), by rw [hl2]; unfold maxLen; omega⟩
      rw [List.toList_toArray, List.take_of_length_le (by rw [words_length]; simp)]
    exact ⟨_, rfl, hOwn, HB2.out⟩

end Go.Proofs.YtfcdmkfbkkogbaaDoor.Bits
