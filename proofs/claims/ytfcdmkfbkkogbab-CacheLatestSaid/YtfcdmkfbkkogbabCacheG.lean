/- The cache's Put, walked. -/
import Derived.Test.YtfcdmkfbkkogbabCacheF
namespace Go.Proofs.Ytfcdmkfbkkogbab.Cache
open Go Go.RowKit

theorem put_none {w : World} {B c m r : Nat} {st : Int × Int × Int} {L : List Ent} (H : Kept w B c m r 0 st L) (k : ByteArray) (n : Int) :
    Calls Try.prog 21 #[ptr c, .string k, .int .i64 n] w fun e w' => e = .returned (.tuple #[]) ∧ w = w' := by
  have h0 := H.room
  have h1 := H.map
  clear H
  go_enter Try.func21, Try.ntmps21
  go_wp2_with fail
  refine (plain_made c m _ h1).mono ?_
  rintro e w1 ⟨rfl, rfl⟩
  go_wp2
  exact bodyPost_ret (results_none Try.results21 _ _ _) rfl ⟨rfl, rfl⟩

/-- The shrink of Put and Resize, as one list. -/
theorem shrink_take {w : World} {B c m r : Nat} {room : Int} {st : Int × Int × Int} {L : List Ent} (H : Kept w B c m r room st L) {most : Int} (h0 : 0 ≤ most) (hL : L.length ≤ 5000) (hs0 : 0 ≤ st.2.2) (hs1 : st.2.2 ≤ 1000000) :
    Calls Try.prog 49 #[ptr c, .int .i64 most] w fun e w' => e = .returned (.tuple #[]) ∧ Kept w' B c m r room (st.1, st.2.1, st.2.2 + ((L.length : Int) - (L.take most.toNat).length)) (L.take most.toNat) ∧ Below B w w' := by
  refine (shrink_any H h0 hL hs0 hs1).mono ?_
  rintro e w' ⟨he, j, ⟨hK, hj, hm, hB⟩, hjm⟩
  have hjt : L.take most.toNat = L.take j := by
    rcases hm with hm | hm
    · rw [show most.toNat = j by omega]
    · rw [hm, List.take_of_length_le (by omega), List.take_of_length_le (by omega)]
  refine ⟨he, ?_, hB⟩
  rw [hjt, List.length_take_of_le hj]
  exact hK

def newEnt (k : ByteArray) (n : Int) : Obj := .cells #[.string k, .int .i64 n, .pointer none, .pointer none] 91

theorem lt_of_cell {w : World} {b o : Nat} {v : Value} (h : w.cell? ⟨b, o, none⟩ = some v) : b < w.heap.size := by
  unfold World.cell? at h
  split at h
  · rename_i e; exact (Array.getElem?_eq_some_iff.1 e).1
  · cases h

theorem Owns.lt {w : World} {m : Nat} {L : List Ent} (h : Owns w m L) : m < w.heap.size := by
  obtain ⟨D, h1, _⟩ := h; exact h1.lt

theorem Kept.lt {w : World} {B c m r : Nat} {room : Int} {st : Int × Int × Int} {L : List Ent} (H : Kept w B c m r room st L) : ∀ b ∈ c :: m :: r :: blocks L, b < w.heap.size := by
  intro b hb
  simp only [List.mem_cons] at hb
  rcases hb with rfl | rfl | rfl | hb
  · exact lt_of_cell H.room
  · exact H.own.lt
  · have hp := H.path
    cases hL : blocks L with
    | nil => rw [hL] at hp; exact lt_of_cell hp.1.1
    | cons x l => rw [hL] at hp; exact lt_of_cell hp.1.1
  · simp only [List.mem_map] at hb
    obtain ⟨x, hx, rfl⟩ := hb
    exact lt_of_cell (H.ents x hx).1

theorem Owns.put {w : World} {m : Nat} {L : List Ent} {k : ByteArray} {n : Int} {b : Nat} (h : Owns w m L) (hL : L.length ≤ 5000) (hk : k.size ≤ maxLen) (hn : look L k = none) :
    ∃ w', (Instr.mapUpdate 45 (.map (some m)) (.string k) (ptr b)).run Try.prog w = .ok () w' ∧ Owns w' m ((k, n, b) :: L) ∧ w.mapTurned w' m := by
  obtain ⟨D, h1, h2, h3⟩ := h
  obtain ⟨w', hrun, hown, ht⟩ := h1.store key9 Try.underlying45 (by unfold maxLen; omega) (WideMaps.keyOf_string_mk Try.underlying9 hk) (val := ptr b) (d := .lit (.int .i64 b)) (ps := []) rfl
  have hhas : Maps.has D (.string k.data.toList) = false := Maps.has_false_of_atKey fun z => by rw [h3, hn]; rfl
  refine ⟨w', hrun, ⟨_, by simpa using hown, ?_, fun q z => ?_⟩, ht⟩
  · rw [Maps.size_put (h1.tidy key9), hhas, h2]; simp
  · by_cases hq : q = k
    · subst hq
      rw [Maps.atKey_put_same h1.isMap (by simp [WideAt.IsKeyLit])]
      simp [look, told]
    · rw [Maps.atKey_put_other (str_ne hq), h3]
      unfold look
      rw [List.find?_cons_of_neg (by simpa using Ne.symm hq)]

theorem cell_alloc_old {w : World} (O : Obj) {b o : Nat} (h : b < w.heap.size) : (w.alloc O).cell? ⟨b, o, none⟩ = w.cell? ⟨b, o, none⟩ := World.cell?_alloc_lt w O ⟨b, o, none⟩ h

theorem put_step {w : World} {B c m r : Nat} {room : Int} {st : Int × Int × Int} {L : List Ent} (H : Kept w B c m r room st L) (hL : L.length ≤ 5000) {k : ByteArray} (n : Int) (hk : k.size ≤ maxLen) (hn : look L k = none) :
    ∃ W, (Instr.mapUpdate 45 (.map (some m)) (.string k) (ptr w.heap.size)).run Try.prog (w.alloc (newEnt k n)) = .ok () W ∧
      Calls Try.prog 48 #[ptr c, ptr w.heap.size] W fun e w' => e = .returned (.tuple #[]) ∧ Kept w' B c m r room st ((k, n, w.heap.size) :: L) ∧ Below B w w' := by
  have hlt := H.lt
  have nd := H.nd
  simp only [List.nodup_cons] at nd
  have hcr : c ∉ r :: blocks L := fun h => nd.1 (List.mem_cons_of_mem _ h)
  have hcm : c ≠ m := fun h => nd.1 (by rw [h]; simp)
  have hBs : B ≤ w.heap.size := Nat.le_trans H.some_c (Nat.le_of_lt (hlt c (by simp)))
  have hme : ∀ b ∈ r :: blocks L, b ≠ m := fun b hb e => nd.2.1 (by rw [← e]; exact hb)
  have hbl : ∀ b ∈ r :: blocks L, b < w.heap.size := fun b hb => hlt b (by simp at hb ⊢; exact .inr (.inr hb))
  have hmlt := hlt m (by simp)
  have hclt := hlt c (by simp)
  have ho : Owns (w.alloc (newEnt k n)) m L := H.own.same (Below.heap_alloc _ _ _ hmlt) rfl fun _ => rfl
  obtain ⟨W, hrun, hO, ht⟩ := ho.put (n := n) (b := w.heap.size) hL hk hn
  have cw : ∀ b o, b ≠ m → b < w.heap.size → W.cell? ⟨b, o, none⟩ = w.cell? ⟨b, o, none⟩ := fun b o hb hb' => (mapTurned_cell ht b o hb).trans (cell_alloc_old _ hb')
  have cn : ∀ o, W.cell? ⟨w.heap.size, o, none⟩ = (#[.string k, .int .i64 n, .pointer none, .pointer none] : Array Value)[o]? := fun o => (mapTurned_cell ht _ o (by omega)).trans (World.cell?_alloc_new w _ _ o)
  have fw : ∀ a, W.frozen? a = w.frozen? a := fun a => (ht.frozen a).trans (frozen?_alloc_cells w _ _ a)
  have ndn : (w.heap.size :: r :: blocks L).Nodup := List.nodup_cons.2 ⟨fun h => by have := hbl _ h; omega, List.nodup_cons.2 nd.2.2⟩
  have hcn : c ∉ w.heap.size :: r :: blocks L := by
    intro h
    rcases List.mem_cons.1 h with h | h
    · omega
    · exact hcr h
  have hnf : ∀ o, w.frozen? ⟨w.heap.size, o, none⟩ = false := fun o => by simp [World.frozen?]
  refine ⟨W, hrun, (first_path ndn hcn ?_ ?_ ?_ (cn 2) (cn 3)).mono ?_⟩
  · exact H.path.of_block fun b hb => (mapTurned_block ht b (hme b (by simp at hb ⊢; rcases hb with h | h | h; exact .inl h; exact .inr h; exact .inl h))).trans (Below.heap_alloc _ _ _ (hbl b (by simp at hb ⊢; rcases hb with h | h | h; exact .inl h; exact .inr h; exact .inl h)))
  · intro b hb o
    rw [fw]
    rcases List.mem_cons.1 hb with rfl | hb
    · exact hnf o
    · exact H.fr b hb o
  · rw [cw c 2 hcm hclt]; exact H.ring
  · rintro e w' ⟨he, hT, hP⟩
    have cc : ∀ o, w'.cell? ⟨c, o, none⟩ = w.cell? ⟨c, o, none⟩ := fun o => (hT.cell _ _ (.inl hcn)).trans (cw c o hcm hclt)
    refine ⟨he, ⟨(cc 0).trans H.room, (cc 1).trans H.map, (cc 2).trans H.ring, (cc 3).trans H.s0, (cc 4).trans H.s1, (cc 5).trans H.s2, fun o => by rw [hT.frozen, fw]; exact H.fc o, ?_, hP, ?_, ?_, ?_, ?_, ?_⟩, ?_⟩
    · refine hO.same (hT.block m fun h => ?_) rfl fun _ => rfl
      rcases List.mem_cons.1 h with h | h
      · omega
      · exact nd.2.1 h
    · have : (c :: m :: r :: w.heap.size :: blocks L).Perm (w.heap.size :: c :: m :: r :: blocks L) :=
        ((((List.Perm.swap w.heap.size r _).cons m).cons c).trans ((List.Perm.swap w.heap.size m _).cons c)).trans (List.Perm.swap w.heap.size c _)
      exact this.nodup_iff.2 (List.nodup_cons.2 ⟨fun h => by have := hlt _ h; omega, H.nd⟩)
    · simp only [List.map_cons, List.nodup_cons]
      refine ⟨?_, H.keys⟩
      intro hm
      simp only [List.mem_map] at hm
      obtain ⟨y, hy, e⟩ := hm
      exact look_none hn y hy e
    · intro x hx
      rcases List.mem_cons.1 hx with rfl | hx
      · exact ⟨(hT.cell _ _ (.inr ⟨by decide, by decide⟩)).trans (cn 0), (hT.cell _ _ (.inr ⟨by decide, by decide⟩)).trans (cn 1), hk⟩
      · have hb : x.2.2 ∈ r :: blocks L := List.mem_cons_of_mem _ (List.mem_map_of_mem hx)
        obtain ⟨a1, a2, a3⟩ := H.ents x hx
        exact ⟨(hT.cell _ _ (.inr ⟨by decide, by decide⟩)).trans ((cw _ _ (hme _ hb) (hbl _ hb)).trans a1), (hT.cell _ _ (.inr ⟨by decide, by decide⟩)).trans ((cw _ _ (hme _ hb) (hbl _ hb)).trans a2), a3⟩
    · intro b hb o
      rw [hT.frozen, fw]
      simp only [blocks, List.map_cons, List.mem_cons] at hb
      rcases hb with rfl | rfl | hb
      · exact H.fr _ (by simp) o
      · exact hnf o
      · exact H.fr b (List.mem_cons_of_mem _ hb) o
    · intro b hb
      simp only [blocks, List.map_cons, List.mem_cons] at hb
      rcases hb with rfl | rfl | rfl | rfl | hb
      · exact H.low _ (by simp)
      · exact H.low _ (by simp)
      · exact H.low _ (by simp)
      · exact hBs
      · exact H.low b (by simp at hb ⊢; exact .inr (.inr (.inr hb)))
    · refine ((Below.refl B w).alloc hBs _).trans ((mapTurned_below ht (H.low m (by simp))).trans (hT.below fun b hb => ?_))
      rcases List.mem_cons.1 hb with rfl | hb
      · exact hBs
      · exact H.low b (by simp at hb ⊢; exact .inr (.inr hb))

theorem put_miss {w : World} {B c m r : Nat} {room : Int} {st : Int × Int × Int} {L : List Ent} (H : Kept w B c m r room st L) (h1 : 1 ≤ room) (h2 : room ≤ 4096) (hL : L.length ≤ 5000) (hs0 : 0 ≤ st.2.2) (hs1 : st.2.2 ≤ 1000000) {k : ByteArray} (n : Int) (hk : k.size ≤ maxLen) (hn : look L k = none) :
    Calls Try.prog 21 #[ptr c, .string k, .int .i64 n] w fun e w' => e = .returned (.tuple #[]) ∧
      ∃ b, Kept w' B c m r room (st.1, st.2.1, st.2.2 + ((L.length : Int) - (L.take (room - 1).toNat).length)) ((k, n, b) :: L.take (room - 1).toNat) ∧ Below B w w' := by
  have hlook := H.lookup hk
  rw [hn] at hlook
  have c0 := H.room
  have c1 := H.map
  have hroom : (room == 0) = false := by simp; omega
  have HS := Lib.hid (shrink_take H (most := room - 1) (by omega) hL hs0 hs1)
  have HN := Lib.hid hn
  clear hn H
  go_enter Try.func21, Try.ntmps21
  go_wp2_with fail
  refine (plain_made c m _ c1).mono ?_
  rintro e w1 ⟨rfl, rfl⟩
  go_wp2_with fail
  refine HS.out.mono ?_
  rintro e w2 ⟨rfl, hK, hB⟩
  have hnt : look (L.take (room - 1).toNat) k = none := by
    have := HN.out
    unfold look at this ⊢
    rw [List.find?_eq_none] at this ⊢
    exact fun x hx => this x (List.mem_of_mem_take hx)
  obtain ⟨W, hup, hcall⟩ := put_step hK (by rw [List.length_take]; omega) n hk hnt
  have HC := Lib.hid hcall
  have HB := Lib.hid hB
  have d1 := hK.map
  have hclt : c < w2.heap.size := lt_of_cell d1
  clear hnt hcall hB hK
  unfold newEnt at hup
  go_wp2_with fail
  refine HC.out.mono ?_
  rintro e w3 ⟨rfl, hK, hB⟩
  have HK := Lib.hid hK
  have HB3 := Lib.hid hB
  clear hK hB
  go_wp2
  go_end0
  exact ⟨rfl, _, HK.out, HB.out.trans HB3.out⟩

end Go.Proofs.Ytfcdmkfbkkogbab.Cache
