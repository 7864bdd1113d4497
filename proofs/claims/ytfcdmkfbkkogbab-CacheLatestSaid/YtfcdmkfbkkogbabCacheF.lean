/- The cache's shrink: who was asked for longest ago goes. -/
import Derived.Test.YtfcdmkfbkkogbabCacheE
import Derived.Deep.LoopGhost
namespace Go.Proofs.Ytfcdmkfbkkogbab.Cache
open Go Go.RowKit

theorem tighten {w : World} {m n : Nat} {D : DataW Unit} (h : w.ownsMap Try.prog 9 pR m n D) : w.ownsMap Try.prog 9 pR m (Maps.size D) D := by
  obtain ⟨es, clock, h1, h2, _, rfl⟩ := h
  exact ⟨es, clock, h1, h2, by simp [Maps.size, length_sorted], rfl⟩

theorem Owns.len {w : World} {m : Nat} {L : List Ent} (h : Owns w m L) (ty : TypeId) : (Builtin.len_ #[45] ty #[.map (some m)]).run Try.prog w = .ok (.int .i64 (L.length : Int)) w := by
  obtain ⟨D, h1, h2, _⟩ := h
  rw [h1.len Try.underlying45 ty, h2]

theorem str_ne {a b : ByteArray} (h : a ≠ b) : Lit.string a.data.toList ≠ Lit.string b.data.toList := by
  intro e
  apply h
  cases a; cases b
  simp at e
  simpa [ByteArray.mk.injEq] using e

theorem Owns.drop {w : World} {m : Nat} {L : List Ent} {x : Ent} (h : Owns w m (L ++ [x])) (hk : ((L ++ [x]).map (·.1)).Nodup) (hx : x.1.size ≤ maxLen) (ty : TypeId) :
    ∃ w', (Builtin.delete_ #[45, 9] ty #[.map (some m), .string x.1]).run Try.prog w = .ok (.tuple #[]) w' ∧ Owns w' m L ∧ w.mapTurned w' m := by
  obtain ⟨D, h1, h2, h3⟩ := h
  obtain ⟨w', hrun, hown, ht⟩ := h1.drop key9 Try.underlying45 (WideMaps.keyOf_string_mk Try.underlying9 hx) ty
  have hxm : look (L ++ [x]) x.1 = some x := (look_iff hk).2 ⟨by simp, rfl⟩
  have hhas : Maps.has D (.string x.1.data.toList) = true := Maps.has_true_of_atKey (y := .lit (.int .i64 x.2.2)) fun z => by rw [h3, hxm]; rfl
  have hsize : Maps.size (D.del (.string x.1.data.toList)) = L.length := by
    have := Maps.size_del (k := .string x.1.data.toList) (h1.tidy key9)
    rw [hhas, h2] at this
    simp at this
    exact this
  refine ⟨w', hrun, ⟨_, by rw [← hsize]; exact tighten hown, hsize, fun k z => ?_⟩, ht⟩
  have hkL : (L.map (·.1)).Nodup := by simp at hk; exact (List.nodup_append.1 hk).1
  have hnx : look L x.1 = none := by
    cases hl : look L x.1 with
    | none => rfl
    | some y =>
      obtain ⟨hy, e⟩ := (look_iff hkL).1 hl
      simp at hk
      exact absurd e ((List.nodup_append.1 hk).2.2 y.1 (List.mem_map_of_mem hy) x.1 (by simp))
  by_cases hkx : k = x.1
  · subst hkx
    rw [Maps.atKey_del_same, hnx]; rfl
  · rw [Maps.atKey_del_other (str_ne hkx), h3]
    have : look (L ++ [x]) k = look L k := by
      unfold look
      rw [List.find?_append]
      simp [Ne.symm hkx]
    rw [this]

theorem mapTurned_block {w w' : World} {m : Nat} (h : w.mapTurned w' m) (b : Nat) (hb : b ≠ m) : w'.heap[b]? = w.heap[b]? := by
  obtain ⟨_, _, _, _, h1, rfl⟩ := h
  exact ChangeMaps.heap_setBlock_other h1 _ hb
theorem mapTurned_cell {w w' : World} {m : Nat} (h : w.mapTurned w' m) (b o : Nat) (hb : b ≠ m) : w'.cell? ⟨b, o, none⟩ = w.cell? ⟨b, o, none⟩ :=
  World.cell?_of_block (mapTurned_block h b hb)
theorem mapTurned_below {w w' : World} {m B : Nat} (h : w.mapTurned w' m) (hB : B ≤ m) : Below B w w' := by
  have hb := mapTurned_block h
  obtain ⟨_, _, _, _, h1, rfl⟩ := h
  exact ⟨rfl, rfl, rfl, by simp [ChangeMaps.setBlock], fun k hk => hb k (by omega)⟩

/-- Fewer are kept, nothing else has turned but the ring and the map. -/
theorem Kept.less {w w' : World} {B c m r : Nat} {room : Int} {st : Int × Int × Int} {L L' : List Ent} (H : Kept w B c m r room st L) (hs : L'.Sublist L)
    (hc : ∀ b o, (b ∉ r :: blocks L ∨ (o ≠ 2 ∧ o ≠ 3)) → b ≠ m → w'.cell? ⟨b, o, none⟩ = w.cell? ⟨b, o, none⟩) (hf : ∀ a, w'.frozen? a = w.frozen? a) (ho : Owns w' m L') (hP : Path w' (r :: blocks L' ++ [r])) :
    Kept w' B c m r room st L' := by
  have nd := H.nd
  simp only [List.nodup_cons] at nd
  have hcr : c ∉ r :: blocks L := fun h => nd.1 (List.mem_cons_of_mem _ h)
  have hcm : c ≠ m := fun h => nd.1 (by rw [h]; simp)
  have hsb : (blocks L').Sublist (blocks L) := hs.map _
  have hsub : ∀ b, b ∈ r :: blocks L' → b ∈ r :: blocks L := fun b hb => (List.Sublist.cons_cons r hsb).subset hb
  have hme : ∀ b ∈ r :: blocks L, b ≠ m := fun b hb e => nd.2.1 (by rw [← e]; exact hb)
  refine ⟨?_, ?_, ?_, ?_, ?_, ?_, ?_, ho, hP, ?_, H.keys.sublist (hs.map _), ?_, ?_, ?_⟩
  · rw [hc _ _ (.inl hcr) hcm]; exact H.room
  · rw [hc _ _ (.inl hcr) hcm]; exact H.map
  · rw [hc _ _ (.inl hcr) hcm]; exact H.ring
  · rw [hc _ _ (.inl hcr) hcm]; exact H.s0
  · rw [hc _ _ (.inl hcr) hcm]; exact H.s1
  · rw [hc _ _ (.inl hcr) hcm]; exact H.s2
  · intro o; rw [hf]; exact H.fc o
  · exact H.nd.sublist (.cons_cons c (.cons_cons m (.cons_cons r hsb)))
  · intro x hx
    have hx' := hs.subset hx
    have hxm : x.2.2 ≠ m := hme _ (List.mem_cons_of_mem _ (List.mem_map_of_mem hx'))
    obtain ⟨a1, a2, a3⟩ := H.ents x hx'
    exact ⟨by rw [hc _ _ (.inr ⟨by decide, by decide⟩) hxm]; exact a1, by rw [hc _ _ (.inr ⟨by decide, by decide⟩) hxm]; exact a2, a3⟩
  · intro b hb o
    rw [hf]
    exact H.fr b (hsub b hb) o
  · intro b hb
    exact H.low b ((List.Sublist.cons_cons c (.cons_cons m (.cons_cons r hsb))).subset hb)

theorem Path.of_block {w w' : World} {xs : List Nat} (h : Path w xs) (hb : ∀ b ∈ xs, w'.heap[b]? = w.heap[b]?) : Path w' xs :=
  Path.congr (fun a ha => World.cell?_of_block (hb a ((List.dropLast_sublist _).subset ha))) (fun b hb' => World.cell?_of_block (hb b (List.mem_of_mem_tail hb'))) h

/-- What the loop of shrink keeps, with j still there. -/
def Shr (w : World) (B c m r : Nat) (room : Int) (st : Int × Int × Int) (L : List Ent) (most : Int) (j : Nat) (wr : World) : Prop :=
  Kept wr B c m r room (st.1, st.2.1, st.2.2 + ((L.length : Int) - j)) (L.take j) ∧ j ≤ L.length ∧ (most ≤ j ∨ j = L.length) ∧ Below B w wr

theorem take_snoc {L : List Ent} {j : Nat} (h : j + 1 ≤ L.length) : ∃ x, L.take (j + 1) = L.take j ++ [x] := by
  refine ⟨L[j], ?_⟩
  rw [List.take_succ_eq_append_getElem h]

theorem shr_step {w1 wr : World} {B c m r : Nat} {room : Int} {st : Int × Int × Int} {L1 : List Ent} {x : Ent} (HK : Kept wr B c m r room st (L1 ++ [x])) (hT : Turned wr w1 (r :: blocks (L1 ++ [x]))) (hP : Path w1 (r :: blocks L1 ++ [r])) :
    w1.cell? ⟨c, 1, none⟩ = some (.map (some m)) ∧ w1.cell? ⟨x.2.2, 0, none⟩ = some (.string x.1) ∧
    ∃ W, (Builtin.delete_ #[45, 9] 0 #[.map (some m), .string x.1]).run Try.prog w1.drew = .ok (.tuple #[]) W ∧ Kept W B c m r room st L1 ∧ Below B wr W := by
  have nd := HK.nd
  simp only [List.nodup_cons] at nd
  have hcr : c ∉ r :: blocks (L1 ++ [x]) := fun h => nd.1 (List.mem_cons_of_mem _ h)
  have hx := HK.ents x (by simp)
  have ho : Owns w1.drew m (L1 ++ [x]) := HK.own.same (hT.block m nd.2.1) rfl fun _ => rfl
  obtain ⟨W, hrun, hW, ht⟩ := ho.drop HK.keys hx.2.2 0
  refine ⟨by rw [hT.cell _ _ (.inl hcr)]; exact HK.map, by rw [hT.cell _ _ (.inr ⟨by decide, by decide⟩)]; exact hx.1, W, hrun, ?_, ?_⟩
  · refine HK.less (List.sublist_append_left _ _) (fun b o hb hm => (mapTurned_cell ht b o hm).trans (hT.cell b o hb)) (fun a => (ht.frozen a).trans (hT.frozen a)) hW ?_
    refine (Path.congr (w := w1) (w' := w1.drew) (fun _ _ => rfl) (fun _ _ => rfl) hP).of_block fun b hb => mapTurned_block ht b ?_
    rintro rfl
    apply nd.2.1
    simp at hb ⊢
    rcases hb with h | ⟨k, hk⟩ | h
    · exact .inl h
    · exact .inr (.inl ⟨k, hk⟩)
    · exact .inl h
  · refine (hT.below fun b hb => HK.low b (by simp at hb ⊢; exact .inr (.inr hb))).trans (Below.trans (b := w1.drew) (Below.refl B w1).drew (mapTurned_below ht (HK.low m (by simp))))

theorem shrink_any {w : World} {B c m r : Nat} {room : Int} {st : Int × Int × Int} {L : List Ent} (H : Kept w B c m r room st L) {most : Int} (h0 : 0 ≤ most) (hL : L.length ≤ 5000) (hs0 : 0 ≤ st.2.2) (hs1 : st.2.2 ≤ 1000000) :
    Calls Try.prog 49 #[ptr c, .int .i64 most] w fun e w' => e = .returned (.tuple #[]) ∧ ∃ j, Shr w B c m r room st L most j w' ∧ j ≤ most.toNat := by
  have HH := Lib.hid H
  go_enter Try.func49, Try.ntmps49
  go_wp2_with fail
  go_loopg [] L.length (fun g wr => Shr w B c m r room st L most g wr)
  case atStart =>
    refine ⟨?_, Nat.le_refl _, .inr rfl, Below.refl _ _⟩
    simpa using HH.out
  case round =>
    obtain ⟨hK, hj, hm, hB⟩ := hrel
    have hlen := fun ty => hK.own.len ty
    rw [List.length_take_of_le hj] at hlen
    have k1 := hK.map
    have k2 := hK.ring
    by_cases hlt : most < (gk : Int)
    · obtain ⟨j, rfl⟩ : ∃ j, gk = j + 1 := ⟨gk - 1, by omega⟩
      obtain ⟨x, hx⟩ := take_snoc hj
      rw [hx] at hK
      have nd := hK.nd
      have hp := hK.path
      have fr := hK.fr
      simp only [blocks, List.map_append, List.map_cons, List.map_nil] at nd hp fr
      obtain ⟨p, n, _, _, _, hr2, _, _, hn, _⟩ := path_leave (List.nodup_cons.1 (List.nodup_cons.1 nd).2).2 hp
      rw [hn rfl] at hr2
      have HL := Lib.hid (leave_path (List.nodup_cons.1 (List.nodup_cons.1 nd).2).2 hp fr)
      have HK := Lib.hid hK
      have HB := Lib.hid hB
      have HX := Lib.hid hx
      clear nd hp fr hK hB hx
      go_wp2_with fail
      refine HL.out.mono ?_
      rintro e w1 ⟨rfl, hT, hP, -, -⟩
      obtain ⟨K1, q1, W, hdel, hW, hBW⟩ := shr_step HK.out (by simpa [blocks] using hT) (by simpa [blocks] using hP)
      have q5 := hW.s2
      have qf := hW.fc 5
      have HW := Lib.hid hW
      have HBW := Lib.hid hBW
      have hfin : ∀ w', Like w' (W.setCell ⟨c, 5, none⟩ (.int .i64 (st.2.2 + ((L.length : Int) - ((j + 1 : Nat) : Int)) + 1))) → Shr w B c m r room st L most j w' := fun w' hl =>
        ⟨HW.out.setHead hl (by rw [hl.cell, cell_set_other (.inr (by decide))]; exact HW.out.room) (by rw [hl.cell, cell_set_other (.inr (by decide))]; exact HW.out.s0) (by rw [hl.cell, cell_set_other (.inr (by decide))]; exact HW.out.s1)
          (by rw [hl.cell, cell_set_same HW.out.s2]; simp; omega) ⟨by decide, by decide⟩, by omega, .inl (by omega), (HB.out.trans HBW.out).trans (Below.like ((Below.refl _ _).setCell HW.out.some_c _) hl)⟩
      have HF := Lib.hid hfin
      clear hfin hW hBW
      clear hT hP
      go_wp2_with fail
      go_region
      all_goals go_wp2_with fail
      all_goals go_region
      all_goals go_wp2
      all_goals go_roundg j
      all_goals first | (exact HF.out _ (by exact ⟨rfl, rfl, rfl, rfl⟩)) | omega
    · have HK := Lib.hid hK
      have HB := Lib.hid hB
      clear hK hB
      go_wp2
      go_end0
      exact ⟨rfl, gk, ⟨HK.out, hj, hm, HB.out⟩, by omega⟩

end Go.Proofs.Ytfcdmkfbkkogbab.Cache
