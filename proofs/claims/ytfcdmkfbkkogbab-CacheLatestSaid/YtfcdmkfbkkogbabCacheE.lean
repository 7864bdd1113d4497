/- The cache's Get, walked. -/
import Derived.Test.YtfcdmkfbkkogbabCacheD
namespace Go.Proofs.Ytfcdmkfbkkogbab.Cache
open Go Go.RowKit

theorem get_miss {w : World} {B c m r : Nat} {room : Int} {st : Int × Int × Int} {L : List Ent} (H : Kept w B c m r room st L) {k : ByteArray} (hk : k.size ≤ maxLen) (hx : look L k = none) (hs0 : 0 ≤ st.2.1) (hs1 : st.2.1 ≤ 1000000) :
    Calls Try.prog 23 #[ptr c, .string k] w fun e w' => e = .returned (.tuple #[.int .i64 0, .bool false]) ∧ Kept w' B c m r room (st.1, st.2.1 + 1, st.2.2) L ∧ Below B w w' := by
  have hlook := H.lookup hk
  rw [hx] at hlook
  have h1 := H.map
  have h4 := H.s1
  have hf := H.fc 4
  have hfin : ∀ w', Like w' (w.setCell ⟨c, 4, none⟩ (.int .i64 (st.2.1 + 1))) → Kept w' B c m r room (st.1, st.2.1 + 1, st.2.2) L ∧ Below B w w' := fun w' hl =>
    ⟨H.setHead hl (by rw [hl.cell, cell_set_other (.inr (by decide))]; exact H.room) (by rw [hl.cell, cell_set_other (.inr (by decide))]; exact H.s0) (by rw [hl.cell, cell_set_same H.s1]) (by rw [hl.cell, cell_set_other (.inr (by decide))]; exact H.s2) ⟨by decide, by decide⟩,
      Below.like ((Below.refl _ _).setCell H.some_c _) hl⟩
  have HF := Lib.hid hfin
  clear hfin H hx
  go_enter Try.func23, Try.ntmps23
  go_wp2_with fail
  refine (plain_made c m _ h1).mono ?_
  rintro e w1 ⟨rfl, rfl⟩
  go_wp2_with fail
  go_region
  all_goals go_wp2
  all_goals go_ret2
  all_goals exact ⟨rfl, HF.out _ ⟨rfl, rfl, rfl, rfl⟩⟩

/-- The entry leaves the ring. -/
theorem Kept.leave {w : World} {B c m r : Nat} {room : Int} {st : Int × Int × Int} {L : List Ent} (H : Kept w B c m r room st L) {k : ByteArray} {x : Ent} (hx : look L k = some x) :
    Calls Try.prog 47 #[ptr x.2.2] w fun e w' => e = .returned (.tuple #[]) ∧ Turned w w' (r :: blocks L) ∧ Path w' (r :: blocks (rest L k) ++ [r]) ∧ (∃ y, w'.cell? ⟨x.2.2, 2, none⟩ = some y) ∧ ∃ y, w'.cell? ⟨x.2.2, 3, none⟩ = some y := by
  obtain ⟨A, C, hL, hr⟩ := look_split H.keys hx
  have nd := H.nd
  have hp := H.path
  have fr := H.fr
  simp only [List.nodup_cons] at nd
  rw [hr]
  subst hL
  simp only [blocks, List.map_append, List.map_cons] at nd hp fr ⊢
  exact leave_path (List.nodup_cons.2 nd.2.2) hp fr

theorem rest_sub {L : List Ent} {k : ByteArray} : List.Sublist (rest L k) L := List.filter_sublist

/-- .. and is put first. -/
theorem Kept.again {w w1 : World} {B c m r : Nat} {room : Int} {st : Int × Int × Int} {L : List Ent} (H : Kept w B c m r room st L) {k : ByteArray} {x : Ent} (hx : look L k = some x)
    (hT : Turned w w1 (r :: blocks L)) (hP : Path w1 (r :: blocks (rest L k) ++ [r])) (h2 : ∃ y, w1.cell? ⟨x.2.2, 2, none⟩ = some y) (h3 : ∃ y, w1.cell? ⟨x.2.2, 3, none⟩ = some y) :
    Calls Try.prog 48 #[ptr c, ptr x.2.2] w1 fun e w' => e = .returned (.tuple #[]) ∧ Kept w' B c m r room st (x :: rest L k) ∧ Below B w w' := by
  obtain ⟨A, C, hL, hr⟩ := look_split H.keys hx
  have hperm : (x :: rest L k).Perm L := by rw [hr, hL]; exact List.perm_middle.symm
  have nd := H.nd
  simp only [List.nodup_cons] at nd
  have hc : c ∉ r :: blocks L := fun h => nd.1 (List.mem_cons_of_mem _ h)
  have hpb : (x.2.2 :: blocks (rest L k)).Perm (blocks L) := List.Perm.map (fun y : Ent => y.2.2) hperm
  have hpr : (x.2.2 :: r :: blocks (rest L k)).Perm (r :: blocks L) := (List.Perm.swap _ _ _).trans (.cons r hpb)
  have hxm : x.2.2 ∈ r :: blocks L := hpr.mem_iff.1 (by simp)
  obtain ⟨p, x2⟩ := h2
  obtain ⟨n, x3⟩ := h3
  refine (first_path (hpr.nodup_iff.2 (List.nodup_cons.2 nd.2.2)) (fun h => hc (hpr.mem_iff.1 h)) hP (fun b hb o => by rw [hT.frozen]; exact H.fr b (hpr.mem_iff.1 hb) o) (by rw [hT.cell _ _ (.inl hc)]; exact H.ring) x2 x3).mono ?_
  rintro e w' ⟨he, hT', hP'⟩
  have hT2 : Turned w w' (r :: blocks L) := hT.trans (hT'.mono fun b hb => hpr.mem_iff.1 hb)
  exact ⟨he, H.turn hT2 hperm hP', hT2.below fun b hb => H.low b (by simp at hb ⊢; exact .inr (.inr hb))⟩

theorem get_hit {w : World} {B c m r : Nat} {room : Int} {st : Int × Int × Int} {L : List Ent} (H : Kept w B c m r room st L) {k : ByteArray} (hk : k.size ≤ maxLen) {x : Ent} (hx : look L k = some x) (hs0 : 0 ≤ st.1) (hs1 : st.1 ≤ 1000000) :
    Calls Try.prog 23 #[ptr c, .string k] w fun e w' => e = .returned (.tuple #[.int .i64 x.2.1, .bool true]) ∧ Kept w' B c m r room (st.1 + 1, st.2) (x :: rest L k) ∧ Below B w w' := by
  have hlook := H.lookup hk
  rw [hx] at hlook
  have h1 := H.map
  have h3 := H.s0
  have hf := H.fc 3
  have hfin : ∀ w', Like w' (w.setCell ⟨c, 3, none⟩ (.int .i64 (st.1 + 1))) → Kept w' B c m r room (st.1 + 1, st.2) L ∧ Below B w w' := fun w' hl =>
    ⟨H.setHead hl (by rw [hl.cell, cell_set_other (.inr (by decide))]; exact H.room) (by rw [hl.cell, cell_set_same H.s0]) (by rw [hl.cell, cell_set_other (.inr (by decide))]; exact H.s1) (by rw [hl.cell, cell_set_other (.inr (by decide))]; exact H.s2) ⟨by decide, by decide⟩,
      Below.like ((Below.refl _ _).setCell H.some_c _) hl⟩
  have HF := Lib.hid hfin
  have HX := Lib.hid hx
  clear hfin H hx
  go_enter Try.func23, Try.ntmps23
  go_wp2_with fail
  refine (plain_made c m _ h1).mono ?_
  rintro e w1 ⟨rfl, rfl⟩
  go_wp2_with fail
  go_region
  all_goals go_wp2_with fail
  all_goals
    refine ((HF.out _ (by exact ⟨rfl, rfl, rfl, rfl⟩)).1.leave HX.out).mono ?_
    rintro e w2 ⟨rfl, hT, hP, hy, hz⟩
    have HT := Lib.hid hT
    have HP := Lib.hid hP
    have HY := Lib.hid hy
    have HZ := Lib.hid hz
    clear hT hP hy hz
    go_wp2_with fail
    refine ((HF.out _ (by exact ⟨rfl, rfl, rfl, rfl⟩)).1.again HX.out HT.out HP.out HY.out HZ.out).mono ?_
    rintro e w3 ⟨rfl, hK, hB⟩
    have hn := (hK.ents x (by simp)).2.1
    have HK := Lib.hid hK
    have HB := Lib.hid hB
    clear hK hB
    go_wp2
    go_ret2
    exact ⟨rfl, HK.out, Below.trans (HF.out _ (by exact ⟨rfl, rfl, rfl, rfl⟩)).2 HB.out⟩

end Go.Proofs.Ytfcdmkfbkkogbab.Cache
