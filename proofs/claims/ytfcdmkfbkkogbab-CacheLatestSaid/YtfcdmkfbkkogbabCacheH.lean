/- The cache's other calls: New, Clear, Resize, Long, Room, Stats, Keys of an empty one. -/
import Derived.Test.YtfcdmkfbkkogbabCacheG
import Derived.LaidEqlPtr
namespace Go.Proofs.Ytfcdmkfbkkogbab.Cache
open Go Go.RowKit

theorem long_any {w : World} {B c m r : Nat} {room : Int} {st : Int × Int × Int} {L : List Ent} (H : Kept w B c m r room st L) :
    Calls Try.prog 24 #[ptr c] w fun e w' => e = .returned (.int .i64 (L.length : Int)) ∧ w = w' := by
  have c1 := H.map
  have hlen := fun ty => H.own.len ty
  clear H
  go_enter Try.func24, Try.ntmps24
  go_wp2_with fail
  refine (plain_made c m _ c1).mono ?_
  rintro e w1 ⟨rfl, rfl⟩
  go_wp2
  go_ret
  exact ⟨rfl, rfl⟩

theorem room_any {w : World} {B c m r : Nat} {room : Int} {st : Int × Int × Int} {L : List Ent} (H : Kept w B c m r room st L) :
    Calls Try.prog 25 #[ptr c] w fun e w' => e = .returned (.int .i64 room) ∧ w = w' := by
  have c1 := H.map
  have c0 := H.room
  clear H
  go_enter Try.func25, Try.ntmps25
  go_wp2_with fail
  refine (plain_made c m _ c1).mono ?_
  rintro e w1 ⟨rfl, rfl⟩
  go_wp2
  go_ret
  exact ⟨rfl, rfl⟩

theorem resize_any {w : World} {B c m r : Nat} {room : Int} {st : Int × Int × Int} {L : List Ent} (H : Kept w B c m r room st L) (hL : L.length ≤ 5000) (hs0 : 0 ≤ st.2.2) (hs1 : st.2.2 ≤ 1000000) (n : Int) :
    Calls Try.prog 27 #[ptr c, .int .i64 n] w fun e w' => e = .returned (.tuple #[]) ∧
      Kept w' B c m r (min (max n 0) 4096) (st.1, st.2.1, st.2.2 + ((L.length : Int) - (L.take (min (max n 0) 4096).toNat).length)) (L.take (min (max n 0) 4096).toNat) ∧ Below B w w' := by
  have c1 := H.map
  have c0 := H.room
  have f0 := H.fc 0
  have hfin : ∀ w', Like w' (w.setCell ⟨c, 0, none⟩ (.int .i64 (min (max n 0) 4096))) → Kept w' B c m r (min (max n 0) 4096) st L ∧ Below B w w' := fun w' hl =>
    ⟨H.setHead hl (by rw [hl.cell, cell_set_same H.room]) (by rw [hl.cell, cell_set_other (.inr (by decide))]; exact H.s0) (by rw [hl.cell, cell_set_other (.inr (by decide))]; exact H.s1) (by rw [hl.cell, cell_set_other (.inr (by decide))]; exact H.s2) ⟨by decide, by decide⟩,
      Below.like ((Below.refl _ _).setCell H.some_c _) hl⟩
  have HF := Lib.hid hfin
  clear H hfin
  obtain ⟨N, hN⟩ : ∃ N, N = min (max n 0) 4096 := ⟨_, rfl⟩
  rw [← hN] at HF ⊢
  have HN0 : 0 ≤ N := by omega
  have HC := Lib.hid (fun w => cut_any n w)
  rw [← hN] at HC
  clear hN
  go_enter Try.func27, Try.ntmps27
  go_wp2_with fail
  refine (plain_made c m _ c1).mono ?_
  rintro e w1 ⟨rfl, rfl⟩
  go_wp2_with fail
  refine (HC.out _).mono ?_
  rintro e w1 ⟨rfl, rfl⟩
  go_wp2_with fail
  refine (shrink_take (HF.out _ (by exact ⟨rfl, rfl, rfl, rfl⟩)).1 HN0 hL hs0 hs1).mono ?_
  rintro e w2 ⟨rfl, hK, hB⟩
  have HK := Lib.hid hK
  have HB := Lib.hid hB
  clear hK hB
  go_wp2
  go_end0
  exact ⟨rfl, HK.out, Below.trans (HF.out _ (by exact ⟨rfl, rfl, rfl, rfl⟩)).2 HB.out⟩

theorem stats_any {w : World} {B c m r : Nat} {room : Int} {st : Int × Int × Int} {L : List Ent} (H : Kept w B c m r room st L) :
    Calls Try.prog 50 #[ptr c] w fun e w' => e = .returned (.agg #[.int .i64 st.1, .int .i64 st.2.1, .int .i64 st.2.2]) ∧ Below w.heap.size w w' := by
  have c1 := H.map
  have c3 := H.s0
  have c4 := H.s1
  have c5 := H.s2
  have hc := lt_of_cell c1
  clear H
  go_enter Try.func50, Try.ntmps50
  go_wp2_with fail
  refine (plain_made c m _ (by rw [cell_alloc_old _ hc]; exact c1)).mono ?_
  rintro e w1 ⟨rfl, rfl⟩
  go_wp2
  exact bodyPost_ret (v := .agg #[.int .i64 st.1, .int .i64 st.2.1, .int .i64 st.2.2]) (by simp [results, Try.results50, go_sem]) rfl ⟨rfl, (Below.refl _ _).alloc (Nat.le_refl _) _⟩

theorem push3 {α : Type} (a : Array α) (x y z : α) : (((a.push x).push y).push z)[a.size]? = some x ∧ (((a.push x).push y).push z)[a.size + 1]? = some y ∧ (((a.push x).push y).push z)[a.size + 1 + 1]? = some z := by
  simp only [Array.getElem?_push, Array.size_push]
  refine ⟨?_, ?_, ?_⟩
  · rw [if_neg (by omega), if_neg (by omega), if_pos trivial]
  · rw [if_neg (by omega), if_pos trivial]
  · rw [if_pos trivial]

theorem new_kept (w w' : World) (N : Int)
    (hl : Like w' (((w.alloc (.map #[] 0)).alloc (.cells #[.string ⟨#[]⟩, .int .i64 0, ptr (w.heap.size + 1), ptr (w.heap.size + 1)] 91)).alloc (.cells #[.int .i64 N, .map (some w.heap.size), ptr (w.heap.size + 1), .int .i64 0, .int .i64 0, .int .i64 0] 49))) :
    Kept w' w.heap.size (w.heap.size + 1 + 1) w.heap.size (w.heap.size + 1) N (0, 0, 0) [] ∧ Below w.heap.size w w' := by
  have hh : w'.heap = ((w.heap.push (.map #[] 0)).push (.cells #[.string ⟨#[]⟩, .int .i64 0, ptr (w.heap.size + 1), ptr (w.heap.size + 1)] 91)).push (.cells #[.int .i64 N, .map (some w.heap.size), ptr (w.heap.size + 1), .int .i64 0, .int .i64 0, .int .i64 0] 49) := hl.1
  have h0 : w'.heap[w.heap.size]? = some (.map #[] 0) := by rw [hh]; exact (push3 _ _ _ _).1
  have h1 : w'.heap[w.heap.size + 1]? = some (.cells #[.string ⟨#[]⟩, .int .i64 0, ptr (w.heap.size + 1), ptr (w.heap.size + 1)] 91) := by rw [hh]; exact (push3 _ _ _ _).2.1
  have h2 : w'.heap[w.heap.size + 1 + 1]? = some (.cells #[.int .i64 N, .map (some w.heap.size), ptr (w.heap.size + 1), .int .i64 0, .int .i64 0, .int .i64 0] 49) := by rw [hh]; exact (push3 _ _ _ _).2.2
  refine ⟨⟨?_, ?_, ?_, ?_, ?_, ?_, ?_, ?_, ⟨⟨?_, ?_⟩, trivial⟩, ?_, by simp, by simp, ?_, ?_⟩, ?_⟩
  · simp [World.cell?, h2]
  · simp [World.cell?, h2]
  · simp [World.cell?, h2]
  · simp [World.cell?, h2]
  · simp [World.cell?, h2]
  · simp [World.cell?, h2]
  · intro o; simp [World.frozen?, h2]
  · exact ⟨.map [], ⟨#[], 0, h0, ⟨by simp, MapKept.stamped_empty 0, by simp⟩, by simp, rfl⟩, rfl, fun k z => rfl⟩
  · simp [World.cell?, h1]
  · simp [World.cell?, h1]
  · simp; omega
  · intro b hb o
    simp at hb
    subst hb
    simp [World.frozen?, h1]
  · intro b hb
    simp at hb
    omega
  · exact Below.like ((((Below.refl _ w).alloc (Nat.le_refl _) _).alloc (by simp) _).alloc (by simp; omega) _) hl

theorem new_any (n : Int) (w : World) :
    Calls Try.prog 20 #[.int .i64 n] w fun e w' => ∃ c m r, e = .returned (ptr c) ∧ Kept w' w.heap.size c m r (min (max n 0) 4096) (0, 0, 0) [] ∧ Below w.heap.size w w' := by
  have hmm := @run_makeMap Try.prog
  go_enter Try.func20, Try.ntmps20
  go_wp2_with fail
  refine (cut_any n _).mono ?_
  rintro e w1 ⟨rfl, rfl⟩
  go_wp2_with fail
  go_region
  all_goals go_wp2
  all_goals go_ret
  all_goals exact ⟨_, _, _, rfl, new_kept w _ _ ⟨rfl, rfl, rfl, rfl⟩⟩

theorem path_last {w : World} {r : Nat} {l : List Nat} (h : Path w (r :: l ++ [r])) : ∃ p, link w p r := by
  rcases List.eq_nil_or_concat (r :: l) with h0 | ⟨l', p, h0⟩
  · cases h0
  · rw [h0] at h
    have := (Path.split (A := l') (p := p) (B := [r]) (by simpa using h)).2
    exact ⟨p, this.1⟩

theorem Owns.clear {w : World} {m : Nat} {L : List Ent} (h : Owns w m L) : ∃ W, (∀ ty, (Builtin.clear_ #[45] ty #[.map (some m)]).run Try.prog w = .ok (.tuple #[]) W) ∧ Owns W m [] ∧ w.mapTurned W m := by
  obtain ⟨D, ⟨es, clock, hb, F, _, _⟩, _, _⟩ := h
  refine ⟨ChangeMaps.setBlock w m (.map #[] clock), fun ty => ?_, ⟨.map [], ⟨#[], clock, ChangeMaps.heap_setBlock_same hb _, ⟨by simp, ?_, by simp⟩, by simp, rfl⟩, rfl, fun k z => rfl⟩, ⟨es, clock, _, _, hb, rfl⟩⟩
  · simp [Builtin.clear_, run_underlying Try.underlying45, MapKept.run_getObj_map hb, MapKept.run_setObj_map _ hb, Result.andThen, ChangeMaps.setBlock]
  · exact MapKept.stamped_empty clock

theorem clear_any {w : World} {B c m r : Nat} {room : Int} {st : Int × Int × Int} {L : List Ent} (H : Kept w B c m r room st L) :
    Calls Try.prog 22 #[ptr c] w fun e w' => e = .returned (.tuple #[]) ∧ Kept w' B c m r room st [] ∧ Below B w w' := by
  have c1 := H.map
  obtain ⟨W, hrun, hO, ht⟩ := H.own.clear
  have nd := H.nd
  simp only [List.nodup_cons, List.mem_cons, not_or] at nd
  have hrm : r ≠ m := fun e => nd.2.1.1 e.symm
  have hcm : c ≠ m := nd.1.1
  have hcr : c ≠ r := nd.1.2.1
  obtain ⟨p, -, e2⟩ := path_last H.path
  obtain ⟨s, e3⟩ : ∃ s, w.cell? ⟨r, 3, none⟩ = some s := by
    have hp := H.path
    cases hL : blocks L with
    | nil => rw [hL] at hp; exact ⟨_, hp.1.1⟩
    | cons x l => rw [hL] at hp; exact ⟨_, hp.1.1⟩
  have d2 : W.cell? ⟨c, 2, none⟩ = some (ptr r) := (mapTurned_cell ht _ _ hcm).trans H.ring
  have d1 : W.cell? ⟨c, 1, none⟩ = some (.map (some m)) := (mapTurned_cell ht _ _ hcm).trans H.map
  have r2 : W.cell? ⟨r, 2, none⟩ = some (ptr p) := (mapTurned_cell ht _ _ hrm).trans e2
  have r3 : W.cell? ⟨r, 3, none⟩ = some s := (mapTurned_cell ht _ _ hrm).trans e3
  have f2 : W.frozen? ⟨r, 2, none⟩ = false := (ht.frozen _).trans (H.fr r (by simp) 2)
  have f3 : W.frozen? ⟨r, 3, none⟩ = false := (ht.frozen _).trans (H.fr r (by simp) 3)
  have hfin : ∀ w', Like w' ((W.setCell ⟨r, 2, none⟩ (ptr r)).setCell ⟨r, 3, none⟩ (ptr r)) → Kept w' B c m r room st [] ∧ Below B w w' := by
    intro w' hl
    have hT : Turned W w' [r] := (((Turned.refl W [r]).set (by simp) (.inl rfl) _).set (by simp) (.inr rfl) _).like hl
    refine ⟨H.less (List.nil_sublist _) (fun b o hb hm => (hT.cell b o (hb.imp_left fun h => ?_)).trans (mapTurned_cell ht b o hm)) (fun a => (hT.frozen a).trans (ht.frozen a)) (hO.same (hT.block m (by simpa using hrm.symm)) rfl fun _ => rfl) ⟨⟨?_, ?_⟩, trivial⟩, (mapTurned_below ht (H.low m (by simp))).trans (hT.below fun b hb => ?_)⟩
    · simp at h ⊢; exact h.1
    · rw [hl.cell, cell_set_same (u := s)]
      rw [cell_set_other (.inr (by decide))]; exact r3
    · rw [hl.cell, cell_set_other (.inr (by decide)), cell_set_same r2]
    · simp at hb; subst hb; exact H.low b (by simp)
  have HF := Lib.hid hfin
  clear hfin H nd e2 e3
  go_enter Try.func22, Try.ntmps22
  go_wp2_with fail
  refine (plain_made c m _ c1).mono ?_
  rintro e w1 ⟨rfl, rfl⟩
  go_wp2_with fail
  go_region
  all_goals go_wp2
  all_goals go_end0
  all_goals exact ⟨rfl, HF.out _ (by exact ⟨rfl, rfl, rfl, rfl⟩)⟩

theorem neq_same (r : Nat) (w : World) : (binOp .neq 46 (ptr r) (ptr r)).run Try.prog w = .ok (.bool false) w := by
  obtain ⟨j, hte⟩ := Option.isSome_iff_exists.1 (show (Try.prog.info? 91).isSome = true by kernel_rfl)
  have h : ∀ d : Nat, (Op.equalIn (d + 1) 46 (.pointer (some ⟨r, 0, none⟩)) (.pointer (some ⟨r, 0, none⟩))).run Try.prog w = .ok true w := fun d => by
    simp [Op.equalIn, run_underlying Try.underlying46, sizeOf, typeInfo, hte, run_sameAddr_same]
  simp only [binOp]
  simp [Op.equal, Op.maxDepth, h 9999]

theorem keys_none {w : World} {B c m r : Nat} {room : Int} {st : Int × Int × Int} (H : Kept w B c m r room st []) :
    Calls Try.prog 26 #[ptr c] w fun e w' => e = .returned (.slice none 0 0) ∧ w = w' := by
  have c1 := H.map
  have c2 := H.ring
  have r3 : w.cell? ⟨r, 3, none⟩ = some (ptr r) := H.path.1.1
  have hne := fun w => neq_same r w
  clear H
  go_enter Try.func26, Try.ntmps26
  go_wp2_with fail
  refine (plain_made c m _ c1).mono ?_
  rintro e w1 ⟨rfl, rfl⟩
  go_wp2_with fail
  go_loop [3, 4] (fun l e => l = .slice none 0 0 ∧ e = ptr r) (fun _ _ => 0)
  case atStart => exact ⟨rfl, rfl⟩
  case round =>
    obtain ⟨rfl, rfl⟩ := hrel
    go_wp2
    go_ret
    exact ⟨rfl, rfl⟩

end Go.Proofs.Ytfcdmkfbkkogbab.Cache
