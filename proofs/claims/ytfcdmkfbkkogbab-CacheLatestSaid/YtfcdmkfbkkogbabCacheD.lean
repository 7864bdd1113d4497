/- The cache's Get: what is kept stands first behind it; what is not is told as such. -/
import Derived.Test.YtfcdmkfbkkogbabCacheC
namespace Go.Proofs.Ytfcdmkfbkkogbab.Cache
open Go Go.RowKit

def rest (L : List Ent) (k : ByteArray) : List Ent := L.filter fun y => decide (y.1 ≠ k)

theorem look_iff {L : List Ent} (hk : (L.map (·.1)).Nodup) {k : ByteArray} {x : Ent} : look L k = some x ↔ x ∈ L ∧ x.1 = k := by
  unfold look
  constructor
  · intro h
    exact ⟨List.mem_of_find?_eq_some h, by simpa using List.find?_some h⟩
  · rintro ⟨hx, rfl⟩
    induction L with
    | nil => cases hx
    | cons y l ih =>
      simp only [List.map_cons, List.nodup_cons] at hk
      rcases List.mem_cons.1 hx with rfl | hx
      · simp
      · have : y.1 ≠ x.1 := fun e => hk.1 (by rw [e]; exact List.mem_map_of_mem hx)
        rw [List.find?_cons_of_neg (by simpa using this)]
        exact ih hk.2 hx

theorem look_perm {L L' : List Ent} (hk : (L.map (·.1)).Nodup) (h : L'.Perm L) (k : ByteArray) : look L' k = look L k := by
  have hk' : (L'.map (·.1)).Nodup := (h.map _).nodup_iff.2 hk
  apply Option.ext
  intro x
  rw [look_iff hk, look_iff hk', h.mem_iff]

theorem look_none {L : List Ent} {k : ByteArray} (h : look L k = none) : ∀ x ∈ L, x.1 ≠ k := by
  intro x hx e
  have := List.find?_eq_none.1 h x hx
  simp [e] at this

/-- The entry and the others. -/
theorem look_split {L : List Ent} (hk : (L.map (·.1)).Nodup) {k : ByteArray} {x : Ent} (h : look L k = some x) : ∃ A B, L = A ++ x :: B ∧ rest L k = A ++ B := by
  obtain ⟨hx, rfl⟩ := (look_iff hk).1 h
  obtain ⟨A, B, rfl⟩ := List.append_of_mem hx
  refine ⟨A, B, rfl, ?_⟩
  simp only [List.map_append, List.map_cons, List.nodup_append, List.nodup_cons, List.mem_cons, List.mem_map] at hk
  unfold rest
  rw [List.filter_append, List.filter_cons_of_neg (by simp), List.filter_eq_self.2, List.filter_eq_self.2]
  · intro b hb
    simp only [decide_eq_true_eq]
    exact fun e => hk.2.1.1 ⟨b, hb, e⟩
  · intro a ha
    simp only [decide_eq_true_eq]
    exact hk.2.2 a.1 ⟨a, ha, rfl⟩ x.1 (.inl rfl)

theorem Owns.same {w w' : World} {m : Nat} {L L' : List Ent} (h : Owns w m L) (hb : w'.heap[m]? = w.heap[m]?) (hl : L'.length = L.length) (hk : ∀ k, (look L' k).map (·.2.2) = (look L k).map (·.2.2)) : Owns w' m L' := by
  obtain ⟨D, ⟨es, clock, e1, e2⟩, h2, h3⟩ := h
  refine ⟨D, ⟨es, clock, hb.trans e1, by rw [hl]; exact e2⟩, h2.trans hl.symm, fun k z => ?_⟩
  rw [h3]
  have := hk k
  cases h1 : look L' k <;> cases h4 : look L k <;> simp [h1, h4] at this
  · rfl
  · simp [told, this]

theorem Kept.turn {w w' : World} {B c m r : Nat} {room : Int} {st : Int × Int × Int} {L L' : List Ent} (H : Kept w B c m r room st L) (hT : Turned w w' (r :: blocks L)) (hp : L'.Perm L) (hP : Path w' (r :: blocks L' ++ [r])) :
    Kept w' B c m r room st L' := by
  have nd := H.nd
  simp only [List.nodup_cons] at nd
  have hc : c ∉ r :: blocks L := fun h => nd.1 (List.mem_cons_of_mem _ h)
  have hpb : (blocks L').Perm (blocks L) := hp.map _
  refine ⟨?_, ?_, ?_, ?_, ?_, ?_, ?_, ?_, hP, ?_, (hp.map _).nodup_iff.2 H.keys, ?_, ?_, ?_⟩
  · rw [hT.cell _ _ (.inl hc)]; exact H.room
  · rw [hT.cell _ _ (.inl hc)]; exact H.map
  · rw [hT.cell _ _ (.inl hc)]; exact H.ring
  · rw [hT.cell _ _ (.inl hc)]; exact H.s0
  · rw [hT.cell _ _ (.inl hc)]; exact H.s1
  · rw [hT.cell _ _ (.inl hc)]; exact H.s2
  · intro o; rw [hT.frozen]; exact H.fc o
  · exact H.own.same (hT.block m nd.2.1) hp.length_eq fun k => by rw [look_perm H.keys hp]
  · exact (List.Perm.cons c (.cons m (.cons r hpb))).nodup_iff.2 H.nd
  · intro x hx
    obtain ⟨a1, a2, a3⟩ := H.ents x (hp.mem_iff.1 hx)
    exact ⟨by rw [hT.cell _ _ (.inr ⟨by decide, by decide⟩)]; exact a1, by rw [hT.cell _ _ (.inr ⟨by decide, by decide⟩)]; exact a2, a3⟩
  · intro b hb o
    rw [hT.frozen]
    exact H.fr b ((List.Perm.cons r hpb).mem_iff.1 hb) o
  · intro b hb
    exact H.low b ((List.Perm.cons c (.cons m (.cons r hpb))).mem_iff.1 hb)

/-- A counter, or the room, is written. -/
theorem Kept.setHead {w w' : World} {B c m r : Nat} {room room' : Int} {st st' : Int × Int × Int} {L : List Ent} (H : Kept w B c m r room st L) {o : Nat} {v : Value} (hl : Like w' (w.setCell ⟨c, o, none⟩ v))
    (h0 : w'.cell? ⟨c, 0, none⟩ = some (.int .i64 room')) (h3 : w'.cell? ⟨c, 3, none⟩ = some (.int .i64 st'.1)) (h4 : w'.cell? ⟨c, 4, none⟩ = some (.int .i64 st'.2.1)) (h5 : w'.cell? ⟨c, 5, none⟩ = some (.int .i64 st'.2.2)) (ho : o ≠ 1 ∧ o ≠ 2) :
    Kept w' B c m r room' st' L := by
  have nd := H.nd
  simp only [List.nodup_cons, List.mem_cons, not_or] at nd
  have other : ∀ b q, b ≠ c → w'.cell? ⟨b, q, none⟩ = w.cell? ⟨b, q, none⟩ := fun b q hb => by rw [hl.cell, cell_set_other (.inl (Ne.symm hb))]
  have fz : ∀ a, w'.frozen? a = w.frozen? a := fun a => by rw [hl.frozen, World.frozen?_setCell]
  have hne : ∀ b ∈ r :: blocks L, b ≠ c := by
    intro b hb e
    subst e
    rcases List.mem_cons.1 hb with h | h
    · exact nd.1.2.1 h
    · exact nd.1.2.2 h
  refine ⟨h0, ?_, ?_, h3, h4, h5, ?_, ?_, ?_, H.nd, H.keys, ?_, ?_, H.low⟩
  · rw [hl.cell, cell_set_other (.inr ho.1)]; exact H.map
  · rw [hl.cell, cell_set_other (.inr ho.2)]; exact H.ring
  · intro q; rw [fz]; exact H.fc q
  · exact H.own.same (by rw [hl.1, Below.heap_setCell _ _ _ _ (fun e => nd.1.1 e.symm)]) rfl fun _ => rfl
  · refine Path.congr (fun a ha => other a 3 (hne a ?_)) (fun b hb => other b 2 (hne b ?_)) H.path
    · rwa [List.dropLast_concat] at ha
    · simp at hb ⊢; rcases hb with hb | rfl
      · exact .inr hb
      · exact .inl rfl
  · intro x hx
    have hb : x.2.2 ≠ c := hne _ (List.mem_cons_of_mem _ (List.mem_map_of_mem hx))
    obtain ⟨a1, a2, a3⟩ := H.ents x hx
    exact ⟨by rw [other _ _ hb]; exact a1, by rw [other _ _ hb]; exact a2, a3⟩
  · intro b hb q; rw [fz]; exact H.fr b hb q

theorem Like.refl (w : World) : Like w w := ⟨rfl, rfl, rfl, rfl⟩
theorem Below.like {B : Nat} {w w' w'' : World} (h : Below B w w') (k : Like w'' w') : Below B w w'' :=
  h.trans ⟨k.2.1, k.2.2.1, k.2.2.2, by rw [k.1]; exact Nat.le_refl _, fun i _ => by rw [k.1]⟩

/-- One's own cells. -/
theorem Kept.some_c {w : World} {B c m r : Nat} {room : Int} {st : Int × Int × Int} {L : List Ent} (H : Kept w B c m r room st L) : B ≤ c := H.low c (by simp)

theorem zero46 (w : World) : (zeroValue 46).run Try.prog w = .ok (.pointer none) w := by kernel_rfl
theorem key9 : Maps.Keyed Try.prog 9 := Maps.string_keyed Try.underlying9

/-- What the map answers. -/
theorem Kept.lookup {w : World} {B c m r : Nat} {room : Int} {st : Int × Int × Int} {L : List Ent} (H : Kept w B c m r room st L) {k : ByteArray} (hk : k.size ≤ maxLen) :
    (Instr.lookup 45 (.map (some m)) (.string k) false).run Try.prog w = .ok (match look L k with | some x => ptr x.2.2 | none => .pointer none) w := by
  obtain ⟨D, hown, _, hat⟩ := H.own
  obtain ⟨v, ps, hrun, hv⟩ := hown.lookup key9 Try.underlying45 (zero46 w) (zd := .nil) (zp := []) rfl (WideMaps.keyOf_string_mk Try.underlying9 hk)
  rw [hat] at hv
  rw [hrun]
  rcases pR_inv hv with ⟨rfl, h⟩ | ⟨b, rfl, h⟩
  · cases hl : look L k with
    | none => rfl
    | some x => rw [hl] at h; cases h
  · cases hl : look L k with
    | none => rw [hl] at h; cases h
    | some x =>
      rw [hl] at h
      simp [told] at h
      have h' : x.2.2 = b := Int.ofNat.inj h
      simp [h']

end Go.Proofs.Ytfcdmkfbkkogbab.Cache
