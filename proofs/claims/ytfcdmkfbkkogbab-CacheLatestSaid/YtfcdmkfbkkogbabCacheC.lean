/- What is known of a cache in memory (Kept), and what the calls on its ring make of that. -/
import Derived.Test.YtfcdmkfbkkogbabCacheB
namespace Go.Proofs.Ytfcdmkfbkkogbab.Cache
open Go Go.RowKit

theorem Like.cell {w' w : World} (h : Like w' w) (a : Addr) : w'.cell? a = w.cell? a := by simp [World.cell?, h.1]
theorem Like.frozen {w' w : World} (h : Like w' w) (a : Addr) : w'.frozen? a = w.frozen? a := by simp [World.frozen?, h.1]

/-- Only cells 2 and 3 of the blocks bs have turned. -/
structure Turned (w w' : World) (bs : List Nat) : Prop where
  cell : ∀ b o, (b ∉ bs ∨ (o ≠ 2 ∧ o ≠ 3)) → w'.cell? ⟨b, o, none⟩ = w.cell? ⟨b, o, none⟩
  frozen : ∀ a, w'.frozen? a = w.frozen? a
  block : ∀ b, b ∉ bs → w'.heap[b]? = w.heap[b]?
  size : w'.heap.size = w.heap.size
  os : w'.os = w.os
  tape : w'.tape = w.tape
  output : w'.output = w.output

theorem Turned.refl (w : World) (bs : List Nat) : Turned w w bs := ⟨fun _ _ _ => rfl, fun _ => rfl, fun _ _ => rfl, rfl, rfl, rfl, rfl⟩

theorem Turned.trans {a b c : World} {bs : List Nat} (h : Turned a b bs) (k : Turned b c bs) : Turned a c bs :=
  ⟨fun x o hx => (k.cell x o hx).trans (h.cell x o hx), fun x => (k.frozen x).trans (h.frozen x), fun x hx => (k.block x hx).trans (h.block x hx), k.size.trans h.size, k.os.trans h.os, k.tape.trans h.tape, k.output.trans h.output⟩

theorem Turned.mono {w w' : World} {bs bs' : List Nat} (h : Turned w w' bs) (hs : ∀ b ∈ bs, b ∈ bs') : Turned w w' bs' :=
  ⟨fun x o hx => h.cell x o (hx.imp_left fun k hb => k (hs x hb)), h.frozen, fun x hx => h.block x fun hb => hx (hs x hb), h.size, h.os, h.tape, h.output⟩

theorem Turned.set {w w' : World} {bs : List Nat} (h : Turned w w' bs) {b o : Nat} (hb : b ∈ bs) (ho : o = 2 ∨ o = 3) (v : Value) : Turned w (w'.setCell ⟨b, o, none⟩ v) bs := by
  refine h.trans ⟨fun x q hx => World.cell?_setCell_other _ _ _ _ ?_, fun a => World.frozen?_setCell _ _ _ _, fun x hx => Below.heap_setCell _ _ _ _ (by rintro rfl; exact hx hb), by simp, rfl, rfl, rfl⟩
  rintro e
  cases e
  rcases hx with hx | ⟨h2, h3⟩
  · exact hx hb
  · rcases ho with rfl | rfl
    · exact h2 rfl
    · exact h3 rfl

theorem Turned.like {w w' w'' : World} {bs : List Nat} (h : Turned w w' bs) (k : Like w'' w') : Turned w w'' bs :=
  h.trans ⟨fun _ _ _ => k.cell _, fun _ => k.frozen _, fun _ _ => by rw [k.1], by rw [k.1], k.2.1, k.2.2.1, k.2.2.2⟩

theorem Turned.below {w w' : World} {bs : List Nat} (h : Turned w w' bs) {B : Nat} (hB : ∀ b ∈ bs, B ≤ b) : Below B w w' :=
  ⟨h.os, h.tape, h.output, Nat.le_of_eq h.size.symm, fun k hk => h.block k fun hb => absurd (hB k hb) (by omega)⟩

theorem cell_set_same {w : World} {b o : Nat} {v u : Value} (h : w.cell? ⟨b, o, none⟩ = some u) : (w.setCell ⟨b, o, none⟩ v).cell? ⟨b, o, none⟩ = some v := World.cell?_setCell_same w _ v h
theorem cell_set_other {w : World} {b o b' o' : Nat} {v : Value} (h : b ≠ b' ∨ o ≠ o') : (w.setCell ⟨b, o, none⟩ v).cell? ⟨b', o', none⟩ = w.cell? ⟨b', o', none⟩ :=
  World.cell?_setCell_other _ _ _ _ (by intro e; cases e; rcases h with h | h <;> exact h rfl)

/-- x leaves the ring. -/
theorem leave_path {w : World} {r x : Nat} {A B : List Nat} (nd : (r :: (A ++ x :: B)).Nodup) (h : Path w (r :: (A ++ x :: B) ++ [r])) (fr : ∀ b ∈ r :: (A ++ x :: B), ∀ o, w.frozen? ⟨b, o, none⟩ = false) :
    Calls Try.prog 47 #[ptr x] w fun e w' => e = .returned (.tuple #[]) ∧ Turned w w' (r :: (A ++ x :: B)) ∧ Path w' (r :: (A ++ B) ++ [r]) ∧ (∃ y, w'.cell? ⟨x, 2, none⟩ = some y) ∧ ∃ y, w'.cell? ⟨x, 3, none⟩ = some y := by
  obtain ⟨p, n, x2, x3, p3, n2, hp, hn, _, _, hpath⟩ := path_leave nd h
  have hpx : p ≠ x := by
    rintro rfl
    simp at hp nd
    rcases hp with rfl | hp
    · exact nd.1.2.1 rfl
    · exact (List.nodup_append.1 nd.2).2.2 p hp p (by simp) rfl
  have hnx : n ≠ x := by
    rintro rfl
    simp at hn nd
    rcases hn with hn | rfl
    · exact (List.nodup_cons.1 (List.nodup_append.1 nd.2).2.1).1 hn
    · exact nd.1.2.1 rfl
  have hp' : p ∈ r :: (A ++ x :: B) := by simp at hp ⊢; rcases hp with rfl | hp <;> simp [*]
  have hn' : n ∈ r :: (A ++ x :: B) := by simp at hn ⊢; rcases hn with hn | rfl <;> simp [*]
  refine (leave x p n _ _ w x2 x3 p3 (fr p hp' 3) n2 (fr n hn' 2)).mono ?_
  rintro e w' ⟨he, hl⟩
  refine ⟨he, (((Turned.refl w _).set hp' (.inr rfl) _).set hn' (.inl rfl) _).like hl, hpath w' (fun a ha => ?_) (fun b hb => ?_) ⟨?_, ?_⟩, ⟨ptr p, ?_⟩, ⟨ptr n, ?_⟩⟩
  · rw [hl.cell, cell_set_other (.inr (by decide)), cell_set_other (.inl (Ne.symm ha))]
  · rw [hl.cell, cell_set_other (.inl (Ne.symm hb)), cell_set_other (.inr (by decide))]
  · rw [hl.cell, cell_set_other (.inr (by decide)), cell_set_same p3]
  · rw [hl.cell, cell_set_same (u := ptr x)]
    rw [cell_set_other (.inr (by decide))]; exact n2
  · rw [hl.cell, cell_set_other (.inl hnx), cell_set_other (.inl hpx)]; exact x2
  · rw [hl.cell, cell_set_other (.inl hnx), cell_set_other (.inl hpx)]; exact x3

/-- e is put first. -/
theorem first_path {w : World} {c r e : Nat} {l : List Nat} {x2 x3 : Value} (nd : (e :: r :: l).Nodup) (hc : c ∉ e :: r :: l) (h : Path w (r :: l ++ [r])) (fr : ∀ b ∈ e :: r :: l, ∀ o, w.frozen? ⟨b, o, none⟩ = false)
    (hr : w.cell? ⟨c, 2, none⟩ = some (ptr r)) (h2 : w.cell? ⟨e, 2, none⟩ = some x2) (h3 : w.cell? ⟨e, 3, none⟩ = some x3) :
    Calls Try.prog 48 #[ptr c, ptr e] w fun k w' => k = .returned (.tuple #[]) ∧ Turned w w' (e :: r :: l) ∧ Path w' (r :: (e :: l) ++ [r]) := by
  obtain ⟨s, r3, s2, hs, hpath⟩ := path_first nd h
  have hs' : s ∈ e :: r :: l := by simp at hs ⊢; rcases hs with hs | rfl <;> simp [*]
  have her : e ≠ r := by rintro rfl; simp at nd
  have hes : e ≠ s := by
    rintro rfl
    simp at hs nd
    rcases hs with hs | hs
    · exact nd.1.2 hs
    · exact nd.1.1 hs
  refine (first c e r s _ _ _ w her hes hr r3 (fr r (by simp) 3) h2 (fr e (by simp) 2) h3 (fr e (by simp) 3) s2 (fr s hs' 2)).mono ?_
  rintro k w' ⟨hk, hl⟩
  refine ⟨hk, (((((Turned.refl w _).set (by simp) (.inl rfl) _).set (by simp) (.inr rfl) _).set (by simp) (.inr rfl) _).set hs' (.inl rfl) _).like hl, hpath w' (fun a ha hb => ?_) (fun b ha hb => ?_) ⟨?_, ?_⟩ ⟨?_, ?_⟩⟩
  · rw [hl.cell, cell_set_other (.inr (by decide)), cell_set_other (.inl (Ne.symm ha)), cell_set_other (.inl (Ne.symm hb)), cell_set_other (.inr (by decide))]
  · rw [hl.cell, cell_set_other (.inl (Ne.symm ha)), cell_set_other (.inr (by decide)), cell_set_other (.inr (by decide)), cell_set_other (.inl (Ne.symm hb))]
  · rw [hl.cell, cell_set_other (.inr (by decide)), cell_set_same (u := ptr s)]
    rw [cell_set_other (.inl her), cell_set_other (.inr (by decide))]; exact r3
  · rw [hl.cell, cell_set_other (.inl (Ne.symm hes)), cell_set_other (.inr (by decide)), cell_set_other (.inr (by decide)), cell_set_same h2]
  · rw [hl.cell, cell_set_other (.inr (by decide)), cell_set_other (.inl (Ne.symm her)), cell_set_same (u := x3)]
    rw [cell_set_other (.inr (by decide))]; exact h3
  · rw [hl.cell, cell_set_same (u := ptr r)]
    rw [cell_set_other (.inr (by decide)), cell_set_other (.inr (by decide)), cell_set_other (.inl hes)]; exact s2

/-- How an entry's pointer reads, for the map's law. -/
def pR (v : Value) : Option (DataW Unit × List MemPlace) :=
  match v with
  | .pointer (some ⟨b, 0, none⟩) => some (.lit (.int .i64 b), [])
  | .pointer none => some (.nil, [])
  | _ => none

theorem pR_inv {v : Value} {d : DataW Unit} {ps : List MemPlace} (h : pR v = some (d, ps)) : (v = .pointer none ∧ d = .nil) ∨ ∃ b : Nat, v = ptr b ∧ d = .lit (.int .i64 b) := by
  unfold pR at h
  split at h
  · simp at h; exact .inr ⟨_, rfl, h.1.symm⟩
  · simp at h; exact .inl ⟨rfl, h.1.symm⟩
  · cases h

/-- A text, its number, its entry's block. -/
abbrev Ent := ByteArray × Int × Nat
abbrev blocks (L : List Ent) : List Nat := L.map (·.2.2)

/-- Which entry a text has. -/
def look (L : List Ent) (k : ByteArray) : Option Ent := L.find? fun x => decide (x.1 = k)

def told (o : Option Ent) (z : DataW Unit) : DataW Unit := match o with | some x => .lit (.int .i64 x.2.2) | none => z

/-- The map's block. -/
def Owns (w : World) (m : Nat) (L : List Ent) : Prop :=
  ∃ D : DataW Unit, w.ownsMap Try.prog 9 pR m L.length D ∧ Maps.size D = L.length ∧ ∀ (k : ByteArray) z, D.atKey (.string k.data.toList) z = told (look L k) z

structure Kept (w : World) (B c m r : Nat) (room : Int) (st : Int × Int × Int) (L : List Ent) : Prop where
  room : w.cell? ⟨c, 0, none⟩ = some (.int .i64 room)
  map : w.cell? ⟨c, 1, none⟩ = some (.map (some m))
  ring : w.cell? ⟨c, 2, none⟩ = some (ptr r)
  s0 : w.cell? ⟨c, 3, none⟩ = some (.int .i64 st.1)
  s1 : w.cell? ⟨c, 4, none⟩ = some (.int .i64 st.2.1)
  s2 : w.cell? ⟨c, 5, none⟩ = some (.int .i64 st.2.2)
  fc : ∀ o, w.frozen? ⟨c, o, none⟩ = false
  own : Owns w m L
  path : Path w (r :: blocks L ++ [r])
  nd : (c :: m :: r :: blocks L).Nodup
  keys : (L.map (·.1)).Nodup
  ents : ∀ x ∈ L, w.cell? ⟨x.2.2, 0, none⟩ = some (.string x.1) ∧ w.cell? ⟨x.2.2, 1, none⟩ = some (.int .i64 x.2.1) ∧ x.1.size ≤ maxLen
  fr : ∀ b ∈ r :: blocks L, ∀ o, w.frozen? ⟨b, o, none⟩ = false
  low : ∀ b ∈ c :: m :: r :: blocks L, B ≤ b

end Go.Proofs.Ytfcdmkfbkkogbab.Cache
