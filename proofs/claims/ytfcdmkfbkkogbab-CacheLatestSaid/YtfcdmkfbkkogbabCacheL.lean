/- Lists without what stands twice, and the sharper word on Get's frame. -/
import Derived.Test.YtfcdmkfbkkogbabCacheK
namespace Go.Proofs.Ytfcdmkfbkkogbab.Cache
open Go Go.RowKit

abbrev Text := ByteArray

/-- Each text once, where it stands first. -/
def dd : List Text → List Text
  | [] => []
  | x :: l => x :: (dd l).filter fun y => decide (y ≠ x)

theorem dd_mem {x : Text} : ∀ {l : List Text}, x ∈ dd l ↔ x ∈ l
  | [] => Iff.rfl
  | y :: l => by
    simp only [dd, List.mem_cons, List.mem_filter, decide_eq_true_eq, dd_mem]
    constructor
    · rintro (h | h)
      · exact .inl h
      · exact .inr h.1
    · rintro (h | h)
      · exact .inl h
      · by_cases e : x = y
        · exact .inl e
        · exact .inr ⟨h, e⟩

theorem dd_nodup : ∀ l : List Text, (dd l).Nodup
  | [] => List.nodup_nil
  | x :: l => List.nodup_cons.2 ⟨by simp, (dd_nodup l).filter _⟩

theorem dd_length : ∀ l : List Text, (dd l).length ≤ l.length
  | [] => Nat.le_refl _
  | x :: l => by
    have := dd_length l
    have := List.length_filter_le (fun y => decide (y ≠ x)) (dd l)
    simp only [dd, List.length_cons]; omega

theorem dd_snoc (x : Text) : ∀ l : List Text, (x ∈ dd l → dd (l ++ [x]) = dd l) ∧ (x ∉ dd l → dd (l ++ [x]) = dd l ++ [x])
  | [] => by simp [dd]
  | y :: l => by
    obtain ⟨ih1, ih2⟩ := dd_snoc x l
    simp only [List.cons_append, dd]
    by_cases hx : x ∈ dd l
    · rw [ih1 hx]
      refine ⟨fun _ => rfl, fun h => absurd ?_ h⟩
      simp only [List.mem_cons, List.mem_filter, decide_eq_true_eq]
      by_cases e : x = y
      · exact .inl e
      · exact .inr ⟨hx, e⟩
    · rw [ih2 hx, List.filter_append]
      by_cases e : x = y
      · subst e
        refine ⟨fun _ => by simp, fun h => absurd ?_ h⟩
        simp
      · refine ⟨fun h => absurd h (by simp [e, hx]), fun _ => by simp [e]⟩

theorem dd_prefix : ∀ (t l : List Text), ∃ s, dd (l ++ t) = dd l ++ s
  | [], l => ⟨[], by simp⟩
  | x :: t, l => by
    obtain ⟨s, hs⟩ := dd_prefix t (l ++ [x])
    rw [List.append_assoc, List.singleton_append] at hs
    rw [hs]
    by_cases hx : x ∈ dd l
    · rw [(dd_snoc x l).1 hx]; exact ⟨s, rfl⟩
    · rw [(dd_snoc x l).2 hx]; exact ⟨[x] ++ s, by simp⟩

theorem take_filter {k : Text} : ∀ {d : List Text} (M : Nat), d.Nodup → ((d.take (M + 1)).filter fun y => decide (y ≠ k)).take M = (d.filter fun y => decide (y ≠ k)).take M
  | [], _, _ => by simp
  | a :: d, M, h => by
    obtain ⟨h1, h2⟩ := List.nodup_cons.1 h
    by_cases e : a = k
    · subst e
      have hn : ∀ l : List Text, (∀ y ∈ l, y ∈ d) → l.filter (fun y => decide (y ≠ a)) = l := fun l hl => List.filter_eq_self.2 fun y hy => by
        simp only [decide_eq_true_eq]; rintro rfl; exact h1 (hl _ hy)
      rw [List.take_succ_cons, List.filter_cons_of_neg (by simp), List.filter_cons_of_neg (by simp), hn _ fun y hy => List.mem_of_mem_take hy, hn _ fun y hy => hy, List.take_take, Nat.min_self]
    · rw [List.take_succ_cons, List.filter_cons_of_pos (by simpa using e), List.filter_cons_of_pos (by simpa using e)]
      cases M with
      | zero => rfl
      | succ M => rw [List.take_succ_cons, List.take_succ_cons, take_filter M h2]

/-- What one more Put makes of the texts, last asked first. -/
theorem dd_put (k : Text) (xs : List Text) (N : Nat) : (k :: ((dd xs).take N).filter fun y => decide (y ≠ k)).take N = (dd (k :: xs)).take N := by
  cases N with
  | zero => rfl
  | succ M => rw [dd, List.take_succ_cons, List.take_succ_cons, take_filter M (dd_nodup xs)]

/-- All but these blocks are as they were. -/
def Only (w w' : World) (bs : List Nat) : Prop := ∀ b, b ∉ bs → w'.heap[b]? = w.heap[b]?

theorem Only.trans {a b c : World} {bs : List Nat} (h : Only a b bs) (k : Only b c bs) : Only a c bs := fun x hx => (k x hx).trans (h x hx)
theorem Only.mono {w w' : World} {bs bs' : List Nat} (h : Only w w' bs) (hs : ∀ b ∈ bs, b ∈ bs') : Only w w' bs' := fun x hx => h x fun hb => hx (hs x hb)

theorem Kept.again2 {w w1 : World} {B c m r : Nat} {room : Int} {st : Int × Int × Int} {L : List Ent} (H : Kept w B c m r room st L) {k : ByteArray} {x : Ent} (hx : look L k = some x)
    (hT : Turned w w1 (r :: blocks L)) (hP : Path w1 (r :: blocks (rest L k) ++ [r])) (h2 : ∃ y, w1.cell? ⟨x.2.2, 2, none⟩ = some y) (h3 : ∃ y, w1.cell? ⟨x.2.2, 3, none⟩ = some y) :
    Calls Try.prog 48 #[ptr c, ptr x.2.2] w1 fun e w' => e = .returned (.tuple #[]) ∧ Kept w' B c m r room st (x :: rest L k) ∧ Below B w w' ∧ Only w w' (r :: blocks L) := by
  obtain ⟨A, C, hL, hr⟩ := look_split H.keys hx
  have hperm : (x :: rest L k).Perm L := by rw [hr, hL]; exact List.perm_middle.symm
  have nd := H.nd
  simp only [List.nodup_cons] at nd
  have hc : c ∉ r :: blocks L := fun h => nd.1 (List.mem_cons_of_mem _ h)
  have hpb : (x.2.2 :: blocks (rest L k)).Perm (blocks L) := List.Perm.map (fun y : Ent => y.2.2) hperm
  have hpr : (x.2.2 :: r :: blocks (rest L k)).Perm (r :: blocks L) := (List.Perm.swap _ _ _).trans (.cons r hpb)
  obtain ⟨p, x2⟩ := h2
  obtain ⟨n, x3⟩ := h3
  refine (first_path (hpr.nodup_iff.2 (List.nodup_cons.2 nd.2.2)) (fun h => hc (hpr.mem_iff.1 h)) hP (fun b hb o => by rw [hT.frozen]; exact H.fr b (hpr.mem_iff.1 hb) o) (by rw [hT.cell _ _ (.inl hc)]; exact H.ring) x2 x3).mono ?_
  rintro e w' ⟨he, hT', hP'⟩
  have hT2 : Turned w w' (r :: blocks L) := hT.trans (hT'.mono fun b hb => hpr.mem_iff.1 hb)
  exact ⟨he, H.turn hT2 hperm hP', hT2.below fun b hb => H.low b (by simp at hb ⊢; exact .inr (.inr hb)), hT2.block⟩

theorem get_hit2 {w : World} {B c m r : Nat} {room : Int} {st : Int × Int × Int} {L : List Ent} (H : Kept w B c m r room st L) {k : ByteArray} (hk : k.size ≤ maxLen) {x : Ent} (hx : look L k = some x) (hs0 : 0 ≤ st.1) (hs1 : st.1 ≤ 1000000) :
    Calls Try.prog 23 #[ptr c, .string k] w fun e w' => e = .returned (.tuple #[.int .i64 x.2.1, .bool true]) ∧ Kept w' B c m r room (st.1 + 1, st.2) (x :: rest L k) ∧ Below B w w' ∧ Only w w' (c :: r :: blocks L) := by
  have hlook := H.lookup hk
  rw [hx] at hlook
  have h1 := H.map
  have h3 := H.s0
  have hf := H.fc 3
  have hfin : ∀ w', Like w' (w.setCell ⟨c, 3, none⟩ (.int .i64 (st.1 + 1))) → Kept w' B c m r room (st.1 + 1, st.2) L ∧ Below B w w' ∧ Only w w' (c :: r :: blocks L) := fun w' hl =>
    ⟨H.setHead hl (by rw [hl.cell, cell_set_other (.inr (by decide))]; exact H.room) (by rw [hl.cell, cell_set_same H.s0]) (by rw [hl.cell, cell_set_other (.inr (by decide))]; exact H.s1) (by rw [hl.cell, cell_set_other (.inr (by decide))]; exact H.s2) ⟨by decide, by decide⟩,
      Below.like ((Below.refl _ _).setCell H.some_c _) hl, fun b hb => by rw [hl.1, Below.heap_setCell _ _ _ _ (by rintro rfl; exact hb (by simp))]⟩
  have HF := Lib.hid hfin
  have HX := Lib.hid hx
  clear hfin H hx
  go_enter Try.func23, Try.ntmps23
  go_wp2_with fail
  refine (plain_made c m _ h1).mono ?_
  rintro e w1 ⟨rfl, rfl⟩
  go_wp2_with fail
  go_region
  all_goals go_wp2_with fail
  all_goals
    refine ((HF.out _ (by exact ⟨rfl, rfl, rfl, rfl⟩)).1.leave HX.out).mono ?_
    rintro e w2 ⟨rfl, hT, hP, hy, hz⟩
    have HT := Lib.hid hT
    have HP := Lib.hid hP
    have HY := Lib.hid hy
    have HZ := Lib.hid hz
    clear hT hP hy hz
    go_wp2_with fail
    refine ((HF.out _ (by exact ⟨rfl, rfl, rfl, rfl⟩)).1.again2 HX.out HT.out HP.out HY.out HZ.out).mono ?_
    rintro e w3 ⟨rfl, hK, hB, hO⟩
    have hn := (hK.ents x (by simp)).2.1
    have HK := Lib.hid hK
    have HB := Lib.hid hB
    have HO := Lib.hid hO
    clear hK hB hO
    go_wp2
    go_ret2
    exact ⟨rfl, HK.out, Below.trans (HF.out _ (by exact ⟨rfl, rfl, rfl, rfl⟩)).2.1 HB.out, Only.trans (HF.out _ (by exact ⟨rfl, rfl, rfl, rfl⟩)).2.2 (HO.out.mono fun b hb => List.mem_cons_of_mem _ hb)⟩

theorem rest_keys (L : List Ent) (k : Text) : (rest L k).map (·.1) = (L.map (·.1)).filter fun y => decide (y ≠ k) := by
  unfold rest
  rw [List.filter_map]
  rfl

/-- What a Put with room makes, of whatever was kept. -/
theorem put_any {w : World} {B c m r : Nat} {room st2 : Int} {L : List Ent} (H : Kept w B c m r room (0, 0, st2) L) (h2 : room ≤ 4096) (hr : 0 ≤ room) (hL : L.length ≤ 100) (hLr : L.length ≤ room.toNat) (hs0 : 0 ≤ st2) (hs1 : st2 ≤ 500000) {k : ByteArray} (n : Int) (hk : k.size ≤ maxLen) :
    Calls Try.prog 21 #[ptr c, .string k, .int .i64 n] w fun e w' => e = .returned (.tuple #[]) ∧
      ∃ L' st', Kept w' B c m r room (0, 0, st') L' ∧ Below B w w' ∧ 0 ≤ st' ∧ st' ≤ st2 + L.length ∧ L'.map (·.1) = (k :: (L.map (·.1)).filter fun y => decide (y ≠ k)).take room.toNat ∧ ∀ x ∈ L', x ∈ L ∨ (x.1 = k ∧ x.2.1 = n) := by
  by_cases h0 : room = 0
  · subst h0
    have : L = [] := List.length_eq_zero_iff.1 (by simpa using hLr)
    subst this
    refine (put_none H k n).mono ?_
    rintro e w' ⟨he, rfl⟩
    exact ⟨he, [], st2, H, Below.refl _ _, hs0, by simp, rfl, by simp⟩
  · cases hx : look L k with
    | some x =>
      refine (put_hit H (by omega) n hk hx).mono ?_
      rintro e w' ⟨he, hK, hB⟩
      refine ⟨he, _, st2, hK, hB, hs0, by omega, ?_, ?_⟩
      · simp only [List.map_cons]
        rw [rest_keys, List.take_of_length_le]
        obtain ⟨A, C, hA, hr'⟩ := look_split H.keys hx
        have : (rest L k).length + 1 = L.length := by rw [hr', hA]; simp; omega
        rw [← rest_keys]
        simp; omega
      · intro y hy
        rcases List.mem_cons.1 hy with rfl | hy
        · exact .inr ⟨rfl, rfl⟩
        · exact .inl (rest_sub.subset hy)
    | none =>
      refine (put_miss H (by omega) h2 (by omega) hs0 (by simp; omega) n hk hx).mono ?_
      rintro e w' ⟨he, b, hK, hB⟩
      refine ⟨he, _, _, hK, hB, ?_, ?_, ?_, ?_⟩
      · rw [List.length_take]; simp; omega
      · rw [List.length_take]; simp; omega
      · simp only [List.map_cons]
        rw [show room.toNat = (room - 1).toNat + 1 by omega, List.take_succ_cons, List.filter_eq_self.2, List.map_take]
        intro y hy
        simp only [List.mem_map] at hy
        obtain ⟨z, hz, rfl⟩ := hy
        simpa using look_none hx z hz
      · intro y hy
        rcases List.mem_cons.1 hy with rfl | hy
        · exact .inr ⟨rfl, rfl⟩
        · exact .inl (List.mem_of_mem_take hy)

end Go.Proofs.Ytfcdmkfbkkogbab.Cache
