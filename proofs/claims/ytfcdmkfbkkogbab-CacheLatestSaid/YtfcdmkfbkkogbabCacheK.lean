/- The cache's Keys, and Put of what is kept, walked. -/
import Derived.Test.YtfcdmkfbkkogbabCacheI
namespace Go.Proofs.Ytfcdmkfbkkogbab.Cache
open Go Go.RowKit

theorem cells_of_cell {w : World} {b o : Nat} {v : Value} (h : w.cell? ⟨b, o, none⟩ = some v) : ∃ cs t fr, w.heap[b]? = some (.cells cs t fr) := by
  unfold World.cell? at h
  split at h
  · rename_i e; exact ⟨_, _, _, e⟩
  · cases h

theorem neq_other {w : World} {a b : Nat} {x y : Value} (hne : a ≠ b) (ha : w.cell? ⟨a, 0, none⟩ = some x) (hb : w.cell? ⟨b, 2, none⟩ = some y) (fa : ∀ o, w.frozen? ⟨a, o, none⟩ = false) (fb : ∀ o, w.frozen? ⟨b, o, none⟩ = false) :
    (binOp .neq 46 (ptr a) (ptr b)).run Try.prog w = .ok (.bool true) w := by
  obtain ⟨j, hte⟩ := Option.isSome_iff_exists.1 (show (Try.prog.info? 91).isSome = true by kernel_rfl)
  have hj : (Try.prog.info? 91).map (·.size) = some 4 := by kernel_rfl
  have hsz : j.size ≠ 0 := by rw [hte] at hj; simp at hj; omega
  obtain ⟨ca, ta, fra, h1⟩ := cells_of_cell ha
  obtain ⟨cb, tb, frb, h2⟩ := cells_of_cell hb
  have fa0 := fa 0
  have fa1 := fa ca.size
  have fb0 := fb 0
  have fb1 := fb cb.size
  have hs : (sameAddr ⟨a, 0, none⟩ ⟨b, 0, none⟩).run Try.prog w = .ok false w := by
    simp [sameAddr, hne, noView, viewAt, h1, h2, World.shape?, mayBeOne, stringish, fa0, fa1, fb0, fb1]
  have h : ∀ d : Nat, (Op.equalIn (d + 1) 46 (.pointer (some ⟨a, 0, none⟩)) (.pointer (some ⟨b, 0, none⟩))).run Try.prog w = .ok false w := fun d => by
    simp [Op.equalIn, run_underlying Try.underlying46, sizeOf, typeInfo, hte, hsz, hs]
  simp only [binOp]
  simp [Op.equal, Op.maxDepth, h 9999]

def hd (L : List Ent) (r : Nat) : Nat := match L with | [] => r | x :: _ => x.2.2

theorem Kept.top {w : World} {B c m r : Nat} {room : Int} {st : Int × Int × Int} {L : List Ent} (H : Kept w B c m r room st L) : w.cell? ⟨r, 3, none⟩ = some (ptr (hd L r)) := by
  have hp := H.path
  cases L with
  | nil => exact hp.1.1
  | cons x l => exact hp.1.1

theorem Kept.next {w : World} {B c m r : Nat} {room : Int} {st : Int × Int × Int} {L1 L2 : List Ent} {x : Ent} (H : Kept w B c m r room st (L1 ++ x :: L2)) : w.cell? ⟨x.2.2, 3, none⟩ = some (ptr (hd L2 r)) := by
  have hp := H.path
  have e : r :: blocks (L1 ++ x :: L2) ++ [r] = (r :: blocks L1) ++ x.2.2 :: (blocks L2 ++ [r]) := by simp [blocks]
  rw [e] at hp
  have := hp.split.2
  cases L2 with
  | nil => exact this.1.1
  | cons y l => exact this.1.1

theorem info9 : (Try.prog.info? 9).map (fun i => (i.zero, i.size, i.bytes)) = some (some (.string ByteArray.empty), 1, 16) := by kernel_rfl

abbrev strs (L : List Ent) : List Value := L.map fun x => .string x.1

set_option maxRecDepth 100000 in
theorem keys_any {w : World} {B c m r : Nat} {room : Int} {st : Int × Int × Int} {L : List Ent} (H : Kept w B c m r room st L) (hL : L.length ≤ 5000) :
    Calls Try.prog 26 #[ptr c] w fun e w' => ∃ v, e = .returned v ∧ w'.ownsRow w.heap.size 9 1 v L.length (strs L) ∧ Below w.heap.size w w' := by
  obtain ⟨i0, hi, hz0, hz1, hz2⟩ := info_parts info9
  have c1 := H.map
  have c2 := H.ring
  have r3 := H.top
  have hlt := H.lt
  have hsame := fun w => neq_same r w
  obtain ⟨S, hS⟩ : ∃ S, S = w.heap.size := ⟨_, rfl⟩
  rw [← hS] at hlt ⊢
  have HL := Lib.hid hlt
  have HS := Lib.hid hS
  have HK := Lib.hid H
  have HN := Lib.hid hsame
  have hcS : c < S := hlt c (by simp)
  clear H hlt hS hsame
  go_enter Try.func26, Try.ntmps26
  go_wp2_with fail
  refine (plain_made c m _ c1).mono ?_
  rintro e w1 ⟨rfl, rfl⟩
  go_wp2_with fail
  clear r3 c1
  go_loopg [3, 4] L.length (fun g v e wr => ∃ L1 L2, L = L1 ++ L2 ∧ g = L2.length ∧ e = ptr (hd L2 r) ∧ wr.ownsRow S 9 1 v L1.length (strs L1) ∧ Below S w wr)
  case atStart => exact ⟨[], L, rfl, rfl, rfl, ⟨rfl, .inl ⟨rfl, rfl⟩⟩, Below.refl _ _⟩
  case round =>
    obtain ⟨L1, L2, hL12, hg, he, hown, hB⟩ := hrel
    subst he
    have c2' : wr.cell? ⟨c, 2, none⟩ = some (ptr r) := (hB.cell (p := ⟨c, 2, none⟩) hcS).trans c2
    clear c2
    have HK' := Lib.hid (HK.out.stay (by rw [← HS.out]; exact hB))
    have hsz : S ≤ wr.heap.size := by have := hB.size; rw [← HS.out] at this; exact this
    have HB := Lib.hid hB
    cases L2 with
    | nil =>
      have hne := HN.out
      have HO := Lib.hid hown
      simp at hL12
      subst hL12
      clear hB hown hg
      rw [show hd [] r = r from rfl]
      go_wp2
      go_ret
      exact ⟨_, rfl, HO.out, HB.out⟩
    | cons x L2 =>
      have hb : x.2.2 ∈ r :: blocks L := by rw [hL12]; simp [blocks]
      have hxS : x.2.2 < S := HL.out _ (by simp at hb ⊢; exact .inr (.inr hb))
      have hent := HK'.out.ents x (by rw [hL12]; simp)
      have hne : (binOp .neq 46 (ptr x.2.2) (ptr r)).run Try.prog wr = .ok (.bool true) wr := by
        have nd := HK'.out.nd
        simp only [List.nodup_cons] at nd
        obtain ⟨p, -, h2⟩ := path_last HK'.out.path
        refine neq_other (fun e => nd.2.2.1 ?_) hent.1 h2 (HK'.out.fr _ hb) (HK'.out.fr _ (by simp))
        rw [← e, hL12]; simp [blocks]
      have hk : wr.cell? ⟨x.2.2, 0, none⟩ = some (.string x.1) := hent.1
      have hn : ∀ w1, Below S w w1 → w1.cell? ⟨x.2.2, 3, none⟩ = some (ptr (hd L2 r)) := fun w1 h => by
        have h2 := HK.out
        rw [hL12] at h2
        exact (h.cell (p := ⟨x.2.2, 3, none⟩) hxS).trans h2.next
      have hl5 : L1.length + 1 ≤ 5000 := by rw [hL12] at hL; simp at hL; omega
      have HNX := Lib.hid hn
      have H12 := Lib.hid hL12
      have HG := Lib.hid hg
      clear hent hn hL12 hg hB hL hb
      rw [show hd (x :: L2) r = x.2.2 from rfl]
      go_wp2_with (at_builtin; refine wpList_append_own _ rfl _ _ 54 rfl S 9 i0 (.string ByteArray.empty) 1 16 Try.underlying54 hi hz0 hz1 hz2 rfl (by decide) _ _ _ rfl (hown.alloc _) ⟨wr.heap.size, 0, none⟩ 1 1 [.string x.1] rfl rfl ?c1 ?c2 ?c3 ?c4 ?c5 ?_)
      case c1 => intro j u hj; cases j <;> simp at hj; subst hj; simp [Addr.add]
      case c2 => intro u hu; simp at hu; subst hu; rfl
      case c3 => unfold maxLen; omega
      case c4 => omega
      case c5 => simp; omega
      intro v' w1 hown' hgrow _
      have hB1 : Below S w w1 := ((HB.out.alloc hsz _).grown hgrow (by simp; omega) fun k hk => (hown.lt k hk).1)
      have h3 := HNX.out w1 hB1
      have HO := Lib.hid hown'
      have HB1 := Lib.hid hB1
      clear hown' hgrow hB1 hown
      go_wp2
      go_roundg L2.length
      case measure => rw [HG.out]; simp
      case rel => exact ⟨L1 ++ [x], L2, by rw [H12.out]; simp, rfl, rfl, by simpa using HO.out, HB1.out⟩

/-- The list with another number at a text. -/
def setn (L : List Ent) (k : ByteArray) (n : Int) : List Ent := L.map fun y => if y.1 = k then (y.1, n, y.2.2) else y

theorem setn_keys (L : List Ent) (k : ByteArray) (n : Int) : (setn L k n).map (·.1) = L.map (·.1) := by
  unfold setn
  rw [List.map_map]
  exact List.map_congr_left fun y _ => by simp only [Function.comp]; split <;> rfl
theorem setn_blocks (L : List Ent) (k : ByteArray) (n : Int) : blocks (setn L k n) = blocks L := by
  unfold setn blocks
  rw [List.map_map]
  exact List.map_congr_left fun y _ => by simp only [Function.comp]; split <;> rfl
theorem setn_look (L : List Ent) (k q : ByteArray) (n : Int) : look (setn L k n) q = (look L q).map fun y => if y.1 = k then (y.1, n, y.2.2) else y := by
  unfold look setn
  rw [List.find?_map]
  congr 1
  apply congrFun
  apply congrArg
  funext y
  simp only [Function.comp]
  split <;> rfl
theorem setn_rest (L : List Ent) (k : ByteArray) (n : Int) : rest (setn L k n) k = rest L k := by
  unfold rest setn
  induction L with
  | nil => rfl
  | cons y l ih =>
    simp only [List.map_cons]
    by_cases h : y.1 = k
    · rw [if_pos h, List.filter_cons_of_neg (by simpa using h), List.filter_cons_of_neg (by simpa using h)]; exact ih
    · rw [if_neg h, List.filter_cons_of_pos (by simpa using h), List.filter_cons_of_pos (by simpa using h), ih]

theorem map_inj {L : List Ent} (h : (blocks L).Nodup) {z x : Ent} (hz : z ∈ L) (hx : x ∈ L) (e : z.2.2 = x.2.2) : z = x := by
  induction L with
  | nil => cases hz
  | cons y l ih =>
    simp only [blocks, List.map_cons, List.nodup_cons, List.mem_map, not_exists, not_and] at h
    rcases List.mem_cons.1 hz with h1 | h1 <;> rcases List.mem_cons.1 hx with h2 | h2
    · rw [h1, h2]
    · rw [h1] at e; exact absurd e.symm (h.1 x h2)
    · rw [h2] at e; exact absurd e (h.1 z h1)
    · exact ih h.2 h1 h2

theorem Kept.setN {w w' : World} {B c m r : Nat} {room : Int} {st : Int × Int × Int} {L : List Ent} (H : Kept w B c m r room st L) {k : ByteArray} {x : Ent} (hx : look L k = some x) (n : Int) (hl : Like w' (w.setCell ⟨x.2.2, 1, none⟩ (.int .i64 n))) :
    Kept w' B c m r room st (setn L k n) := by
  obtain ⟨hxm, hxk⟩ := (look_iff H.keys).1 hx
  have nd := H.nd
  simp only [List.nodup_cons] at nd
  have hxb : x.2.2 ∈ r :: blocks L := List.mem_cons_of_mem _ (List.mem_map_of_mem hxm)
  have hcx : c ≠ x.2.2 := fun e => nd.1 (by rw [e]; exact List.mem_cons_of_mem _ hxb)
  have hmx : m ≠ x.2.2 := fun e => nd.2.1 (by rw [e]; exact hxb)
  have hc : ∀ b o, (b ≠ x.2.2 ∨ o ≠ 1) → w'.cell? ⟨b, o, none⟩ = w.cell? ⟨b, o, none⟩ := fun b o h => by rw [hl.cell, cell_set_other (h.imp Ne.symm Ne.symm)]
  have hf : ∀ a, w'.frozen? a = w.frozen? a := fun a => by rw [hl.frozen, World.frozen?_setCell]
  refine ⟨(hc _ _ (.inl hcx)).trans H.room, (hc _ _ (.inl hcx)).trans H.map, (hc _ _ (.inl hcx)).trans H.ring, (hc _ _ (.inl hcx)).trans H.s0, (hc _ _ (.inl hcx)).trans H.s1, (hc _ _ (.inl hcx)).trans H.s2, fun o => (hf _).trans (H.fc o), ?_, ?_, ?_, ?_, ?_, ?_, ?_⟩
  · refine H.own.same (by rw [hl.1, Below.heap_setCell _ _ _ _ hmx]) (by simp [setn]) fun q => ?_
    rw [setn_look]
    cases look L q <;> simp
    split <;> rfl
  · rw [setn_blocks]
    exact Path.congr (fun a _ => hc _ _ (.inr (by decide))) (fun b _ => hc _ _ (.inr (by decide))) H.path
  · rw [setn_blocks]; exact H.nd
  · rw [setn_keys]; exact H.keys
  · intro y hy
    simp only [setn, List.mem_map] at hy
    obtain ⟨z, hz, rfl⟩ := hy
    obtain ⟨a1, a2, a3⟩ := H.ents z hz
    by_cases hzk : z.1 = k
    · rw [if_pos hzk]
      have : some z = some x := ((look_iff H.keys).2 ⟨hz, hzk⟩).symm.trans hx
      obtain rfl := Option.some.inj this
      exact ⟨(hc _ _ (.inr (by decide))).trans a1, by rw [hl.cell, cell_set_same a2], a3⟩
    · rw [if_neg hzk]
      have hzx : z.2.2 ≠ x.2.2 := by
        intro e
        apply hzk
        have hnb : (L.map (·.2.2)).Nodup := nd.2.2.2
        rw [map_inj hnb hz hxm e]; exact hxk
      exact ⟨(hc _ _ (.inl hzx)).trans a1, (hc _ _ (.inl hzx)).trans a2, a3⟩
  · rw [setn_blocks]; exact fun b hb o => (hf _).trans (H.fr b hb o)
  · rw [setn_blocks]; exact H.low

theorem put_hit {w : World} {B c m r : Nat} {room : Int} {st : Int × Int × Int} {L : List Ent} (H : Kept w B c m r room st L) (h1 : 1 ≤ room) {k : ByteArray} (n : Int) (hk : k.size ≤ maxLen) {x : Ent} (hx : look L k = some x) :
    Calls Try.prog 21 #[ptr c, .string k, .int .i64 n] w fun e w' => e = .returned (.tuple #[]) ∧ Kept w' B c m r room st ((k, n, x.2.2) :: rest L k) ∧ Below B w w' := by
  have hlook := H.lookup hk
  rw [hx] at hlook
  have c0 := H.room
  have c1 := H.map
  have hroom : (room == 0) = false := by simp; omega
  obtain ⟨hxm, hxk⟩ := (look_iff H.keys).1 hx
  have x1 := (H.ents x hxm).2.1
  have hxb : x.2.2 ∈ r :: blocks L := List.mem_cons_of_mem _ (List.mem_map_of_mem hxm)
  have f1 := H.fr x.2.2 hxb 1
  have hfin : ∀ w', Like w' (w.setCell ⟨x.2.2, 1, none⟩ (.int .i64 n)) → Kept w' B c m r room st (setn L k n) ∧ Below B w w' := fun w' hl =>
    ⟨H.setN hx n hl, Below.like ((Below.refl _ _).setCell (H.low x.2.2 (by simp at hxb ⊢; exact .inr (.inr hxb))) _) hl⟩
  have hx' : look (setn L k n) k = some (k, n, x.2.2) := by rw [setn_look, hx]; simp [hxk]
  have HF := Lib.hid hfin
  have HX := Lib.hid hx'
  have HR := Lib.hid (setn_rest L k n)
  clear hfin hx hx' H hxm hxk hxb
  go_enter Try.func21, Try.ntmps21
  go_wp2_with fail
  refine (plain_made c m _ c1).mono ?_
  rintro e w1 ⟨rfl, rfl⟩
  go_wp2_with fail
  refine ((HF.out _ (by exact ⟨rfl, rfl, rfl, rfl⟩)).1.leave HX.out).mono ?_
  rintro e w2 ⟨rfl, hT, hP, hy, hz⟩
  have HT := Lib.hid hT
  have HP := Lib.hid hP
  have HY := Lib.hid hy
  have HZ := Lib.hid hz
  clear hT hP hy hz
  go_wp2_with fail
  refine ((HF.out _ (by exact ⟨rfl, rfl, rfl, rfl⟩)).1.again HX.out HT.out HP.out HY.out HZ.out).mono ?_
  rintro e w3 ⟨rfl, hK, hB⟩
  rw [HR.out] at hK
  have HK := Lib.hid hK
  have HB := Lib.hid hB
  clear hK hB
  go_wp2
  exact bodyPost_ret (results_none Try.results21 _ _ _) rfl ⟨rfl, HK.out, Below.trans (HF.out _ (by exact ⟨rfl, rfl, rfl, rfl⟩)).2 HB.out⟩

end Go.Proofs.Ytfcdmkfbkkogbab.Cache
