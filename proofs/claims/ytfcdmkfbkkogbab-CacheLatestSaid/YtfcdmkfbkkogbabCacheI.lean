/- The law's own small call 'works' over the cache, walked. -/
import Derived.Test.YtfcdmkfbkkogbabCacheH
namespace Go.Proofs.Ytfcdmkfbkkogbab.Cache
open Go Go.RowKit

/-- New memory beside it. -/
theorem Kept.stay {w w' : World} {B c m r : Nat} {room : Int} {st : Int × Int × Int} {L : List Ent} (H : Kept w B c m r room st L) (hb : Below w.heap.size w w') : Kept w' B c m r room st L := by
  have hlt := H.lt
  have hc : ∀ b o, b < w.heap.size → w'.cell? ⟨b, o, none⟩ = w.cell? ⟨b, o, none⟩ := fun b o h => hb.cell (p := ⟨b, o, none⟩) h
  have hf : ∀ b o, b < w.heap.size → w'.frozen? ⟨b, o, none⟩ = w.frozen? ⟨b, o, none⟩ := fun b o h => hb.frozen (p := ⟨b, o, none⟩) h
  have c1 := hlt c (by simp)
  have m1 := hlt m (by simp)
  have b1 : ∀ b ∈ r :: blocks L, b < w.heap.size := fun b h => hlt b (by simp at h ⊢; exact .inr (.inr h))
  refine ⟨(hc _ _ c1).trans H.room, (hc _ _ c1).trans H.map, (hc _ _ c1).trans H.ring, (hc _ _ c1).trans H.s0, (hc _ _ c1).trans H.s1, (hc _ _ c1).trans H.s2, fun o => (hf _ o c1).trans (H.fc o), H.own.same (hb.block m m1) rfl fun _ => rfl,
    H.path.of_block fun b h => hb.block b (b1 b (by simp at h ⊢; rcases h with h | h | h; exact .inl h; exact .inr h; exact .inl h)), H.nd, H.keys, fun x hx => ?_, fun b h o => (hf _ o (b1 b h)).trans (H.fr b h o), H.low⟩
  have := b1 x.2.2 (List.mem_cons_of_mem _ (List.mem_map_of_mem hx))
  obtain ⟨a1, a2, a3⟩ := H.ents x hx
  exact ⟨(hc _ _ this).trans a1, (hc _ _ this).trans a2, a3⟩

def sA : ByteArray := ⟨#[97]⟩
def sB : ByteArray := ⟨#[98]⟩

theorem eq111 (w : World) : (binOp .eql 47 (.agg #[.int .i64 1, .int .i64 1, .int .i64 1]) (.agg #[.int .i64 1, .int .i64 1, .int .i64 1])).run Try.prog w = .ok (.bool true) w := by kernel_rfl
theorem guard111 (x y : Operand) (w : World) : (eqGuard .eql 47 x y (.agg #[.int .i64 1, .int .i64 1, .int .i64 1]) (.agg #[.int .i64 1, .int .i64 1, .int .i64 1])).run Try.prog w = .ok () w := by kernel_rfl

theorem works_any (w : World) : Calls Try.prog 28 #[] w fun e w' => e = .returned (.bool true) ∧ Below w.heap.size w w' := by
  go_enter Try.func28, Try.ntmps28
  go_wp2_with fail
  refine (new_any 1 _).mono ?_
  rintro e w1 ⟨c, m, r, rfl, hK, hB⟩
  obtain ⟨S, hS⟩ : ∃ S, S = w.heap.size := ⟨_, rfl⟩
  rw [← hS] at hK hB
  have hK1 : Kept w1 S c m r 1 (0, 0, 0) [] := hK
  have HK := Lib.hid hK1
  have HB := Lib.hid hB
  have HS := Lib.hid hS
  clear hK hB hK1 hS
  go_wp2_with fail
  refine (put_miss HK.out (by decide) (by decide) (by decide) (by decide) (by decide) (k := sA) 1 (by decide) rfl).mono ?_
  rintro e w2 ⟨rfl, b, hK, hB⟩
  have hK1 : Kept w2 S c m r 1 (0, 0, 0) [(sA, 1, b)] := hK
  have HK2 := Lib.hid hK1
  have HB2 := Lib.hid (HB.out.trans hB)
  clear hK hB hK1 HK HB
  go_wp2_with fail
  refine (put_miss HK2.out (by decide) (by decide) (by simp) (by decide) (by decide) (k := sB) 2 (by decide) rfl).mono ?_
  rintro e w3 ⟨rfl, b', hK, hB⟩
  have hK1 : Kept w3 S c m r 1 (0, 0, 1) [(sB, 2, b')] := hK
  have HK3 := Lib.hid hK1
  have HB3 := Lib.hid (HB2.out.trans hB)
  clear hK hB hK1 HK2 HB2
  go_wp2_with fail
  refine (get_miss HK3.out (k := sA) (by decide) rfl (by decide) (by decide)).mono ?_
  rintro e w4 ⟨rfl, hK, hB⟩
  have hK1 : Kept w4 S c m r 1 (0, 1, 1) [(sB, 2, b')] := hK
  have HK4 := Lib.hid hK1
  have HB4 := Lib.hid (HB3.out.trans hB)
  clear hK hB hK1 HK3 HB3
  go_wp2_with fail
  refine (get_hit HK4.out (k := sB) (x := (sB, 2, b')) (by decide) rfl (by decide) (by decide)).mono ?_
  rintro e w5 ⟨rfl, hK, hB⟩
  have hK1 : Kept w5 S c m r 1 (1, 1, 1) [(sB, 2, b')] := hK
  have HK5 := Lib.hid hK1
  have HB5 := Lib.hid (HB4.out.trans hB)
  clear hK hB hK1 HK4 HB4
  go_wp2_with fail
  refine (long_any HK5.out).mono ?_
  rintro e w6 ⟨rfl, rfl⟩
  go_wp2_with fail
  refine (stats_any HK5.out).mono ?_
  rintro e w6 ⟨rfl, hB⟩
  have HK6 := Lib.hid (HK5.out.stay hB)
  have HB6 := Lib.hid (HB5.out.trans (hB.mono (by rw [HS.out]; exact HB5.out.size)))
  clear hB HK5 HB5
  have e1 := eq111
  have e2 := guard111
  go_wp2_with fail
  refine (room_any HK6.out).mono ?_
  rintro e w7 ⟨rfl, rfl⟩
  go_wp2
  go_ret
  exact ⟨rfl, by rw [← HS.out]; exact HB6.out⟩

end Go.Proofs.Ytfcdmkfbkkogbab.Cache
