/- A set's key, walked. -/
import Derived.Test.YtfcdmkfbkkogbaaDoorBitsJ
import Derived.Lib.BufferRead
namespace Go.Proofs.YtfcdmkfbkkogbaaDoor.Bits
open Go Go.RowKit

def byteN (x q : Nat) : Nat := x / 2 ^ (8 * q) % 256
def byteInts (x q : Nat) : List Int := (List.range q).map fun r => (byteN x r : Int)
def kInts (l : List Nat) (j : Nat) : List Int := (l.take j).flatMap fun x => byteInts x 8
def u8s (ns : List Int) : List Value := ns.map (Value.int .u8)
/-- The key. -/
def keyS (l : List Nat) : ByteArray := ⟨((kInts l (tl l)).map fun n => UInt8.ofNat n.toNat).toArray⟩

theorem byteInts_succ (x q : Nat) : byteInts x (q + 1) = byteInts x q ++ [(byteN x q : Int)] := by
  simp [byteInts, List.range_succ]
theorem kInts_succ {l : List Nat} {j x : Nat} (h : l[j]? = some x) : kInts l (j + 1) = kInts l j ++ byteInts x 8 := by
  simp [kInts, List.take_add_one, h]
theorem u8s_append (a b : List Int) : u8s (a ++ b) = u8s a ++ u8s b := by simp [u8s]

theorem conv_own {w : World} {S n : Nat} {v : Value} {ns : List Int} (h : w.ownsRow S 5 1 v n (u8s ns)) : (convert 76 9 v).run Tryd.prog w = .ok (.string ⟨(ns.map fun n => UInt8.ofNat n.toNat).toArray⟩) w := by
  have hl : (u8s ns).length = ns.length := List.length_map _
  have h1 := h.1
  rcases h.2 with ⟨rfl, h0⟩ | ⟨g, cap, cur, rfl, _⟩
  · have : ns = [] := List.length_eq_zero_iff.1 (by omega)
    subst this
    exact Lib.run_convert_nil_bytes w 76 9 5 0 Tryd.underlying76 Tryd.underlying5 Tryd.underlying9
  · rw [run_convert_bytes_string w 76 9 5 _ _ _ Tryd.underlying76 Tryd.underlying5 Tryd.underlying9]
    have hc : ∀ j u, (u8s ns)[j]? = some u → w.cell? ((⟨g, 0, none⟩ : Addr).add j) = some u := fun j u hu => by
      rw [add_off, Nat.zero_add, h.cellAt j (by have := (List.getElem?_eq_some_iff.1 hu).1; omega)]
      exact hu
    have hrun := run_loadCells_list (P := Tryd.prog) w ⟨g, 0, none⟩ (u8s ns) hc
    rw [show (u8s ns).length = n by omega] at hrun
    rw [run_bytesToString w _ n cap ns hrun, foldl_push_bytes]
    simp

theorem info5 : (Tryd.prog.info? 5).map (fun i => (i.zero, i.size, i.bytes)) = some (some (.int .u8 0), 1, 1) := by kernel_rfl

set_option maxRecDepth 100000 in
theorem key_any {w : World} {v : Value} {l : List Nat} (H : Words w v l) : Calls Tryd.prog 73 #[v] w fun e w' => e = .returned (.string (keyS l)) ∧ Below w.heap.size w w' := by
  obtain ⟨i0, hi, hz0, hz1, hz2⟩ := info_parts info5
  have HT := Lib.hid (tidyLong_any H)
  have htl := tl_le l
  have hkey : keyS l = ⟨((kInts l (tl l)).map fun n => UInt8.ofNat n.toNat).toArray⟩ := rfl
  obtain ⟨k, hk⟩ : ∃ k, k = tl l := ⟨_, rfl⟩
  rw [← hk] at HT htl hkey
  obtain ⟨htl1, htl2⟩ := htl
  obtain ⟨S, hS⟩ : ∃ S, S = w.heap.size := ⟨_, rfl⟩
  rw [← hS]
  have HS := Lib.hid hS
  have hsz : S ≤ w.heap.size := by omega
  have HKEY := Lib.hid hkey
  clear hS hkey
  by_cases hk0 : k = 0
  · subst hk0
    obtain ⟨hshape, -, -⟩ := H
    have HE : Hid (keyS l = ⟨#[]⟩) := by rw [HKEY.out]; simp [kInts, Hid]
    clear hk
    rcases hshape with ⟨rfl, rfl⟩ | ⟨x, cp, rfl, rfl⟩ | ⟨bo, oo, co, rfl, hne, hbc, hcm, -⟩
    all_goals
      go_enter Tryd.func73, Tryd.ntmps73
      go_wp2_with fail
      refine HT.out.mono ?_
      rintro e w1 ⟨rfl, rfl⟩
      go_wp2_with (at_make; refine wpList_make_own _ rfl _ _ 76 rfl S 5 i0 (.int .u8 0) 1 Tryd.underlying76 hi hz0 hz1 _ _ _ 0 rfl rfl ?hC ?b2 ?b3 hsz ?_)
      case hC => rfl
      case b2 => omega
      case b3 => unfold maxLen; omega
      intro w1 hown hgrow
      have hB1 : Below S w w1 := (Below.refl _ w).grown hgrow hsz (by simp)
      have HO := Lib.hid hown
      have HB1 := Lib.hid hB1
      clear hown hgrow hB1
      go_wp2_with fail
      go_loopw [4, 17] (fun v i wx => i = .int .i64 0 ∧ wx.ownsRow S 5 1 v 0 (u8s []) ∧ w1 = wx) (fun _ _ _ => 0)
      case atStart => exact ⟨rfl, HO.out, rfl⟩
      case round =>
        obtain ⟨rfl, hown, rfl⟩ := hrel
        have hconv := conv_own hown
        clear hown
        go_wp2
        go_ret
        exact ⟨by rw [HE.out]; rfl, HB1.out⟩
  · obtain ⟨b, off, cap, rfl, hcap, hcm, hb, hc⟩ := H.at (by omega)
    have HCC := Lib.hid hc
    have HLT := Lib.hid H.2.1
    unfold maxLen at hcm
    rw [← HS.out] at hb
    clear hc H hk hk0
    go_enter Tryd.func73, Tryd.ntmps73
    go_wp2_with fail
    refine HT.out.mono ?_
    rintro e w1 ⟨rfl, rfl⟩
    go_wp2_with (at_make; refine wpList_make_own _ rfl _ _ 76 rfl S 5 i0 (.int .u8 0) 1 Tryd.underlying76 hi hz0 hz1 _ _ _ (8 * k) rfl rfl ?hC ?b2 ?b3 hsz ?_)
    case hC => omega
    case b2 => rw [hz2]; omega
    case b3 => unfold maxLen; omega
    intro w1 hown hgrow
    have hB1 : Below S w w1 := (Below.refl _ w).grown hgrow hsz (by simp)
    have HO := Lib.hid hown
    have HB1 := Lib.hid hB1
    clear hown hgrow hB1
    go_wp2_with fail
    go_loopw [4, 17] (fun v i wx => ∃ j : Nat, j ≤ k ∧ i = .int .i64 j ∧ wx.ownsRow S 5 1 v (8 * j) (u8s (kInts l j)) ∧ Below S w wx) (fun _ i _ => k - (intOf i).toNat)
    case atStart => exact ⟨0, Nat.zero_le _, rfl, HO.out, HB1.out⟩
    case round =>
      obtain ⟨j, hj, rfl, hown, hB⟩ := hrel
      by_cases hlt : j < k
      · obtain ⟨x, hx⟩ : ∃ x, l[j]? = some x := ⟨l[j], List.getElem?_eq_getElem _⟩
        have hcell : wr.cell? ⟨b, off + j, none⟩ = some (wordV x) := (hB.cell (p := ⟨b, off + j, none⟩) hb).trans (HCC.out j x hx)
        have hxl := HLT.out x (List.mem_of_getElem? hx)
        have HX := Lib.hid hx
        have HOwn := Lib.hid hown
        have HB := Lib.hid hB
        clear hx hown hB
        go_wp2_with fail
        obtain ⟨wo, rfl⟩ : ∃ wo : World, wo = wr := ⟨_, rfl⟩
        go_loopw [4, 7] (fun v i wx => ∃ q : Nat, q ≤ 8 ∧ i = .int .i64 ((8 * q : Nat) : Int) ∧ wx.ownsRow S 5 1 v (8 * j + q) (u8s (kInts l j ++ byteInts x q)) ∧ Below S w wx) (fun _ i _ => 64 - (intOf i).toNat)
        case atStart => exact ⟨0, by omega, rfl, by simpa [byteInts] using HOwn.out, HB.out⟩
        case round =>
          obtain ⟨q, hq, rfl, hown, hB⟩ := hrel
          have hszr : S ≤ wr.heap.size := Nat.le_trans hsz hB.size
          have HBQ := Lib.hid hB
          clear hB
          by_cases hq8 : q < 8
          · have hq64 : ((8 * q : Nat) : Int) < 64 := by omega
            go_wp2_with (at_builtin; refine wpList_append_own _ rfl _ _ 76 rfl S 5 i0 (.int .u8 0) 1 1 Tryd.underlying76 hi hz0 hz1 hz2 rfl (by decide) _ _ _ rfl (hown.alloc _) ⟨wr.heap.size, 0, none⟩ 1 1 [.int .u8 ((x : Int) / 2 ^ (8 * q) % 256)] rfl rfl ?c1 ?c2 ?c3 ?c4 ?c5 ?_)
            case c1 => intro j u hj; cases j <;> simp at hj; subst hj; simp [Addr.add]
            case c2 => intro u hu; simp at hu; subst hu; rfl
            case c3 => unfold maxLen; omega
            case c4 => omega
            case c5 => simp; omega
            intro v' w2 hown' hgrow _
            have hB2 : Below S w w2 := ((HBQ.out.alloc hszr _).grown hgrow (by simp; omega) fun k hk => (hown.lt k hk).1)
            have hown2 : w2.ownsRow S 5 1 v' (8 * j + (q + 1)) (u8s (kInts l j ++ byteInts x (q + 1))) := by
              have e : ((byteN x q : Nat) : Int) = (x : Int) / 2 ^ (8 * q) % 256 := by
                unfold byteN
                rw [Int.natCast_emod, Int.natCast_ediv, Int.natCast_pow]
                rfl
              rw [byteInts_succ, ← List.append_assoc, u8s_append]
              have : u8s [((byteN x q : Nat) : Int)] = [.int .u8 ((x : Int) / 2 ^ (8 * q) % 256)] := by rw [← e]; rfl
              rw [this]
              exact hown'
            have HO2 := Lib.hid hown2
            have HB2 := Lib.hid hB2
            clear hown' hgrow hB2 hown hown2
            go_wp2
            go_roundw
            case rel => exact ⟨q + 1, by omega, by go_num, HO2.out, HB2.out⟩
            case measure => simp [intOf]; omega
          · obtain rfl : q = 8 := by omega
            have hown2 : wr.ownsRow S 5 1 u4 (8 * (j + 1)) (u8s (kInts l (j + 1))) := by rw [kInts_succ HX.out]; exact hown
            have HO2 := Lib.hid hown2
            clear hown hown2
            go_wp2
            go_roundw
            case rel => exact ⟨j + 1, by omega, by go_num, HO2.out, HBQ.out⟩
            case measure => simp [intOf]; omega
      · obtain rfl : j = k := by omega
        have hconv := conv_own hown
        have HB := Lib.hid hB
        rw [← HKEY.out] at hconv
        clear hown hB
        go_wp2
        go_ret
        exact ⟨rfl, HB.out⟩

end Go.Proofs.YtfcdmkfbkkogbaaDoor.Bits
