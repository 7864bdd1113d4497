/- The law CacheLatest, walked. -/
import Derived.Test.YtfcdmkfbkkogbabCacheL
import Derived.Deep.DeepCutAuto
import Derived.Deep.CutBlock
import Derived.Deep.QuietTactic
import Derived.BigQuiet
namespace Go.Proofs.Ytfcdmkfbkkogbab.Cache
open Go Go.RowKit

/-- What is kept behind the first j texts. -/
def Puts (w wr : World) (S c m r : Nat) (room : Int) (ks : List Text) (j : Nat) : Prop :=
  ∃ L st, Kept wr S c m r room (0, 0, st) L ∧ L.map (·.1) = (dd (ks.take j).reverse).take room.toNat ∧ (∀ x ∈ L, ∃ i : Nat, i < j ∧ x.2.1 = i ∧ ks[i]? = some x.1) ∧ 0 ≤ st ∧ st ≤ 100 * j ∧ Below S w wr

theorem Puts.step {w wr : World} {S c m r : Nat} {room : Int} {ks : List Text} {j : Nat} (h : Puts w wr S c m r room ks j) (h2 : room ≤ 4096) (hr : 0 ≤ room) (hj : j < ks.length) (hk60 : ks.length ≤ 60) (hsz : ∀ s ∈ ks, s.size ≤ maxLen) {k : Text} (hk : ks[j]? = some k) :
    Calls Try.prog 21 #[ptr c, .string k, .int .i64 (j : Int)] wr fun e w' => e = .returned (.tuple #[]) ∧ Puts w w' S c m r room ks (j + 1) := by
  obtain ⟨L, st, hK, hL, he, hs0, hs1, hB⟩ := h
  have hlen : L.length ≤ room.toNat ∧ L.length ≤ 60 := by
    have h1 : (L.map (·.1)).length = L.length := List.length_map _
    rw [hL, List.length_take] at h1
    have := dd_length (ks.take j).reverse
    simp at this
    omega
  refine (put_any hK h2 hr (by omega) hlen.1 hs0 (by omega) (j : Int) (hsz k (List.mem_of_getElem? hk))).mono ?_
  rintro e w' ⟨hE, L', st', hK', hB', h0, h1, hkeys, hents⟩
  refine ⟨hE, L', st', hK', ?_, ?_, h0, by omega, hB.trans hB'⟩
  · rw [hkeys, hL, dd_put]
    have : ks.take (j + 1) = ks.take j ++ [k] := by rw [List.take_add_one, hk]; rfl
    rw [this]
    simp
  · intro x hx
    rcases hents x hx with h | ⟨h, h'⟩
    · obtain ⟨i, hi, a, b⟩ := he x h
      exact ⟨i, by omega, a, b⟩
    · exact ⟨j, by omega, h', by rw [h]; exact hk⟩

/-- The keys that came in. -/
def Came (w : World) (b off : Nat) (ks : List Text) : Prop := ∀ j k, ks[j]? = some k → w.cell? ⟨b, off + j, none⟩ = some (.string k)

theorem Came.below {w wr : World} {b off S : Nat} {ks : List Text} (h : Came w b off ks) (hB : Below S w wr) (hb : b < S) : Came wr b off ks := fun j k hk => (hB.cell (p := ⟨b, off + j, none⟩) hb).trans (h j k hk)

abbrev texts (W : List Text) : List Value := W.map Value.string

/-- What is wanted, with g texts still to come. -/
def Wants (wo : World) (S : Nat) (ks : List Text) (room : Int) (g : Nat) (v : Value) (wr : World) : Prop :=
  ∃ W, wr.ownsRow S 9 1 v W.length (texts W) ∧ W = dd (ks.reverse.take (ks.length - g)) ∧ W.length ≤ room.toNat ∧ Below S wo wr ∧ g ≤ ks.length

/-- All that is wanted. -/
def Wanted (wo : World) (S : Nat) (ks : List Text) (room : Int) (v : Value) (wr : World) : Prop :=
  ∃ W, wr.ownsRow S 9 1 v W.length (texts W) ∧ W = (dd ks.reverse).take room.toNat ∧ Below S wo wr

theorem Wants.done {wo wr : World} {S : Nat} {ks : List Text} {room : Int} {g : Nat} {v : Value} {W : List Text} (h1 : wr.ownsRow S 9 1 v W.length (texts W)) (h2 : W = dd (ks.reverse.take (ks.length - g))) (h3 : W.length ≤ room.toNat) (h4 : Below S wo wr)
    (hd : g = 0 ∨ room ≤ W.length) : Wanted wo S ks room v wr := by
  refine ⟨W, h1, ?_, h4⟩
  rcases hd with rfl | hd
  · rw [Nat.sub_zero, ← List.length_reverse, List.take_length] at h2
    rw [← h2, List.take_of_length_le h3]
  · obtain ⟨s, hs⟩ := dd_prefix (ks.reverse.drop (ks.length - g)) (ks.reverse.take (ks.length - g))
    rw [List.take_append_drop] at hs
    rw [hs, ← h2, List.take_append_of_le_length (by omega), List.take_of_length_le (by omega)]

theorem len_of {w : World} {S : Nat} {v : Value} {n : Nat} {xs : List Value} (h : w.ownsRow S 9 1 v n xs) (ty : TypeId) (w' : World) : (Builtin.len_ #[54] ty #[v]).run Try.prog w' = .ok (.int .i64 (n : Int)) w' := by
  rcases h.2 with ⟨rfl, rfl⟩ | ⟨g, cap, cur, rfl, _⟩
  · simp [Builtin.len_, run_underlying Try.underlying54, goInt, Result.andThen]
  · simp [Builtin.len_, run_underlying Try.underlying54, goInt, Result.andThen]

theorem str_eq (a b : Text) : (ByteArray.toList a == ByteArray.toList b) = decide (a = b) := by
  rw [ByteArray.toList_eq, ByteArray.toList_eq]
  by_cases h : a = b
  · subst h; simp
  · have : a.data.toList ≠ b.data.toList := fun e => h (WideShapes.bytes_inj e)
    rw [decide_eq_false h]
    exact beq_eq_false_iff_ne.2 this

/-- Does one of the first q stand for x? -/
def hadB (W : List Text) (q : Nat) (x : Text) : Bool := (W.take q).any fun y => decide (y = x)

theorem hadB_succ {W : List Text} {q : Nat} {y : Text} (h : W[q]? = some y) (x : Text) : hadB W (q + 1) x = (hadB W q x || decide (y = x)) := by
  unfold hadB
  rw [List.take_add_one, h]
  simp

theorem hadB_all {W : List Text} {x : Text} : hadB W W.length x = true ↔ x ∈ W := by
  unfold hadB
  simp

theorem rev_take {ks : List Text} {g : Nat} {x : Text} (h : ks[g]? = some x) : ks.reverse.take (ks.length - g) = ks.reverse.take (ks.length - (g + 1)) ++ [x] := by
  obtain ⟨hg, e⟩ := List.getElem?_eq_some_iff.1 h
  have h1 : ks.length - g = (ks.length - (g + 1)) + 1 := by omega
  rw [h1, List.take_add_one]
  congr 1
  rw [List.getElem?_reverse (by omega), show ks.length - 1 - (ks.length - (g + 1)) = g by omega, h]
  rfl

theorem Wants.old {wo wr : World} {S : Nat} {ks : List Text} {room : Int} {g : Nat} {v : Value} {W : List Text} {x : Text} (hx : ks[g]? = some x) (h1 : wr.ownsRow S 9 1 v W.length (texts W)) (h2 : W = dd (ks.reverse.take (ks.length - (g + 1)))) (h3 : W.length ≤ room.toNat) (h4 : Below S wo wr)
    (hm : x ∈ W) : Wants wo S ks room g v wr :=
  ⟨W, h1, by rw [rev_take hx, (dd_snoc _ _).1 (by rw [← h2]; exact hm)]; exact h2, h3, h4, by have := (List.getElem?_eq_some_iff.1 hx).1; omega⟩

theorem Wants.new {wo wr : World} {S : Nat} {ks : List Text} {room : Int} {g : Nat} {v : Value} {W : List Text} {x : Text} (hx : ks[g]? = some x) (h1 : wr.ownsRow S 9 1 v (W.length + 1) (texts W ++ [.string x])) (h2 : W = dd (ks.reverse.take (ks.length - (g + 1)))) (h3 : (W.length : Int) < room) (h4 : Below S wo wr)
    (hm : x ∉ W) : Wants wo S ks room g v wr :=
  ⟨W ++ [x], by simpa using h1, by rw [rev_take hx, (dd_snoc _ _).2 (by rw [← h2]; exact hm), ← h2], by simp; omega, h4, by have := (List.getElem?_eq_some_iff.1 hx).1; omega⟩

theorem owns_block {w w' : World} {S e size n : Nat} {v : Value} {xs : List Value} (k : w.ownsRow S e size v n xs) (h : ∀ g, S ≤ g → w'.heap[g]? = w.heap[g]?) : w'.ownsRow S e size v n xs := by
  refine ⟨k.1, ?_⟩
  rcases k.2 with h0 | ⟨g, cap, cur, e1, e2, e3, e4⟩
  · exact .inl h0
  · exact .inr ⟨g, cap, cur, e1, e2, (h g e2).trans e3, e4⟩

/-- What the last loop keeps. -/
def Third (w : World) (S T c m r : Nat) (N st : Int) (L : List Ent) (W : List Text) (v v2 : Value) (q : Nat) (wr : World) : Prop :=
  (∃ L', L'.Perm L ∧ Kept wr S c m r N ((q : Int), 0, st) L') ∧ Below S w wr ∧ wr.ownsRow T 9 1 v W.length (texts W) ∧ wr.ownsRow T 9 1 v2 W.length (texts W)

theorem Third.get {w wr : World} {S T c m r : Nat} {N st : Int} {L : List Ent} {W : List Text} {v v2 : Value} {q : Nat} (h : Third w S T c m r N st L W v v2 q wr) (hT : ∀ b ∈ c :: r :: blocks L, b < T) (hL : L.map (·.1) = W) (hsz : ∀ k ∈ W, k.size ≤ maxLen)
    (hq60 : q ≤ 60) {k : Text} (hk : W[q]? = some k) :
    Calls Try.prog 23 #[ptr c, .string k] wr fun e w' => (∃ y ∈ L, y.1 = k ∧ e = .returned (.tuple #[.int .i64 y.2.1, .bool true])) ∧ Third w S T c m r N st L W v v2 (q + 1) w' := by
  obtain ⟨⟨L', hp, hK⟩, hB, h1, h2⟩ := h
  have hkW : k ∈ W := List.mem_of_getElem? hk
  obtain ⟨y, hy, hyk⟩ : ∃ y ∈ L, y.1 = k := by rw [← hL] at hkW; simpa using hkW
  have hx : look L' k = some y := (look_iff hK.keys).2 ⟨hp.mem_iff.2 hy, hyk⟩
  refine (get_hit2 hK (hsz k hkW) hx (by simp) (by simp; omega)).mono ?_
  rintro e w' ⟨he, hK', hB', hO⟩
  have hpb : (blocks L').Perm (blocks L) := hp.map _
  have hO' : ∀ g, T ≤ g → w'.heap[g]? = wr.heap[g]? := fun g hg => hO g fun hb => by
    have := hT g (by simp only [List.mem_cons] at hb ⊢; rcases hb with hb | hb | hb; exact .inl hb; exact .inr (.inl hb); exact .inr (.inr (hpb.mem_iff.1 hb)))
    omega
  obtain ⟨A, C, hA, hr⟩ := look_split hK.keys hx
  have hperm : (y :: rest L' k).Perm L' := by rw [hr, hA]; exact List.perm_middle.symm
  exact ⟨⟨y, hy, hyk, he⟩, ⟨_, hperm.trans hp, by simpa using hK'⟩, hB.trans hB', owns_block h1 hO', owns_block h2 hO'⟩

theorem owns_shape {w : World} {S n : Nat} {v : Value} {xs : List Value} (h : w.ownsRow S 9 1 v n xs) (hn : 0 < n) : ∃ g cap, v = .slice (some ⟨g, 0, none⟩) n cap := by
  rcases h.2 with ⟨_, h0⟩ | ⟨g, cap, _, rfl, _⟩
  · omega
  · exact ⟨g, cap, rfl⟩

theorem Like.owns {w' w : World} (h : Like w' w) {S e size n : Nat} {v : Value} {xs : List Value} (k : w.ownsRow S e size v n xs) : w'.ownsRow S e size v n xs := by
  unfold World.ownsRow at k ⊢
  rw [h.1]
  exact k

theorem Third.like {w wr w' : World} {S T c m r : Nat} {N st : Int} {L : List Ent} {W : List Text} {v v2 : Value} {q : Nat} (h : Third w S T c m r N st L W v v2 q wr) (hl : Like w' wr) : Third w S T c m r N st L W v v2 q w' := by
  obtain ⟨⟨L', hp, hK⟩, hB, h1, h2⟩ := h
  exact ⟨⟨L', hp, hK.stay (Below.like (Below.refl _ _) hl)⟩, Below.like hB hl, hl.owns h1, hl.owns h2⟩

set_option maxHeartbeats 3200000 in
set_option maxRecDepth 100000 in
theorem latest_walk (room : Int) (b off cap : Nat) (ks : List Text) (hk60 : ks.length ≤ 60) (w : World) (hsz : ∀ s ∈ ks, s.size ≤ maxLen) (hb : b < w.heap.size) (hc : Came w b off ks) :
    Calls Try.prog 6 #[.int .i64 room, .slice (some ⟨b, off, none⟩) ks.length cap] w fun e w' => e = .returned (.bool true) ∧ Below w.heap.size w w' := by
  obtain ⟨S, hS⟩ : ∃ S, S = w.heap.size := ⟨_, rfl⟩
  rw [← hS] at hb ⊢
  have HS := Lib.hid hS
  have HC := Lib.hid hc
  have HZ := Lib.hid hsz
  obtain ⟨N, hN⟩ : ∃ N, N = min (max room 0) 4096 := ⟨_, rfl⟩
  have hN0 : 0 ≤ N := by omega
  have hN1 : N ≤ 4096 := by omega
  have HN := Lib.hid hN
  obtain ⟨n, hn⟩ : ∃ n, n = ks.length := ⟨_, rfl⟩
  rw [← hn] at hk60 ⊢
  have Hn := Lib.hid hn
  clear hS hc hsz hN hn
  obtain ⟨i0, hi, hz0, hz1, hz2⟩ := info_parts info9
  go_enter Try.func6, Try.ntmps6
  go_wp2_with fail
  refine (new_any room _).mono ?_
  rintro e w1 ⟨c, m, r, rfl, hK, hB⟩
  rw [← HN.out, ← HS.out] at hK
  rw [← HS.out] at hB
  have HP : Hid (Puts w w1 S c m r N ks 0) := ⟨[], 0, hK, by simp [dd], by simp, by decide, by decide, hB⟩
  clear hK hB
  go_wp2_with fail
  go_loopw [6] (fun i wr => ∃ j : Nat, j ≤ n ∧ i = .int .i64 j ∧ Puts w wr S c m r N ks j) (fun i _ => n - (intOf i).toNat)
  case atStart => exact ⟨0, by omega, rfl, HP.out⟩
  case round =>
    obtain ⟨j, hj, rfl, hP⟩ := hrel
    have HP := Lib.hid hP
    by_cases hlt : j < n
    · obtain ⟨k, hk⟩ : ∃ k, ks[j]? = some k := ⟨ks[j]'(by rw [← Hn.out]; exact hlt), List.getElem?_eq_getElem _⟩
      have hcell : wr.cell? ⟨b, off + j, none⟩ = some (.string k) := (HC.out.below (by obtain ⟨_, _, _, _, _, _, _, h⟩ := hP; exact h) hb) j k hk
      have HK := Lib.hid hk
      clear hP hk
      go_wp2_with fail
      refine (HP.out.step hN1 hN0 (by rw [← Hn.out]; exact hlt) (by rw [← Hn.out]; exact hk60) HZ.out HK.out).mono ?_
      rintro e w2 ⟨rfl, hP⟩
      have HP2 := Lib.hid hP
      clear hP
      go_wp2
      go_roundw
      case rel => exact ⟨j + 1, by omega, by go_num, HP2.out⟩
      case measure => simp [intOf]; omega
    · obtain rfl : j = n := by omega
      clear hP hlt hj
      obtain ⟨wo, rfl⟩ : ∃ wo : World, wo = wr := ⟨_, rfl⟩
      obtain ⟨T, hT⟩ : ∃ T, T = wo.heap.size := ⟨_, rfl⟩
      have HT := Lib.hid hT
      clear hT
      go_upto_block 2 with fail
      go_cut [7] (fun v wx => Wanted wo T ks room v wx)
      case first =>
        go_wp2_with fail
        go_loopg [7, 8] j (fun g v i wx => i = .int .i64 ((g : Int) - 1) ∧ Wants wo T ks room g v wx)
        case atStart => exact ⟨rfl, [], ⟨rfl, .inl ⟨rfl, rfl⟩⟩, by rw [Hn.out]; simp [dd], by simp, Below.refl _ _, by rw [Hn.out]; exact Nat.le_refl _⟩
        case round =>
          obtain ⟨rfl, W, hown, hW, hWr, hB, hg⟩ := hrel
          have hlen := fun ty w' => len_of hown ty w'
          have hW60 : W.length ≤ 60 := by
            have h1 := dd_length (ks.reverse.take (ks.length - gk))
            rw [← hW, List.length_take, List.length_reverse, ← Hn.out] at h1
            omega
          have HO := Lib.hid hown
          have HWW := Lib.hid hW
          have HB := Lib.hid hB
          have HG := Lib.hid hg
          have HWR := Lib.hid hWr
          by_cases hgo : 0 < gk ∧ (W.length : Int) < room
          · obtain ⟨h0, hr⟩ := hgo
            obtain ⟨g, rfl⟩ : ∃ g, gk = g + 1 := ⟨gk - 1, by omega⟩
            obtain ⟨x, hx⟩ : ∃ x, ks[g]? = some x := ⟨ks[g]'(by omega), List.getElem?_eq_getElem _⟩
            have HX := Lib.hid hx
            have hcell : wr.cell? ⟨b, off + g, none⟩ = some (.string x) := by
              obtain ⟨_, _, _, _, _, _, _, hP⟩ := HP.out
              exact ((HC.out.below hP hb).below hB (by rw [HT.out]; exact Nat.lt_of_lt_of_le hb (by have := hP.size; rw [← HS.out] at this; exact this))) g x hx
            have hg60 : g < j := by have := (List.getElem?_eq_some_iff.1 hx).1; rw [Hn.out]; exact this
            rw [show (((g + 1 : Nat) : Int) - 1) = (g : Int) by omega]
            rcases hown.2 with ⟨rfl, hW0⟩ | ⟨G, cap2, cur, rfl, -⟩
            · obtain rfl : W = [] := List.length_eq_zero_iff.1 hW0
              have hr0 : 0 < room := by simpa using hr
              have hsz0 : T ≤ wr.heap.size := by rw [HT.out]; exact hB.size
              clear hown hW hB hg hWr hx hlen hW60 hr hW0
              go_wp2_with fail
              obtain ⟨wi, rfl⟩ : ∃ wi : World, wi = wr := ⟨_, rfl⟩
              go_loopw [9, 10] (fun h k wx => h = .bool false ∧ k = .int .i64 0 ∧ wi = wx) (fun _ _ _ => 0)
              case atStart => exact ⟨rfl, rfl, rfl⟩
              case round =>
                obtain ⟨rfl, rfl, rfl⟩ := hrel
                have hown := HO.out
                go_wp2_with (at_builtin; refine wpList_append_own _ rfl _ _ 54 rfl T 9 i0 (.string ByteArray.empty) 1 16 Try.underlying54 hi hz0 hz1 hz2 rfl (by decide) _ _ _ rfl (hown.alloc _) ⟨wi.heap.size, 0, none⟩ 1 1 [.string x] rfl rfl ?c1 ?c2 ?c3 ?c4 ?c5 ?_)
                case c1 => intro j u hj; cases j <;> simp at hj; subst hj; simp [Addr.add]
                case c2 => intro u hu; simp at hu; subst hu; rfl
                case c3 => simp [maxLen]
                case c4 => simp
                case c5 => simp; omega
                intro v' w1 hown' hgrow _
                have hB1 : Below T wo w1 := ((HB.out.alloc hsz0 _).grown hgrow (by simp; omega) fun k hk => (hown.lt k hk).1)
                have HNEW := Lib.hid (Wants.new HX.out hown' HWW.out (by simpa using hr0) hB1 (by simp))
                clear hown' hgrow hB1 hown
                go_wp2
                go_roundg g
                case measure => omega
                case rel => exact ⟨by go_num, HNEW.out⟩
            · have hcw : ∀ q y, W[q]? = some y → wr.cell? ⟨G, q, none⟩ = some (.string y) := fun q y hy => by
                have := hown.cellAt q (by have := (List.getElem?_eq_some_iff.1 hy).1; omega)
                rw [this]; simp [hy]
              have HCW := Lib.hid hcw
              clear hown hW hB hg hWr hx hcw
              go_wp2_with fail
              obtain ⟨wi, rfl⟩ : ∃ wi : World, wi = wr := ⟨_, rfl⟩
              go_loopw [9, 10] (fun h k wx => ∃ q : Nat, q ≤ W.length ∧ k = .int .i64 q ∧ h = .bool (hadB W q x) ∧ Like wx wi) (fun _ k _ => W.length - (intOf k).toNat)
              case atStart => exact ⟨0, by omega, rfl, rfl, Like.refl _⟩
              case round =>
                obtain ⟨q, hq, rfl, rfl, hl⟩ := hrel
                have hcx : wr.cell? ⟨b, off + g, none⟩ = some (.string x) := (hl.cell _).trans hcell
                have HL := Lib.hid hl
                clear hl
                by_cases hqlt : q < W.length
                · obtain ⟨y, hy⟩ : ∃ y, W[q]? = some y := ⟨W[q], List.getElem?_eq_getElem _⟩
                  have hcy : wr.cell? ⟨G, q, none⟩ = some (.string y) := (HL.out.cell _).trans (HCW.out q y hy)
                  have HY := Lib.hid (hadB_succ hy x)
                  clear hy
                  cases hm : hadB W q x with
                  | true =>
                    rw [hm] at HY
                    clear hm
                    go_wp2_with fail
                    go_quiet (fail)
                    go_wp2_with fail
                    go_roundw
                    case rel => exact ⟨q + 1, by omega, by go_num, by rw [HY.out]; rfl, HL.out.1, HL.out.2.1, HL.out.2.2.1, HL.out.2.2.2⟩
                    case measure => simp [intOf]; omega
                  | false =>
                    rw [hm] at HY
                    clear hm
                    go_wp2_with fail
                    go_quiet (fail)
                    go_wp2_with fail
                    go_roundw
                    case rel =>
                      refine ⟨q + 1, by omega, by go_num, ?_, HL.out.1, HL.out.2.1, HL.out.2.2.1, HL.out.2.2.2⟩
                      rw [HY.out, str_eq]
                      rfl
                    case measure => simp [intOf]; omega
                · obtain rfl : q = W.length := by omega
                  have hown := HL.out.owns HO.out
                  have hB2 := Below.like HB.out HL.out
                  cases hm : hadB W W.length x with
                  | true =>
                    have hold := Wants.old HX.out hown HWW.out HWR.out hB2 (hadB_all.1 hm)
                    have HOLD := Lib.hid hold
                    clear hold hm hown hB2
                    go_wp2_with fail
                    go_roundg g
                    case measure => omega
                    case rel => exact ⟨by go_num, HOLD.out⟩
                  | false =>
                    have hnm : ¬ x ∈ W := fun h => by rw [hadB_all.2 h] at hm; cases hm
                    have HNM := Lib.hid hnm
                    have HB2 := Lib.hid hB2
                    have hszr : T ≤ wr.heap.size := by rw [HT.out]; exact hB2.size
                    clear hm hnm hB2
                    go_wp2_with (at_builtin; refine wpList_append_own _ rfl _ _ 54 rfl T 9 i0 (.string ByteArray.empty) 1 16 Try.underlying54 hi hz0 hz1 hz2 rfl (by decide) _ _ _ rfl (hown.alloc _) ⟨wr.heap.size, 0, none⟩ 1 1 [.string x] rfl rfl ?c1 ?c2 ?c3 ?c4 ?c5 ?_)
                    case c1 => intro j u hj; cases j <;> simp at hj; subst hj; simp [Addr.add]
                    case c2 => intro u hu; simp at hu; subst hu; rfl
                    case c3 => unfold maxLen; omega
                    case c4 => omega
                    case c5 => simp; omega
                    intro v' w1 hown' hgrow _
                    have hB1 : Below T wo w1 := ((HB2.out.alloc hszr _).grown hgrow (by simp; omega) fun k hk => (hown.lt k hk).1)
                    have HNEW := Lib.hid (Wants.new HX.out hown' HWW.out hr hB1 HNM.out)
                    clear hown' hgrow hB1 hown
                    go_wp2
                    go_roundg g
                    case measure => omega
                    case rel => exact ⟨by go_num, HNEW.out⟩
          · have hdone : gk = 0 ∨ room ≤ W.length := by omega
            have HD := Lib.hid hdone
            by_cases h0 : gk = 0
            · subst h0
              clear hown hW hB hg hWr hdone hgo
              go_wp2_with fail
              go_meet
              exact Wants.done HO.out HWW.out HWR.out HB.out (.inl rfl)
            · have hr : room ≤ W.length := by omega
              have hg1 : 1 ≤ gk := by omega
              clear hown hW hB hg hWr hdone hgo h0
              go_wp2_with fail
              go_meet
              exact Wants.done HO.out HWW.out HWR.out HB.out HD.out
      case rest =>
        obtain ⟨W, hown, hW, hBT⟩ := hcut
        obtain ⟨L, st, hK, hL, he, -, -, hBS⟩ := HP.out
        have hLW : L.map (·.1) = W := by
          have h60 := dd_length ks.reverse
          rw [List.length_reverse, ← Hn.out] at h60
          rw [hL, hW, Hn.out, List.take_length]
          by_cases hr : room ≤ 4096
          · rw [show N.toNat = room.toNat by have := HN.out; omega]
          · rw [List.take_of_length_le (by have := HN.out; omega), List.take_of_length_le (by omega)]
        have hLl : L.length = W.length := by rw [← hLW, List.length_map]
        have hlt : ∀ b ∈ c :: r :: blocks L, b < T := fun b hb => by
          rw [HT.out]
          exact hK.lt b (by simp only [List.mem_cons] at hb ⊢; rcases hb with hb | hb | hb; exact .inl hb; exact .inr (.inr (.inl hb)); exact .inr (.inr (.inr hb)))
        have hKc := hK.stay (by rw [← HT.out]; exact hBT)
        have hW60 : W.length ≤ 60 := by
          have h60 := dd_length ks.reverse
          rw [List.length_reverse, ← Hn.out] at h60
          rw [hW, List.length_take]
          omega
        have hszW : ∀ k ∈ W, k.size ≤ maxLen := fun k hk => by
          rw [hW] at hk
          exact HZ.out k (by simpa using dd_mem.1 (List.mem_of_mem_take hk))
        have hTs : T ≤ wc.heap.size := by rw [HT.out]; exact hBT.size
        have HK := Lib.hid hKc
        have HBC := Lib.hid (hBS.trans (hBT.mono (by rw [HT.out]; have := hBS.size; rw [← HS.out] at this; exact this)))
        have HLW := Lib.hid hLW
        have HLl := Lib.hid hLl
        have HLT := Lib.hid hlt
        have HSZ := Lib.hid hszW
        have HE := Lib.hid he
        have HO := Lib.hid hown
        have hlenW := fun ty w' => len_of hown ty w'
        clear hown hW hBT hK hL he hBS hLW hLl hlt hKc hszW
        go_wp2_with fail
        refine (keys_any HK.out (by rw [HLl.out]; omega)).mono ?_
        rintro e w2 ⟨v2, rfl, hown2, hB2⟩
        have hown3 : w2.ownsRow T 9 1 v2 W.length (texts W) := by
          have e1 : strs L = texts W := by rw [← HLW.out]; simp [Function.comp_def]
          rw [e1, HLl.out] at hown2
          refine ⟨hown2.1, hown2.2.imp_right ?_⟩
          rintro ⟨g, cap, cur, a1, a2, a3⟩
          exact ⟨g, cap, cur, a1, Nat.le_trans hTs a2, a3⟩
        have h3 : Third w S T c m r N st L W u7 v2 0 w2 := by
          refine ⟨⟨L, List.Perm.refl _, HK.out.stay hB2⟩, HBC.out.trans (hB2.mono (by have := HBC.out.size; rw [← HS.out] at this; exact this)), ?_, hown3⟩
          have hO := HO.out
          refine ⟨hO.1, hO.2.imp_right ?_⟩
          rintro ⟨g, cap, cur, a1, a2, a3, a4⟩
          exact ⟨g, cap, cur, a1, a2, (hB2.block g (Array.getElem?_eq_some_iff.1 a3).1).trans a3, a4⟩
        have hlen2 := fun ty w' => len_of hown3 ty w'
        have H3 := Lib.hid h3
        have HO3 := Lib.hid hown3
        clear hown2 hB2 hown3 h3
        by_cases hW0 : W.length = 0
        · rw [hW0] at hlenW hlen2
          clear hW0
          go_wp2_with fail
          go_loopw [12] (fun i wx => i = .int .i64 0 ∧ w2 = wx) (fun _ _ => 0)
          case atStart => exact ⟨rfl, rfl⟩
          case round =>
            obtain ⟨rfl, rfl⟩ := hrel
            go_wp2_with fail
            refine (works_any _).mono ?_
            rintro e w3 ⟨rfl, hB3⟩
            have HB3 := Lib.hid (H3.out.2.1.trans (hB3.mono (by have := H3.out.2.1.size; rw [← HS.out] at this; exact this)))
            clear hB3
            go_wp2
            go_ret
            exact ⟨rfl, HB3.out⟩
        · obtain ⟨G1, cp1, rfl⟩ := owns_shape HO.out (by omega)
          obtain ⟨G2, cp2, rfl⟩ := owns_shape HO3.out (by omega)
          clear hW0
          go_wp2_with fail
          go_loopw [12] (fun i wx => ∃ q : Nat, q ≤ W.length ∧ i = .int .i64 q ∧ Third w S T c m r N st L W (.slice (some ⟨G1, 0, none⟩) W.length cp1) (.slice (some ⟨G2, 0, none⟩) W.length cp2) q wx) (fun i _ => W.length - (intOf i).toNat)
          case atStart => exact ⟨0, by omega, rfl, H3.out⟩
          case round =>
            obtain ⟨q, hq, rfl, hT3⟩ := hrel
            have HT3 := Lib.hid hT3
            clear hT3
            by_cases hlt : q < W.length
            · obtain ⟨k, hk⟩ : ∃ k, W[q]? = some k := ⟨W[q], List.getElem?_eq_getElem _⟩
              have HKQ := Lib.hid hk
              have cellOf : ∀ wx, Third w S T c m r N st L W (.slice (some ⟨G1, 0, none⟩) W.length cp1) (.slice (some ⟨G2, 0, none⟩) W.length cp2) (q + 1) wx ∨ wx = wr → wx.cell? ⟨G1, q, none⟩ = some (.string k) ∧ wx.cell? ⟨G2, q, none⟩ = some (.string k) := by
                intro wx hx
                have hr : wx.ownsRow T 9 1 (.slice (some ⟨G1, 0, none⟩) W.length cp1) W.length (texts W) ∧ wx.ownsRow T 9 1 (.slice (some ⟨G2, 0, none⟩) W.length cp2) W.length (texts W) := by
                  rcases hx with hx | rfl
                  · exact hx.2.2
                  · exact HT3.out.2.2
                refine ⟨?_, ?_⟩
                · rw [hr.1.cellAt q (by omega)]; simp [hk]
                · rw [hr.2.cellAt q (by omega)]; simp [hk]
              have g2 := (cellOf wr (.inr rfl)).2
              have HCO := Lib.hid cellOf
              clear hk cellOf
              go_wp2_with fail
              refine (HT3.out.get HLT.out HLW.out HSZ.out (by omega) HKQ.out).mono ?_
              rintro e w3 ⟨⟨y, hy, hyk, rfl⟩, hT4⟩
              obtain ⟨i, hij, hyi, hki⟩ := HE.out y hy
              rw [hyi]
              have g1 := (HCO.out w3 (.inl hT4)).1
              have g3 := (HCO.out w3 (.inl hT4)).2
              have g4 : w3.cell? ⟨b, off + i, none⟩ = some (.string k) := by
                rw [hyk] at hki
                exact (HC.out.below hT4.2.1 hb) i k hki
              have HT4 := Lib.hid hT4
              clear hT4 hy hyk hyi hki g2
              rcases Nat.eq_zero_or_pos i with rfl | hi0
              · have g5 : w3.cell? ⟨b, off, none⟩ = some (.string k) := g4
                clear g4
                go_wp2_with fail
                go_quiet (fail)
                go_wp2
                go_roundw
                case rel => exact ⟨q + 1, by omega, by go_num, HT4.out.like (by exact ⟨rfl, rfl, rfl, rfl⟩)⟩
                case measure => simp [intOf]; omega
              · skip
                go_wp2_with fail
                go_quiet (fail)
                go_wp2
                go_roundw
                case rel => exact ⟨q + 1, by omega, by go_num, HT4.out.like (by exact ⟨rfl, rfl, rfl, rfl⟩)⟩
                case measure => simp [intOf]; omega
            · obtain rfl : q = W.length := by omega
              go_wp2_with fail
              refine (works_any _).mono ?_
              rintro e w3 ⟨rfl, hB3⟩
              have HB3 := Lib.hid (HT3.out.2.1.trans (hB3.mono (by have := HT3.out.2.1.size; rw [← HS.out] at this; exact this)))
              clear hB3
              go_wp2
              go_ret
              exact ⟨rfl, HB3.out⟩

end Go.Proofs.Ytfcdmkfbkkogbab.Cache
