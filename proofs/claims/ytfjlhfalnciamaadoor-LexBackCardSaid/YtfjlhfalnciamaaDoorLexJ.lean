/- Items: rows of items in memory; Items, walked. -/
import Derived.Test.YtfjlhfalnciamaaDoorUtfF
import Derived.Test.YtfjlhfalnciamaaDoorUtfI
import Derived.Deep.AppendLies
namespace Go.Proofs.YtfjlhfalnciamaaDoor.Items
open Go Go.RowKit
open Go.Proofs.YtfjlhfalnciamaaDoor.Utf

/-- An item: where, how many bytes, which sign, is it one. -/
structure It where
  a : Nat
  w : Nat
  r : Nat
  o : Bool
def It.cells (x : It) : List Value := [.int .i64 (x.a : Int), .int .i64 (x.w : Int), .int .i32 (x.r : Int), .bool x.o]
def itemAt (t : Txt) (p : Nat) : It := ⟨p, t.w p, t.r p, t.ok p⟩
def icells (L : List It) : List Value := L.flatMap It.cells
theorem icells_len (L : List It) : (icells L).length = L.length * 4 := by
  induction L with
  | nil => rfl
  | cons x r ih => simp only [icells, List.flatMap_cons, List.length_append] at ih ⊢; rw [ih]; simp [It.cells]; omega
theorem icells_append (L M : List It) : icells (L ++ M) = icells L ++ icells M := by simp [icells]
theorem icells_get {L : List It} {i : Nat} {x : It} (h : L[i]? = some x) {j : Nat} {u : Value} (hu : x.cells[j]? = some u) : (icells L)[4 * i + j]? = some u := by
  induction L generalizing i with
  | nil => cases h
  | cons y r ih =>
    have h4 : y.cells.length = 4 := rfl
    cases i with
    | zero =>
      simp at h; subst h
      have hj : j < 4 := by have := (List.getElem?_eq_some_iff.1 hu).1; exact this
      simp only [icells, List.flatMap_cons]
      rw [List.getElem?_append_left (by rw [h4]; omega), show 4 * 0 + j = j by omega]; exact hu
    | succ i =>
      simp at h
      have := ih h
      simp only [icells, List.flatMap_cons] at this ⊢
      rw [List.getElem?_append_right (by rw [h4]; omega), h4, show 4 * (i + 1) + j - 4 = 4 * i + j by omega]
      exact this
/-- A row of items that the call made. -/
def Rowed (w : World) (S : Nat) (v : Value) (L : List It) : Prop := w.ownsRow S 110 4 v L.length (icells L)
theorem Rowed.stay {w w' : World} {S : Nat} {v : Value} {L : List It} (h : Rowed w S v L) (hb : Below w.heap.size w w') : Rowed w' S v L := by
  refine ⟨h.1, ?_⟩
  rcases h.2 with h0 | ⟨g, cap, cur, e1, e2, e3, e4⟩
  · exact .inl h0
  · exact .inr ⟨g, cap, cur, e1, e2, (hb.block g (Array.getElem?_eq_some_iff.1 e3).1).trans e3, e4⟩
theorem Rowed.block_lt {w : World} {S : Nat} {v : Value} {L : List It} (h : Rowed w S v L) {g : Nat} (hg : v.ownBlock = some g) : g < w.heap.size := by
  rcases h.2 with ⟨rfl, _⟩ | ⟨g', cap, cur, rfl, _, e3, _⟩
  · cases hg
  · cases hg
    exact (Array.getElem?_eq_some_iff.1 e3).1
theorem Rowed.len {w : World} {S : Nat} {v : Value} {L : List It} (h : Rowed w S v L) (ty : TypeId) (w' : World) : (Builtin.len_ #[107] ty #[v]).run Tryd.prog w' = .ok (.int .i64 (L.length : Int)) w' := by
  rcases h.2 with ⟨rfl, h0⟩ | ⟨g, cap, cur, rfl, _⟩
  · rw [h0]; kernel_rfl
  · kernel_rfl
theorem addr_add (g n : Nat) : (⟨g, 0, none⟩ : Addr).add n = ⟨g, n, none⟩ := by
  by_cases h : n = 0
  · subst h; simp [Addr.add]
  · simp [Addr.add, h]
/-- A row that is not empty lies in a block; its cells. -/
theorem Rowed.at {w : World} {S : Nat} {v : Value} {L : List It} (h : Rowed w S v L) (hne : 0 < L.length) : ∃ g cap, v = .slice (some ⟨g, 0, none⟩) L.length cap ∧ L.length ≤ cap ∧ cap ≤ maxLen ∧ g < w.heap.size ∧ ∀ i x, L[i]? = some x → ∀ j u, x.cells[j]? = some u → w.cell? ⟨g, 4 * i + j, none⟩ = some u := by
  rcases h.2 with ⟨_, h0⟩ | ⟨g, cap, cur, hv, h1, h3, h4, h5, h6, h7⟩
  · omega
  · refine ⟨g, cap, hv, h4, h5, (Array.getElem?_eq_some_iff.1 h3).1, fun i x hx j u hu => ?_⟩
    have hc := World.ownsRow.cells h (g := g) (by rw [hv]; rfl) (4 * i + j) u (icells_get hx hu)
    rw [← addr_add]; exact hc
/-- The items of a text up to the k-th. -/
def itemsTo (t : Txt) (k : Nat) : List It := (List.range k).map fun j => itemAt t (t.pos j)
theorem itemsTo_succ (t : Txt) (k : Nat) : itemsTo t (k + 1) = itemsTo t k ++ [itemAt t (t.pos k)] := by simp [itemsTo, List.range_succ]
theorem itemsTo_len (t : Txt) (k : Nat) : (itemsTo t k).length = k := by simp [itemsTo]
theorem itemsTo_get {t : Txt} {k j : Nat} (h : j < k) : (itemsTo t k)[j]? = some (itemAt t (t.pos j)) := by
  simp [itemsTo, h]
noncomputable def items (t : Txt) : List It := itemsTo t t.cnt

theorem info110 : (Tryd.prog.info? 110).map (fun i => (i.zero, i.size, i.bytes)) = some (some (.agg #[.int .i64 0, .int .i64 0, .int .i32 0, .bool false]), 4, 24) := by kernel_rfl

set_option maxRecDepth 100000 in
theorem items_any (s : ByteArray) (W : World) (T : U8 W) (hs : s.size ≤ 1000000) :
    Calls Tryd.prog 59 #[.string s] W fun e w' => ∃ v, e = .returned v ∧ Rowed w' W.heap.size v (items (txt s)) ∧ Below W.heap.size W w' := by
  obtain ⟨i0, hi, hz0, hz1, hz2⟩ := info_parts info110
  obtain ⟨S, hS⟩ : ∃ S, S = W.heap.size := ⟨_, rfl⟩
  have HS := Lib.hid hS
  rw [← hS]
  have hsz : S ≤ W.heap.size := by omega
  have HT := Lib.hid T
  clear hS T
  go_enter Tryd.func59, Tryd.ntmps59
  go_wp2_with fail
  go_loopw [3, 4, 5] (fun v i x wx => ∃ k : Nat, k ≤ (txt s).cnt ∧ i = .int .i64 ((txt s).pos k : Int) ∧ Rowed wx S v (itemsTo (txt s) k) ∧ Below S W wx) (fun _ i _ _ => s.size - (intOf i).toNat)
  case atStart => exact ⟨0, Nat.zero_le _, rfl, ⟨rfl, .inl ⟨rfl, rfl⟩⟩, Below.refl _ _⟩
  case round =>
    obtain ⟨k, hk, rfl, hrow, hB⟩ := hrel
    have HR := Lib.hid hrow
    have HB := Lib.hid hB
    have hszr : S ≤ wr.heap.size := Nat.le_trans hsz hB.size
    have hn : (txt s).n = s.size := rfl
    have hpk : (txt s).pos k ≤ s.size := by
      rcases Nat.lt_or_eq_of_le hk with h | h
      · have := (txt s).pos_of_lt h; omega
      · rw [h, (txt s).pos_cnt, hn]; exact Nat.le_refl _
    by_cases hlt : k < (txt s).cnt
    · have hpl := (txt s).pos_of_lt hlt
      rw [hn] at hpl
      have HA := Lib.hid (at_in s ((txt s).pos k) wr (HT.out.stay (by rw [← HS.out]; exact hB)) hpl)
      have hw1 := (txt s).w_pos ((txt s).pos k)
      have hwn : (txt s).pos k + (txt s).w ((txt s).pos k) ≤ s.size := (txt s).w_in _ hpl
      have hps : (txt s).pos (k + 1) = (txt s).pos k + (txt s).w ((txt s).pos k) := rfl
      have HSU := Lib.hid (itemsTo_succ (txt s) k)
      have hLl := itemsTo_len (txt s) k
      have hkc := Nat.le_trans hk (txt s).cnt_le
      rw [hn] at hkc
      have hit : itemAt (txt s) ((txt s).pos k) = ⟨(txt s).pos k, (txt s).w ((txt s).pos k), (txt s).r ((txt s).pos k), (txt s).ok ((txt s).pos k)⟩ := rfl
      rw [hit] at HSU
      unfold itemV at HA
      obtain ⟨p, hp⟩ : ∃ x, (txt s).pos k = x := ⟨_, rfl⟩
      rw [hp] at HA hw1 hwn hps HSU hpl ⊢
      obtain ⟨w0, hw0⟩ : ∃ x, (txt s).w p = x := ⟨_, rfl⟩
      obtain ⟨r0, hr0⟩ : ∃ x, (txt s).r p = x := ⟨_, rfl⟩
      obtain ⟨o0, ho0⟩ : ∃ x, (txt s).ok p = x := ⟨_, rfl⟩
      obtain ⟨L, hL⟩ : ∃ L, itemsTo (txt s) k = L := ⟨_, rfl⟩
      rw [hw0, hr0, ho0] at HA HSU
      rw [hw0] at hw1 hwn hps
      rw [hL] at hLl HSU
      have hrow2 : Rowed wr S u3 L := by rw [← hL]; exact hrow
      have HR := Lib.hid hrow2
      have HPS := Lib.hid hps
      clear hrow hrow2 hB hit hp hw0 hr0 ho0 hL hps hpk hn
      go_wp2_with fail
      refine HA.out.mono ?_
      rintro e w1 ⟨rfl, hb1⟩
      have hsz1 : S ≤ w1.heap.size := Nat.le_trans hszr hb1.size
      have hszr1 := hb1.size
      have hown : w1.ownsRow S 110 4 u3 L.length (icells L) := HR.out.stay hb1
      have HB1 := Lib.hid (HB.out.trans (hb1.mono hszr))
      have hfar : ∀ q, w1.heap.size ≤ q → some q ≠ u3.ownBlock := fun q hq e => by
        have := (HR.out.stay hb1).block_lt e.symm; omega
      have HF := Lib.hid hfar
      have hL6 : L.length ≤ 1000000 := by omega
      clear hb1 HA HB hfar
      go_wp2_with (at_builtin; refine wpList_append_own _ rfl _ _ 107 rfl S 110 i0 (.agg #[.int .i64 0, .int .i64 0, .int .i32 0, .bool false]) 4 24 Tryd.underlying107 hi hz0 hz1 hz2 rfl (by decide) _ _ _ rfl ((hown.alloc _).alloc _) ⟨w1.heap.size + 1, 0, none⟩ 1 1 [.int .i64 (p : Int), .int .i64 (w0 : Int), .int .i32 (r0 : Int), .bool o0] rfl rfl ?c1 ?c2 ?c3 ?c4 ?c5 ?_)
      case c1 =>
        intro j u hj
        match j, hj with
        | 0, hj => simp at hj; subst hj; simp [Addr.add]
        | 1, hj => simp at hj; subst hj; simp [Addr.add]
        | 2, hj => simp at hj; subst hj; simp [Addr.add]
        | 3, hj => simp at hj; subst hj; simp [Addr.add]
      case c2 => intro u hu; simp at hu; rcases hu with rfl | rfl | rfl | rfl <;> rfl
      case c3 => unfold maxLen; omega
      case c4 => omega
      case c5 => simp; omega
      intro v' w2 hown' hgrow _
      have c1 : w2.cell? ⟨w1.heap.size, 1, none⟩ = some (.int .i64 (w0 : Int)) := (hgrow.cell_far _ (by simp; omega) (HF.out _ (Nat.le_refl _))).trans (by simp)
      have HR2 : Hid (Rowed w2 S v' (itemsTo (txt s) (k + 1))) := by
        rw [HSU.out]
        unfold Rowed
        rw [icells_append, List.length_append, hLl]
        exact hown'
      have HB2 : Hid (Below S W w2) := (((HB1.out.alloc hsz1 _).alloc (by simp; omega) _).grown hgrow (by simp; omega) fun k hk => (hown.lt k hk).1)
      clear hown' hgrow hown
      go_wp2
      go_roundw
      case rel => exact ⟨k + 1, by omega, by rw [HPS.out]; go_num, HR2.out, HB2.out⟩
      case measure => simp [intOf]; omega
    · obtain rfl : k = (txt s).cnt := by omega
      have hpe : (txt s).pos (txt s).cnt = s.size := by rw [(txt s).pos_cnt, hn]
      rw [hpe]
      clear hrow hB hpk hpe hlt hk
      go_wp2
      go_ret
      exact ⟨_, rfl, HR.out, HB.out⟩

end Go.Proofs.YtfjlhfalnciamaaDoor.Items
