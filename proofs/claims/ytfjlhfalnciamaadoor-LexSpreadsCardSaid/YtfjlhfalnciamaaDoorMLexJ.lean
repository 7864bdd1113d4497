/- Package texts, merged: LexJ, LexK, LexL, LexM. -/
import Derived.Test.YtfjlhfalnciamaaDoorMUtf
import Derived.Deep.AppendLies
import Derived.Test.YtfjlhfalnciamaaDoorMLexE
import Derived.Shelf.Unicode.ValidAny

namespace Go.Proofs.YtfjlhfalnciamaaDoor.Items
open Go Go.RowKit
open Go.Proofs.YtfjlhfalnciamaaDoor.Utf

/-- An item: where, how many bytes, which sign, is it one. -/
structure It where
  a : Nat
  w : Nat
  r : Nat
  o : Bool
def It.cells (x : It) : List Value := [.int .i64 (x.a : Int), .int .i64 (x.w : Int), .int .i32 (x.r : Int), .bool x.o]
def itemAt (t : Txt) (p : Nat) : It := ⟨p, t.w p, t.r p, t.ok p⟩
def icells (L : List It) : List Value := L.flatMap It.cells
theorem icells_len (L : List It) : (icells L).length = L.length * 4 := by
  induction L with
  | nil => rfl
  | cons x r ih => simp only [icells, List.flatMap_cons, List.length_append] at ih ⊢; rw [ih]; simp [It.cells]; omega
theorem icells_append (L M : List It) : icells (L ++ M) = icells L ++ icells M := by simp [icells]
theorem icells_get {L : List It} {i : Nat} {x : It} (h : L[i]? = some x) {j : Nat} {u : Value} (hu : x.cells[j]? = some u) : (icells L)[4 * i + j]? = some u := by
  induction L generalizing i with
  | nil => cases h
  | cons y r ih =>
    have h4 : y.cells.length = 4 := rfl
    cases i with
    | zero =>
      simp at h; subst h
      have hj : j < 4 := by have := (List.getElem?_eq_some_iff.1 hu).1; exact this
      simp only [icells, List.flatMap_cons]
      rw [List.getElem?_append_left (by rw [h4]; omega), show 4 * 0 + j = j by omega]; exact hu
    | succ i =>
      simp at h
      have := ih h
      simp only [icells, List.flatMap_cons] at this ⊢
      rw [List.getElem?_append_right (by rw [h4]; omega), h4, show 4 * (i + 1) + j - 4 = 4 * i + j by omega]
      exact this
/-- A row of items that the call made. -/
def Rowed (w : World) (S : Nat) (v : Value) (L : List It) : Prop := w.ownsRow S 110 4 v L.length (icells L)
theorem Rowed.stay {w w' : World} {S : Nat} {v : Value} {L : List It} (h : Rowed w S v L) (hb : Below w.heap.size w w') : Rowed w' S v L := by
  refine ⟨h.1, ?_⟩
  rcases h.2 with h0 | ⟨g, cap, cur, e1, e2, e3, e4⟩
  · exact .inl h0
  · exact .inr ⟨g, cap, cur, e1, e2, (hb.block g (Array.getElem?_eq_some_iff.1 e3).1).trans e3, e4⟩
theorem Rowed.block_lt {w : World} {S : Nat} {v : Value} {L : List It} (h : Rowed w S v L) {g : Nat} (hg : v.ownBlock = some g) : g < w.heap.size := by
  rcases h.2 with ⟨rfl, _⟩ | ⟨g', cap, cur, rfl, _, e3, _⟩
  · cases hg
  · cases hg
    exact (Array.getElem?_eq_some_iff.1 e3).1
theorem Rowed.len {w : World} {S : Nat} {v : Value} {L : List It} (h : Rowed w S v L) (ty : TypeId) (w' : World) : (Builtin.len_ #[107] ty #[v]).run Tryd.prog w' = .ok (.int .i64 (L.length : Int)) w' := by
  rcases h.2 with ⟨rfl, h0⟩ | ⟨g, cap, cur, rfl, _⟩
  · rw [h0]; kernel_rfl
  · kernel_rfl
theorem addr_add (g n : Nat) : (⟨g, 0, none⟩ : Addr).add n = ⟨g, n, none⟩ := by
  by_cases h : n = 0
  · subst h; simp [Addr.add]
  · simp [Addr.add, h]
/-- A row that is not empty lies in a block; its cells. -/
theorem Rowed.at {w : World} {S : Nat} {v : Value} {L : List It} (h : Rowed w S v L) (hne : 0 < L.length) : ∃ g cap, v = .slice (some ⟨g, 0, none⟩) L.length cap ∧ L.length ≤ cap ∧ cap ≤ maxLen ∧ g < w.heap.size ∧ ∀ i x, L[i]? = some x → ∀ j u, x.cells[j]? = some u → w.cell? ⟨g, 4 * i + j, none⟩ = some u := by
  rcases h.2 with ⟨_, h0⟩ | ⟨g, cap, cur, hv, h1, h3, h4, h5, h6, h7⟩
  · omega
  · refine ⟨g, cap, hv, h4, h5, (Array.getElem?_eq_some_iff.1 h3).1, fun i x hx j u hu => ?_⟩
    have hc := World.ownsRow.cells h (g := g) (by rw [hv]; rfl) (4 * i + j) u (icells_get hx hu)
    rw [← addr_add]; exact hc
/-- The items of a text up to the k-th. -/
def itemsTo (t : Txt) (k : Nat) : List It := (List.range k).map fun j => itemAt t (t.pos j)
theorem itemsTo_succ (t : Txt) (k : Nat) : itemsTo t (k + 1) = itemsTo t k ++ [itemAt t (t.pos k)] := by simp [itemsTo, List.range_succ]
theorem itemsTo_len (t : Txt) (k : Nat) : (itemsTo t k).length = k := by simp [itemsTo]
theorem itemsTo_get {t : Txt} {k j : Nat} (h : j < k) : (itemsTo t k)[j]? = some (itemAt t (t.pos j)) := by
  simp [itemsTo, h]
noncomputable def items (t : Txt) : List It := itemsTo t t.cnt

theorem info110 : (Tryd.prog.info? 110).map (fun i => (i.zero, i.size, i.bytes)) = some (some (.agg #[.int .i64 0, .int .i64 0, .int .i32 0, .bool false]), 4, 24) := by kernel_rfl

set_option maxRecDepth 100000 in
theorem items_any (s : ByteArray) (W : World) (T : U8 W) (hs : s.size ≤ 1000000) :
    Calls Tryd.prog 59 #[.string s] W fun e w' => ∃ v, e = .returned v ∧ Rowed w' W.heap.size v (items (txt s)) ∧ Below W.heap.size W w' := by
  obtain ⟨i0, hi, hz0, hz1, hz2⟩ := info_parts info110
  obtain ⟨S, hS⟩ : ∃ S, S = W.heap.size := ⟨_, rfl⟩
  have HS := Lib.hid hS
  rw [← hS]
  have hsz : S ≤ W.heap.size := by omega
  have HT := Lib.hid T
  clear hS T
  go_enter Tryd.func59, Tryd.ntmps59
  go_wp2_with fail
  go_loopw [3, 4, 5] (fun v i x wx => ∃ k : Nat, k ≤ (txt s).cnt ∧ i = .int .i64 ((txt s).pos k : Int) ∧ Rowed wx S v (itemsTo (txt s) k) ∧ Below S W wx) (fun _ i _ _ => s.size - (intOf i).toNat)
  case atStart => exact ⟨0, Nat.zero_le _, rfl, ⟨rfl, .inl ⟨rfl, rfl⟩⟩, Below.refl _ _⟩
  case round =>
    obtain ⟨k, hk, rfl, hrow, hB⟩ := hrel
    have HR := Lib.hid hrow
    have HB := Lib.hid hB
    have hszr : S ≤ wr.heap.size := Nat.le_trans hsz hB.size
    have hn : (txt s).n = s.size := rfl
    have hpk : (txt s).pos k ≤ s.size := by
      rcases Nat.lt_or_eq_of_le hk with h | h
      · have := (txt s).pos_of_lt h; omega
      · rw [h, (txt s).pos_cnt, hn]; exact Nat.le_refl _
    by_cases hlt : k < (txt s).cnt
    · have hpl := (txt s).pos_of_lt hlt
      rw [hn] at hpl
      have HA := Lib.hid (at_in s ((txt s).pos k) wr (HT.out.stay (by rw [← HS.out]; exact hB)) hpl)
      have hw1 := (txt s).w_pos ((txt s).pos k)
      have hwn : (txt s).pos k + (txt s).w ((txt s).pos k) ≤ s.size := (txt s).w_in _ hpl
      have hps : (txt s).pos (k + 1) = (txt s).pos k + (txt s).w ((txt s).pos k) := rfl
      have HSU := Lib.hid (itemsTo_succ (txt s) k)
      have hLl := itemsTo_len (txt s) k
      have hkc := Nat.le_trans hk (txt s).cnt_le
      rw [hn] at hkc
      have hit : itemAt (txt s) ((txt s).pos k) = ⟨(txt s).pos k, (txt s).w ((txt s).pos k), (txt s).r ((txt s).pos k), (txt s).ok ((txt s).pos k)⟩ := rfl
      rw [hit] at HSU
      unfold itemV at HA
      obtain ⟨p, hp⟩ : ∃ x, (txt s).pos k = x := ⟨_, rfl⟩
      rw [hp] at HA hw1 hwn hps HSU hpl ⊢
      obtain ⟨w0, hw0⟩ : ∃ x, (txt s).w p = x := ⟨_, rfl⟩
      obtain ⟨r0, hr0⟩ : ∃ x, (txt s).r p = x := ⟨_, rfl⟩
      obtain ⟨o0, ho0⟩ : ∃ x, (txt s).ok p = x := ⟨_, rfl⟩
      obtain ⟨L, hL⟩ : ∃ L, itemsTo (txt s) k = L := ⟨_, rfl⟩
      rw [hw0, hr0, ho0] at HA HSU
      rw [hw0] at hw1 hwn hps
      rw [hL] at hLl HSU
      have hrow2 : Rowed wr S u3 L := by rw [← hL]; exact hrow
      have HR := Lib.hid hrow2
      have HPS := Lib.hid hps
      clear hrow hrow2 hB hit hp hw0 hr0 ho0 hL hps hpk hn
      go_wp2_with fail
      refine HA.out.mono ?_
      rintro e w1 ⟨rfl, hb1⟩
      have hsz1 : S ≤ w1.heap.size := Nat.le_trans hszr hb1.size
      have hszr1 := hb1.size
      have hown : w1.ownsRow S 110 4 u3 L.length (icells L) := HR.out.stay hb1
      have HB1 := Lib.hid (HB.out.trans (hb1.mono hszr))
      have hfar : ∀ q, w1.heap.size ≤ q → some q ≠ u3.ownBlock := fun q hq e => by
        have := (HR.out.stay hb1).block_lt e.symm; omega
      have HF := Lib.hid hfar
      have hL6 : L.length ≤ 1000000 := by omega
      clear hb1 HA HB hfar
      go_wp2_with (at_builtin; refine wpList_append_own _ rfl _ _ 107 rfl S 110 i0 (.agg #[.int .i64 0, .int .i64 0, .int .i32 0, .bool false]) 4 24 Tryd.underlying107 hi hz0 hz1 hz2 rfl (by decide) _ _ _ rfl ((hown.alloc _).alloc _) ⟨w1.heap.size + 1, 0, none⟩ 1 1 [.int .i64 (p : Int), .int .i64 (w0 : Int), .int .i32 (r0 : Int), .bool o0] rfl rfl ?c1 ?c2 ?c3 ?c4 ?c5 ?_)
      case c1 =>
        intro j u hj
        match j, hj with
        | 0, hj => simp at hj; subst hj; simp [Addr.add]
        | 1, hj => simp at hj; subst hj; simp [Addr.add]
        | 2, hj => simp at hj; subst hj; simp [Addr.add]
        | 3, hj => simp at hj; subst hj; simp [Addr.add]
      case c2 => intro u hu; simp at hu; rcases hu with rfl | rfl | rfl | rfl <;> rfl
      case c3 => unfold maxLen; omega
      case c4 => omega
      case c5 => simp; omega
      intro v' w2 hown' hgrow _
      have c1 : w2.cell? ⟨w1.heap.size, 1, none⟩ = some (.int .i64 (w0 : Int)) := (hgrow.cell_far _ (by simp; omega) (HF.out _ (Nat.le_refl _))).trans (by simp)
      have HR2 : Hid (Rowed w2 S v' (itemsTo (txt s) (k + 1))) := by
        rw [HSU.out]
        unfold Rowed
        rw [icells_append, List.length_append, hLl]
        exact hown'
      have HB2 : Hid (Below S W w2) := (((HB1.out.alloc hsz1 _).alloc (by simp; omega) _).grown hgrow (by simp; omega) fun k hk => (hown.lt k hk).1)
      clear hown' hgrow hown
      go_wp2
      go_roundw
      case rel => exact ⟨k + 1, by omega, by rw [HPS.out]; go_num, HR2.out, HB2.out⟩
      case measure => simp [intOf]; omega
    · obtain rfl : k = (txt s).cnt := by omega
      have hpe : (txt s).pos (txt s).cnt = s.size := by rw [(txt s).pos_cnt, hn]
      rw [hpe]
      clear hrow hB hpk hpe hlt hk
      go_wp2
      go_ret
      exact ⟨_, rfl, HR.out, HB.out⟩

end Go.Proofs.YtfjlhfalnciamaaDoor.Items

namespace Go.Proofs.YtfjlhfalnciamaaDoor.Lex
open Go Go.RowKit Go.Proofs.Chars
open Go.Proofs.YtfjlhfalnciamaaDoor.Utf Go.Proofs.YtfjlhfalnciamaaDoor.Chars

def esc1 : ByteArray := ⟨#[39]⟩
def quoteL : List Items.It → List UInt8
  | [] => []
  | x :: L => (if x.o = true then (signB (x.r : Int) esc1).data.toList else []) ++ quoteL L
theorem quoteL_snoc (L : List Items.It) (x : Items.It) : quoteL (L ++ [x]) = quoteL L ++ (if x.o = true then (signB (x.r : Int) esc1).data.toList else []) := by
  induction L with
  | nil => simp [quoteL]
  | cons y L ih => simp only [List.cons_append, quoteL, ih, List.append_assoc]
theorem kept_items {w w' : World} {S b : Nat} {v : Value} {L : List Items.It} (h : Items.Rowed w S v L) (hb : ∃ cs, w.heap[b]? = some (.cells cs 99 (0, 0))) (hk : Lib.OthersKept 5 (some b) w w') : Items.Rowed w' S v L := by
  refine ⟨h.1, ?_⟩
  rcases h.2 with h0 | ⟨g, cap, cur, e1, e2, e3, e4⟩
  · exact .inl h0
  · refine .inr ⟨g, cap, cur, e1, e2, hk g _ e3 (fun e => ?_) (fun c fz e => by cases e), e4⟩
    obtain ⟨cs, hb⟩ := hb
    have : g = b := Option.some.inj e
    subst this
    rw [hb] at e3
    cases e3
def Quoting (W : World) (v : Value) (L : List Items.It) (l : List UInt8) (wx : World) : Prop :=
  Lib.IsBuilder 99 5 W.heap.size W.heap.size (Lib.byteCells l) wx ∧ Items.Rowed wx W.heap.size v L ∧ Below W.heap.size W wx
theorem Quoting.stay {W wx w' : World} {v : Value} {L : List Items.It} {l : List UInt8} (h : Quoting W v L l wx) (hb : Below wx.heap.size wx w') : Quoting W v L l w' :=
  ⟨builder_stay h.1 hb, h.2.1.stay hb, h.2.2.trans (hb.mono h.2.2.size)⟩
theorem Quoting.wrote {W wx w' : World} {v : Value} {L : List Items.It} {l l' : List UInt8} (h : Quoting W v L l wx) (hn : Lib.BuilderAt 99 5 W.heap.size W.heap.size (.pointer (some ⟨W.heap.size, 0, none⟩)) (Lib.byteCells l') w')
    (hb : Below W.heap.size wx w') (hk : Lib.OthersKept 5 (some W.heap.size) wx w') : Quoting W v L l' w' :=
  ⟨.inr hn, kept_items h.2.1 (by
    rcases h.1 with ⟨_, v, hb, _⟩ | ⟨_, v, hb, _⟩
    · exact ⟨_, hb⟩
    · exact ⟨_, hb⟩) hk, h.2.2.trans hb⟩
theorem signB_len (r : Int) (hv : Lib.validRune r = true) (e : ByteArray) : (signB r e).data.toList.length ≤ 6 := by
  rw [← Lib.size_eq]; exact signB_size r hv e
noncomputable def quoteB (s : ByteArray) : List UInt8 := [39] ++ quoteL (Items.items (txt s)) ++ [39]

set_option maxHeartbeats 1000000 in
set_option maxRecDepth 100000 in
theorem quote_any (s : ByteArray) (hs : s.size ≤ 100000) (W : World) (T : GT W) : Calls Tryd.prog 34 #[.string s] W fun e w' => e = .returned (.string ⟨(quoteB s).toArray⟩) ∧ Below W.heap.size W w' := by
  unfold quoteB
  have hvo : ∀ x ∈ Items.items (txt s), x.o = true → Lib.validRune (x.r : Int) = true := fun x hx ho => by
    unfold Items.items Items.itemsTo at hx
    obtain ⟨j, _, rfl⟩ := List.mem_map.1 hx
    exact ok_sign _ _ ho
  have hlen : (Items.items (txt s)).length ≤ s.size := by
    unfold Items.items
    rw [Items.itemsTo_len]
    exact (txt s).cnt_le
  obtain ⟨L, hL⟩ : ∃ L, Items.items (txt s) = L := ⟨_, rfl⟩
  have HIT := fun w (h : U8 w) => Items.items_any s w h (by omega)
  rw [hL] at hvo hlen HIT ⊢
  obtain ⟨R, hR⟩ : ∃ R, [39] ++ quoteL L ++ [39] = R := ⟨_, rfl⟩
  rw [hR]
  have HR := Lib.hid hR
  clear hR
  have HVO := Lib.hid hvo
  have HIT := Lib.hid HIT
  have HT := Lib.hid T
  have hb0 : Below W.heap.size W (W.alloc B0) := (Below.refl _ _).alloc (Nat.le_refl _) _
  have HB0 := Lib.hid hb0
  have HW := Lib.hid (byte_any W.heap.size W.heap.size (Lib.byteCells []) 39 (W.alloc B0) (Lib.fresh_isBuilder 99 5 W) (by simp [Lib.byteCells]) hb0.size)
  clear hL hvo T hb0
  go_enter Tryd.func34, Tryd.ntmps34
  go_wp2_with fail
  refine HW.out.mono ?_
  rintro e w1 ⟨rfl, ⟨hbd, hb1⟩, hok⟩
  have HB1 := Lib.hid (HB0.out.trans hb1)
  have hbd' : Lib.BuilderAt 99 5 W.heap.size W.heap.size (.pointer (some ⟨W.heap.size, 0, none⟩)) (Lib.byteCells [39]) w1 := hbd
  have HBD := Lib.hid hbd'
  have hsz1 := HB1.out.size
  clear hbd hbd' hb1 hok HW
  go_wp2_with fail
  refine (HIT.out w1 (HT.out.stay HB1.out).1).mono ?_
  rintro e w2 ⟨v, rfl, hrow, hb2⟩
  have hlenv := hrow.len 3 w2
  have hQ : Quoting W v L [39] w2 := ⟨builder_stay (.inr HBD.out) hb2, (by
    refine ⟨hrow.1, ?_⟩
    rcases hrow.2 with h0 | ⟨g, cap, cur, e1, e2, e3⟩
    · exact .inl h0
    · exact .inr ⟨g, cap, cur, e1, Nat.le_trans hsz1 e2, e3⟩), HB1.out.trans (hb2.mono hsz1)⟩
  have HQ := Lib.hid hQ
  clear hrow hb2 hQ HIT HBD
  go_wp2_with fail
  go_loopw [5, 10] (fun x5 x10 wx => ∃ k : Nat, k ≤ L.length ∧ x10 = .int .i64 (k : Int) ∧ Quoting W v L ([39] ++ quoteL (L.take k)) wx) (fun _ x10 _ => L.length - (intOf x10).toNat)
  case atStart => exact ⟨0, Nat.zero_le _, rfl, by simpa [quoteL] using HQ.out⟩
  case round =>
    obtain ⟨k, hk, rfl, hq⟩ := hrel
    have HQ := Lib.hid hq
    have hszr : W.heap.size ≤ wr.heap.size := hq.2.2.size
    clear hq
    have hql : ([39] ++ quoteL (L.take k)).length ≤ 1 + 6 * k := by
      have key : ∀ M : List Items.It, (∀ x ∈ M, x.o = true → Lib.validRune (x.r : Int) = true) → (quoteL M).length ≤ 6 * M.length := fun M => by
        induction M with
        | nil => intro _; simp [quoteL]
        | cons y M ih =>
          intro hM
          have h1 := ih fun x hx => hM x (List.mem_cons_of_mem _ hx)
          simp only [quoteL, List.length_append, List.length_cons]
          by_cases ho : y.o = true
          · rw [if_pos ho]
            have := signB_len y.r (hM y List.mem_cons_self ho) esc1
            omega
          · rw [if_neg ho]
            simp only [List.length_nil]
            omega
      have h2 := key (L.take k) fun x hx => HVO.out x (List.mem_of_mem_take hx)
      have h3 : (L.take k).length ≤ k := by rw [List.length_take]; omega
      simp only [List.length_append, List.length_singleton]
      omega
    by_cases hlt : k < L.length
    · have g1 : (k : Int) < (L.length : Int) := by omega
      have g2 : decide ((k : Int) < (L.length : Int)) = true := decide_eq_true g1
      obtain ⟨x, hx⟩ : ∃ x, L[k]? = some x := ⟨L[k], List.getElem?_eq_getElem hlt⟩
      obtain ⟨g, cap, rfl, h31, h32, h33, hcell⟩ := Items.Rowed.at HQ.out.2.1 (by omega)
      have e0 := hcell k x hx 0 _ rfl
      have e1 := hcell k x hx 1 _ rfl
      have e2 := hcell k x hx 2 _ rfl
      have e3 := hcell k x hx 3 _ rfl
      rw [Nat.mul_comm 4 k] at e0 e1 e2 e3
      rw [Nat.add_zero] at e0
      have hst : quoteL (L.take (k + 1)) = quoteL (L.take k) ++ (if x.o = true then (signB (x.r : Int) esc1).data.toList else []) := by
        rw [List.take_add_one, hx]
        exact quoteL_snoc _ _
      have hvx := HVO.out x (List.mem_of_getElem? hx)
      obtain ⟨xa, xw, xr, xo⟩ := x
      simp only [] at e0 e1 e2 e3 hst hvx
      have hba : Below wr.heap.size wr (wr.alloc (.cells #[.int .i64 (xa : Int), .int .i64 (xw : Int), .int .i32 (xr : Int), .bool xo] 110)) := (Below.refl _ _).alloc (Nat.le_refl _) _
      have HQ2 := Lib.hid (HQ.out.stay hba)
      have HST := Lib.hid hst
      clear hcell hx hst hba HQ
      cases xo with
      | false =>
        have hst := HST.out
        rw [if_neg (by simp), List.append_nil] at hst
        have HQ3 : Hid (Quoting W (.slice (some ⟨g, 0, none⟩) L.length cap) L ([39] ++ quoteL (L.take (k + 1))) (wr.alloc (.cells #[.int .i64 (xa : Int), .int .i64 (xw : Int), .int .i32 (xr : Int), .bool false] 110))) := Lib.hid (by rw [hst]; exact HQ2.out)
        clear hst HST hvx HQ2
        go_wp2
        go_roundw
        case rel => exact ⟨k + 1, by omega, by go_num, HQ3.out⟩
        case measure => simp [intOf]; omega
      | true =>
        have hv := hvx rfl
        have hst := HST.out
        rw [if_pos rfl] at hst
        have hsl := signB_len (xr : Int) hv esc1
        obtain ⟨ll, hll⟩ : ∃ ll, [39] ++ quoteL (L.take k) = ll := ⟨_, rfl⟩
        rw [hll] at HQ2 hql
        have hst2 : [39] ++ quoteL (L.take (k + 1)) = ll ++ (signB (xr : Int) esc1).data.toList := by rw [hst, ← List.append_assoc, hll]
        have HS2 := Lib.hid hst2
        have hsz3 : W.heap.size ≤ (wr.alloc (.cells #[.int .i64 (xa : Int), .int .i64 (xw : Int), .int .i32 (xr : Int), .bool true] 110)).heap.size := by simp; omega
        have HSG := Lib.hid (sign_any (xr : Int) hv esc1 (by decide) (wr.alloc (.cells #[.int .i64 (xa : Int), .int .i64 (xw : Int), .int .i32 (xr : Int), .bool true] 110)) (HT.out.stay HQ2.out.2.2))
        obtain ⟨SB, hSB⟩ : ∃ SB, signB (xr : Int) esc1 = SB := ⟨_, rfl⟩
        rw [hSB] at HSG hsl HS2
        unfold esc1 at HSG
        clear hst hst2 HST hvx hv hll hSB
        go_wp2_with fail
        refine HSG.out.mono ?_
        rintro e w4 ⟨rfl, hb4⟩
        have HQ4 := Lib.hid (HQ2.out.stay hb4)
        have hsz4 := HQ4.out.2.2.size
        have HWR := Lib.hid (write_any W.heap.size W.heap.size (Lib.byteCells ll) SB w4 HQ4.out.1 (by rw [byteCells_nil, Lib.size_eq]; omega) hsz4)
        clear hb4 HSG HQ2
        go_wp2_with fail
        refine HWR.out.mono ?_
        rintro e w5 ⟨rfl, ⟨hbd, hb5⟩, hok⟩
        have HQ5 : Hid (Quoting W (.slice (some ⟨g, 0, none⟩) L.length cap) L ([39] ++ quoteL (L.take (k + 1))) w5) := Lib.hid (by rw [HS2.out]; exact HQ4.out.wrote (by rw [byteCells_app]; exact hbd) hb5 hok)
        clear hbd hb5 hok HWR HQ4
        go_wp2_with fail
        go_roundw
        case rel => exact ⟨k + 1, by omega, by go_num, HQ5.out⟩
        case measure => simp [intOf]; omega
    · have g1 : ¬ (k : Int) < (L.length : Int) := by omega
      have g2 : decide ((k : Int) < (L.length : Int)) = false := decide_eq_false g1
      have hkl : k = L.length := by omega
      rw [hkl, List.take_length] at HQ hql
      obtain ⟨ll, hll⟩ : ∃ ll, [39] ++ quoteL L = ll := ⟨_, rfl⟩
      have hR := HR.out
      rw [hll] at HQ hql hR
      subst hR
      clear HR
      have HWB := Lib.hid (byte_any W.heap.size W.heap.size (Lib.byteCells ll) 39 wr HQ.out.1 (by rw [byteCells_nil]; omega) hszr)
      clear hll hkl
      go_wp2_with fail
      refine HWB.out.mono ?_
      rintro e w4 ⟨rfl, ⟨hbd, hb4⟩, hok⟩
      have HQ4 : Hid (Quoting W v L (ll ++ [39]) w4) := Lib.hid (HQ.out.wrote (by rw [byteCells_app]; exact hbd) hb4 hok)
      have hsz4 := HQ4.out.2.2.size
      have HSTR := Lib.hid (Tryd.Builder_String_any W.heap.size W.heap.size (ll ++ [39]) w4 HQ4.out.1 hsz4)
      clear hbd hb4 hok HWB HQ
      go_wp2_with fail
      refine HSTR.out.mono ?_
      rintro e w5 ⟨rfl, hb5⟩
      have HB5 := Lib.hid (HQ4.out.2.2.trans hb5)
      clear hb5 HSTR HQ4
      go_wp2
      go_ret
      exact ⟨rfl, HB5.out⟩

end Go.Proofs.YtfjlhfalnciamaaDoor.Lex

namespace Go.Proofs.YtfjlhfalnciamaaDoor.Lex
open Go Go.RowKit Go.Proofs.Chars
open Go.Proofs.YtfjlhfalnciamaaDoor.Utf Go.Proofs.YtfjlhfalnciamaaDoor.Chars

def knownT : ByteArray := ⟨#[97, 58, 32, 39, 98, 39, 32, 59, 32, 47, 47, 32, 110, 111, 10]⟩
def knownL : List (Int × Nat × Nat × ByteArray) := [(2, 0, 1, ⟨#[97]⟩), (5, 1, 2, ⟨#[]⟩), (3, 3, 6, ⟨#[98]⟩), (7, 7, 8, ⟨#[]⟩), (0, 15, 15, ⟨#[]⟩)]
theorem known_all : allE knownT = .good knownL := by kernel_rfl
theorem known_cnt : (txt ⟨#[97, 39]⟩).cnt = 2 := Txt.cnt_of _ (by kernel_rfl)
theorem known_quote : quoteB ⟨#[97, 39]⟩ = [39, 97, 92, 39, 39] := by
  unfold quoteB Items.items
  rw [known_cnt]
  kernel_rfl
theorem known_toks {w : World} {S : Nat} {v : Value} {L : List Tk} (h : Toks w S v L) (hm : L.map keyT = knownL) : ∃ g cap, v = .slice (some ⟨g, 0, none⟩) 5 cap ∧
    w.cell? ⟨g, 0, none⟩ = some (.int .i64 2) ∧ w.cell? ⟨g, 10, none⟩ = some (.int .i64 3) ∧ w.cell? ⟨g, 13, none⟩ = some (.string ⟨#[98]⟩) ∧ w.cell? ⟨g, 20, none⟩ = some (.int .i64 0) ∧ w.cell? ⟨g, 21, none⟩ = some (.int .i64 15) ∧ g < w.heap.size := by
  have hlen : L.length = 5 := by
    have := congrArg List.length hm
    rw [List.length_map] at this
    exact this
  obtain ⟨x0, x1, x2, x3, x4, rfl⟩ : ∃ x0 x1 x2 x3 x4, L = [x0, x1, x2, x3, x4] := by
    match L, hlen with
    | [x0, x1, x2, x3, x4], _ => exact ⟨x0, x1, x2, x3, x4, rfl⟩
  obtain ⟨k0, a0, e0, t0, v0⟩ := x0
  obtain ⟨k1, a1, e1, t1, v1⟩ := x1
  obtain ⟨k2, a2, e2, t2, v2⟩ := x2
  obtain ⟨k3, a3, e3, t3, v3⟩ := x3
  obtain ⟨k4, a4, e4, t4, v4⟩ := x4
  simp [keyT, knownL] at hm
  obtain ⟨⟨rfl, rfl, rfl, rfl⟩, ⟨rfl, rfl, rfl, rfl⟩, ⟨rfl, rfl, rfl, rfl⟩, ⟨rfl, rfl, rfl, rfl⟩, rfl, rfl, rfl, rfl⟩ := hm
  have h' := h
  rcases h.2 with ⟨_, h0⟩ | ⟨g, cap, cur, hv, h1, h3, h4, h5, h6, h7⟩
  · cases h0
  · refine ⟨g, cap, hv, ?_⟩
    have hc : ∀ i u, (tcells [⟨2, 0, 1, ⟨#[97]⟩, v0⟩, ⟨5, 1, 2, ⟨#[]⟩, v1⟩, ⟨3, 3, 6, ⟨#[98]⟩, v2⟩, ⟨7, 7, 8, ⟨#[]⟩, v3⟩, ⟨0, 15, 15, ⟨#[]⟩, v4⟩])[i]? = some u → w.cell? ⟨g, i, none⟩ = some u := fun i u hi => by
      have := World.ownsRow.cells h' (g := g) (by rw [hv]; rfl) i u hi
      rw [addr_add] at this
      exact this
    exact ⟨hc 0 _ rfl, hc 10 _ rfl, hc 13 _ rfl, hc 20 _ rfl, hc 21 _ rfl, (Array.getElem?_eq_some_iff.1 h3).1⟩

set_option maxHeartbeats 1000000 in
set_option maxRecDepth 100000 in
theorem works_any (W : World) (T : GT W) : Calls Tryd.prog 33 #[] W fun e w' => e = .returned (.bool true) ∧ Below W.heap.size W w' := by
  have HA := Lib.hid (all_any knownT W T.1)
  rw [known_all] at HA
  unfold knownT at HA
  have HT := Lib.hid T
  clear T
  go_enter Tryd.func33, Tryd.ntmps33
  go_wp2_with fail
  refine HA.out.mono ?_
  rintro e w1 ⟨v, L, rfl, htk, hm, hb⟩
  obtain ⟨g, cap, rfl, c0, c10, c13, c20, c21, hg⟩ := known_toks htk hm
  have hba : Below w1.heap.size w1 (w1.alloc S0) := (Below.refl _ _).alloc (Nat.le_refl _) _
  have d0 := (hba.cell (p := ⟨g, 0, none⟩) hg).trans c0
  have d10 := (hba.cell (p := ⟨g, 10, none⟩) hg).trans c10
  have d13 := (hba.cell (p := ⟨g, 13, none⟩) hg).trans c13
  have d20 := (hba.cell (p := ⟨g, 20, none⟩) hg).trans c20
  have d21 := (hba.cell (p := ⟨g, 21, none⟩) hg).trans c21
  have HB := Lib.hid (hb.trans (hba.mono hb.size))
  have HQ := Lib.hid (quote_any ⟨#[97, 39]⟩ (by decide) (w1.alloc S0) (HT.out.stay HB.out))
  rw [known_quote] at HQ
  have hsz := HB.out.size
  clear htk hm hb hba c0 c10 c13 c20 c21 HA
  unfold stopV
  go_wp2_with fail
  refine HQ.out.mono ?_
  rintro e w2 ⟨rfl, hb2⟩
  have HB2 := Lib.hid (HB.out.trans (hb2.mono hsz))
  clear hb2 HQ
  go_wp2
  go_ret
  exact ⟨rfl, HB2.out⟩

set_option maxRecDepth 100000 in
theorem names_all {W : World} (s : ByteArray) (T : GT W) : Calls Tryd.prog 7 #[.string s] W fun e w' => e = .returned (.bool true) ∧ Below W.heap.size W w' := by
  by_cases hbig : 300 < s.size
  · have d1 : (300 : Int) < (s.size : Int) := by omega
    have d2 : decide ((300 : Int) < (s.size : Int)) = true := decide_eq_true d1
    clear T
    go_enter Tryd.func7, Tryd.ntmps7
    go_wp2
    go_ret
    exact ⟨rfl, Below.refl _ _⟩
  · have d1 : ¬ (300 : Int) < (s.size : Int) := by omega
    have d2 : decide ((300 : Int) < (s.size : Int)) = false := decide_eq_false d1
    have HN := Lib.hid (name_any s (by omega) W)
    have HR := Lib.hid (rname_any s W)
    have HW := Lib.hid (works_any W T)
    cases hn : nameB (txt s).b s.size with
    | false =>
      rw [hn] at HN HR
      rw [Bool.false_and] at HN
      clear hn T
      go_enter Tryd.func7, Tryd.ntmps7
      go_wp2_with (first
        | (go_at_call 31; refine HN.out.mono ?_; rintro e w' ⟨rfl, rfl⟩)
        | (go_at_call 32; refine HR.out.mono ?_; rintro e w' ⟨rfl, rfl⟩)
        | (go_at_call 33; refine HW.out.mono ?_; rintro e w' ⟨rfl, hb⟩))
      go_ret
      exact ⟨rfl, hb⟩
    | true =>
      rw [hn] at HN HR
      rw [Bool.true_and] at HN
      have his := (nameB_is _ _).1 hn
      have h00 : 0 < s.size := by omega
      have hb0 : (s[0]'h00).toNat = (txt s).b 0 := by rw [get_bang]; rfl
      have hle := his.2.2.1
      obtain ⟨c, hc⟩ : ∃ c, (txt s).b 0 = c := ⟨_, rfl⟩
      rw [hc] at HN hb0 hle
      have hu : upperN c = decide ((c : Int) ≤ 90) := by
        unfold letterN at hle
        unfold upperN at hle ⊢
        rw [Bool.or_eq_true, decide_eq_true_iff, decide_eq_true_iff] at hle
        by_cases h : c ≤ 90
        · rw [decide_eq_true (by omega), decide_eq_true (by omega)]
        · rw [decide_eq_false (by omega), decide_eq_false (by omega)]
      rw [hu] at HN
      clear hn T his hc hle hu
      by_cases h : (c : Int) ≤ 90
      · have e1 : decide ((c : Int) ≤ 90) = true := decide_eq_true h
        rw [e1] at HN
        go_enter Tryd.func7, Tryd.ntmps7
        go_wp2_with (first
          | (go_at_call 31; refine HN.out.mono ?_; rintro e w' ⟨rfl, rfl⟩)
          | (go_at_call 32; refine HR.out.mono ?_; rintro e w' ⟨rfl, rfl⟩)
          | (go_at_call 33; refine HW.out.mono ?_; rintro e w' ⟨rfl, hb⟩))
        go_ret
        exact ⟨rfl, hb⟩
      · have e1 : decide ((c : Int) ≤ 90) = false := decide_eq_false h
        rw [e1] at HN
        go_enter Tryd.func7, Tryd.ntmps7
        go_wp2_with (first
          | (go_at_call 31; refine HN.out.mono ?_; rintro e w' ⟨rfl, rfl⟩)
          | (go_at_call 32; refine HR.out.mono ?_; rintro e w' ⟨rfl, rfl⟩)
          | (go_at_call 33; refine HW.out.mono ?_; rintro e w' ⟨rfl, hb⟩))
        go_ret
        exact ⟨rfl, hb⟩

end Go.Proofs.YtfjlhfalnciamaaDoor.Lex

namespace Go.Proofs.YtfjlhfalnciamaaDoor.Utf
open Go Go.RowKit Go.Shelf

def lays196_ren : Go.Shelf.Ren := ⟨fun | 196 => 62 | 259 => 92 | n => n, fun | 9 => 9 | 4 => 4 | 3 => 3 | 5 => 5 | 12 => 12 | 119 => 140 | 0 => 0 | 46 => 130 | 139 => 143 | 138 => 142 | 53 => 166 | n => n, fun | 3 => 0 | 4 => 1 | n => n⟩
set_option maxRecDepth 100000 in
theorem lays196 : Go.Proofs.Lays.n196 Tryd.prog lays196_ren := {
  mixed := by kernel_rfl
  f196 := Tryd.func62.trans (congrArg some (by kernel_rfl))
  f259 := Tryd.func92.trans (congrArg some (by kernel_rfl))
  t0 := Tryd.underlying0
  a0 := Tryd.isAgg0
  z0 := Tryd.sizeOf0
  v0 := Tryd.zeroValue0
  t3 := Tryd.underlying3
  a3 := Tryd.isAgg3
  z3 := Tryd.sizeOf3
  v3 := Tryd.zeroValue3
  t4 := Tryd.underlying4
  a4 := Tryd.isAgg4
  z4 := Tryd.sizeOf4
  v4 := Tryd.zeroValue4
  t5 := Tryd.underlying5
  a5 := Tryd.isAgg5
  z5 := Tryd.sizeOf5
  v5 := Tryd.zeroValue5
  t9 := Tryd.underlying9
  a9 := Tryd.isAgg9
  z9 := Tryd.sizeOf9
  v9 := Tryd.zeroValue9
  t12 := Tryd.underlying12
  a12 := Tryd.isAgg12
  z12 := Tryd.sizeOf12
  v12 := Tryd.zeroValue12
  t46 := Tryd.underlying130
  a46 := Tryd.isAgg130
  z46 := Tryd.sizeOf130
  v46 := Tryd.zeroValue130
  t53 := Tryd.underlying166
  a53 := Tryd.isAgg166
  z53 := Tryd.sizeOf166
  v53 := Tryd.zeroValue166
  t119 := Tryd.underlying140
  a119 := Tryd.isAgg140
  z119 := Tryd.sizeOf140
  t138 := Tryd.underlying142
  a138 := Tryd.isAgg142
  z138 := Tryd.sizeOf142
  v138 := Tryd.zeroValue142
  t139 := Tryd.underlying143
  a139 := Tryd.isAgg143
  z139 := Tryd.sizeOf143
  v139 := Tryd.zeroValue143
  g3 := by kernel_rfl
  g4 := by kernel_rfl }
theorem utf8_ValidString (s : ByteArray) (w : World) (hs : s.size ≤ 9223372036854775807) (hT : Lib.Utf8Tabs 0 1 w) :
    Calls Tryd.prog 62 #[.string s] w fun e w' => e = .returned (.bool (Lib.validD s.data.toList)) ∧ Below w.heap.size w w' := Any.utf8_ValidString lays196 s w hs hT
def rightB (t : ByteArray) : Bool := Lib.validD t.data.toList
set_option maxRecDepth 100000 in
theorem right_any (s : ByteArray) (W : World) (T : U8 W) (hs : s.size ≤ 1000000) : Calls Tryd.prog 36 #[.string s] W fun e w' => e = .returned (.bool (rightB s)) ∧ Below W.heap.size W w' := by
  have HC := Lib.hid (utf8_ValidString s W (by omega) T)
  have hR : Lib.validD s.data.toList = rightB s := rfl
  rw [hR] at HC
  clear T hR
  go_enter Tryd.func36, Tryd.ntmps36
  go_wp2_with fail
  refine HC.out.mono ?_
  rintro e w1 ⟨rfl, hb⟩
  have HB := Lib.hid hb
  clear hb
  go_wp2
  go_ret
  exact ⟨rfl, HB.out⟩

end Go.Proofs.YtfjlhfalnciamaaDoor.Utf
