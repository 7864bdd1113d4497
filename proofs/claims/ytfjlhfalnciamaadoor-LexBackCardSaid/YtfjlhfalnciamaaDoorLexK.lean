/- How a literal stands in a grammar's text (Quote), walked. -/
import Derived.Test.YtfjlhfalnciamaaDoorLexJ
import Derived.Test.YtfjlhfalnciamaaDoorLexI
namespace Go.Proofs.YtfjlhfalnciamaaDoor.Lex
open Go Go.RowKit Go.Proofs.Chars
open Go.Proofs.YtfjlhfalnciamaaDoor.Utf Go.Proofs.YtfjlhfalnciamaaDoor.Chars

def esc1 : ByteArray := ⟨#[39]⟩
def quoteL : List Items.It → List UInt8
  | [] => []
  | x :: L => (if x.o = true then (signB (x.r : Int) esc1).data.toList else []) ++ quoteL L
theorem quoteL_snoc (L : List Items.It) (x : Items.It) : quoteL (L ++ [x]) = quoteL L ++ (if x.o = true then (signB (x.r : Int) esc1).data.toList else []) := by
  induction L with
  | nil => simp [quoteL]
  | cons y L ih => simp only [List.cons_append, quoteL, ih, List.append_assoc]
theorem kept_items {w w' : World} {S b : Nat} {v : Value} {L : List Items.It} (h : Items.Rowed w S v L) (hb : ∃ cs, w.heap[b]? = some (.cells cs 99 (0, 0))) (hk : Lib.OthersKept 5 (some b) w w') : Items.Rowed w' S v L := by
  refine ⟨h.1, ?_⟩
  rcases h.2 with h0 | ⟨g, cap, cur, e1, e2, e3, e4⟩
  · exact .inl h0
  · refine .inr ⟨g, cap, cur, e1, e2, hk g _ e3 (fun e => ?_) (fun c fz e => by cases e), e4⟩
    obtain ⟨cs, hb⟩ := hb
    have : g = b := Option.some.inj e
    subst this
    rw [hb] at e3
    cases e3
def Quoting (W : World) (v : Value) (L : List Items.It) (l : List UInt8) (wx : World) : Prop :=
  Lib.IsBuilder 99 5 W.heap.size W.heap.size (Lib.byteCells l) wx ∧ Items.Rowed wx W.heap.size v L ∧ Below W.heap.size W wx
theorem Quoting.stay {W wx w' : World} {v : Value} {L : List Items.It} {l : List UInt8} (h : Quoting W v L l wx) (hb : Below wx.heap.size wx w') : Quoting W v L l w' :=
  ⟨builder_stay h.1 hb, h.2.1.stay hb, h.2.2.trans (hb.mono h.2.2.size)⟩
theorem Quoting.wrote {W wx w' : World} {v : Value} {L : List Items.It} {l l' : List UInt8} (h : Quoting W v L l wx) (hn : Lib.BuilderAt 99 5 W.heap.size W.heap.size (.pointer (some ⟨W.heap.size, 0, none⟩)) (Lib.byteCells l') w')
    (hb : Below W.heap.size wx w') (hk : Lib.OthersKept 5 (some W.heap.size) wx w') : Quoting W v L l' w' :=
  ⟨.inr hn, kept_items h.2.1 (by
    rcases h.1 with ⟨_, v, hb, _⟩ | ⟨_, v, hb, _⟩
    · exact ⟨_, hb⟩
    · exact ⟨_, hb⟩) hk, h.2.2.trans hb⟩
theorem signB_len (r : Int) (hv : Lib.validRune r = true) (e : ByteArray) : (signB r e).data.toList.length ≤ 6 := by
  rw [← Lib.size_eq]; exact signB_size r hv e
noncomputable def quoteB (s : ByteArray) : List UInt8 := [39] ++ quoteL (Items.items (txt s)) ++ [39]

set_option maxHeartbeats 1000000 in
set_option maxRecDepth 100000 in
theorem quote_any (s : ByteArray) (hs : s.size ≤ 100000) (W : World) (T : GT W) : Calls Tryd.prog 34 #[.string s] W fun e w' => e = .returned (.string ⟨(quoteB s).toArray⟩) ∧ Below W.heap.size W w' := by
  unfold quoteB
  have hvo : ∀ x ∈ Items.items (txt s), x.o = true → Lib.validRune (x.r : Int) = true := fun x hx ho => by
    unfold Items.items Items.itemsTo at hx
    obtain ⟨j, _, rfl⟩ := List.mem_map.1 hx
    exact ok_sign _ _ ho
  have hlen : (Items.items (txt s)).length ≤ s.size := by
    unfold Items.items
    rw [Items.itemsTo_len]
    exact (txt s).cnt_le
  obtain ⟨L, hL⟩ : ∃ L, Items.items (txt s) = L := ⟨_, rfl⟩
  have HIT := fun w (h : U8 w) => Items.items_any s w h (by omega)
  rw [hL] at hvo hlen HIT ⊢
  obtain ⟨R, hR⟩ : ∃ R, [39] ++ quoteL L ++ [39] = R := ⟨_, rfl⟩
  rw [hR]
  have HR := Lib.hid hR
  clear hR
  have HVO := Lib.hid hvo
  have HIT := Lib.hid HIT
  have HT := Lib.hid T
  have hb0 : Below W.heap.size W (W.alloc B0) := (Below.refl _ _).alloc (Nat.le_refl _) _
  have HB0 := Lib.hid hb0
  have HW := Lib.hid (byte_any W.heap.size W.heap.size (Lib.byteCells []) 39 (W.alloc B0) (Lib.fresh_isBuilder 99 5 W) (by simp [Lib.byteCells]) hb0.size)
  clear hL hvo T hb0
  go_enter Tryd.func34, Tryd.ntmps34
  go_wp2_with fail
  refine HW.out.mono ?_
  rintro e w1 ⟨rfl, ⟨hbd, hb1⟩, hok⟩
  have HB1 := Lib.hid (HB0.out.trans hb1)
  have hbd' : Lib.BuilderAt 99 5 W.heap.size W.heap.size (.pointer (some ⟨W.heap.size, 0, none⟩)) (Lib.byteCells [39]) w1 := hbd
  have HBD := Lib.hid hbd'
  have hsz1 := HB1.out.size
  clear hbd hbd' hb1 hok HW
  go_wp2_with fail
  refine (HIT.out w1 (HT.out.stay HB1.out).1).mono ?_
  rintro e w2 ⟨v, rfl, hrow, hb2⟩
  have hlenv := hrow.len 3 w2
  have hQ : Quoting W v L [39] w2 := ⟨builder_stay (.inr HBD.out) hb2, (by
    refine ⟨hrow.1, ?_⟩
    rcases hrow.2 with h0 | ⟨g, cap, cur, e1, e2, e3⟩
    · exact .inl h0
    · exact .inr ⟨g, cap, cur, e1, Nat.le_trans hsz1 e2, e3⟩), HB1.out.trans (hb2.mono hsz1)⟩
  have HQ := Lib.hid hQ
  clear hrow hb2 hQ HIT HBD
  go_wp2_with fail
  go_loopw [5, 10] (fun x5 x10 wx => ∃ k : Nat, k ≤ L.length ∧ x10 = .int .i64 (k : Int) ∧ Quoting W v L ([39] ++ quoteL (L.take k)) wx) (fun _ x10 _ => L.length - (intOf x10).toNat)
  case atStart => exact ⟨0, Nat.zero_le _, rfl, by simpa [quoteL] using HQ.out⟩
  case round =>
    obtain ⟨k, hk, rfl, hq⟩ := hrel
    have HQ := Lib.hid hq
    have hszr : W.heap.size ≤ wr.heap.size := hq.2.2.size
    clear hq
    have hql : ([39] ++ quoteL (L.take k)).length ≤ 1 + 6 * k := by
      have key : ∀ M : List Items.It, (∀ x ∈ M, x.o = true → Lib.validRune (x.r : Int) = true) → (quoteL M).length ≤ 6 * M.length := fun M => by
        induction M with
        | nil => intro _; simp [quoteL]
        | cons y M ih =>
          intro hM
          have h1 := ih fun x hx => hM x (List.mem_cons_of_mem _ hx)
          simp only [quoteL, List.length_append, List.length_cons]
          by_cases ho : y.o = true
          · rw [if_pos ho]
            have := signB_len y.r (hM y List.mem_cons_self ho) esc1
            omega
          · rw [if_neg ho]
            simp only [List.length_nil]
            omega
      have h2 := key (L.take k) fun x hx => HVO.out x (List.mem_of_mem_take hx)
      have h3 : (L.take k).length ≤ k := by rw [List.length_take]; omega
      simp only [List.length_append, List.length_singleton]
      omega
    by_cases hlt : k < L.length
    · have g1 : (k : Int) < (L.length : Int) := by omega
      have g2 : decide ((k : Int) < (L.length : Int)) = true := decide_eq_true g1
      obtain ⟨x, hx⟩ : ∃ x, L[k]? = some x := ⟨L[k], List.getElem?_eq_getElem hlt⟩
      obtain ⟨g, cap, rfl, h31, h32, h33, hcell⟩ := Items.Rowed.at HQ.out.2.1 (by omega)
      have e0 := hcell k x hx 0 _ rfl
      have e1 := hcell k x hx 1 _ rfl
      have e2 := hcell k x hx 2 _ rfl
      have e3 := hcell k x hx 3 _ rfl
      rw [Nat.mul_comm 4 k] at e0 e1 e2 e3
      rw [Nat.add_zero] at e0
      have hst : quoteL (L.take (k + 1)) = quoteL (L.take k) ++ (if x.o = true then (signB (x.r : Int) esc1).data.toList else []) := by
        rw [List.take_add_one, hx]
        exact quoteL_snoc _ _
      have hvx := HVO.out x (List.mem_of_getElem? hx)
      obtain ⟨xa, xw, xr, xo⟩ := x
      simp only [] at e0 e1 e2 e3 hst hvx
      have hba : Below wr.heap.size wr (wr.alloc (.cells #[.int .i64 (xa : Int), .int .i64 (xw : Int), .int .i32 (xr : Int), .bool xo] 110)) := (Below.refl _ _).alloc (Nat.le_refl _) _
      have HQ2 := Lib.hid (HQ.out.stay hba)
      have HST := Lib.hid hst
      clear hcell hx hst hba HQ
      cases xo with
      | false =>
        have hst := HST.out
        rw [if_neg (by simp), List.append_nil] at hst
        have HQ3 : Hid (Quoting W (.slice (some ⟨g, 0, none⟩) L.length cap) L ([39] ++ quoteL (L.take (k + 1))) (wr.alloc (.cells #[.int .i64 (xa : Int), .int .i64 (xw : Int), .int .i32 (xr : Int), .bool false] 110))) := Lib.hid (by rw [hst]; exact HQ2.out)
        clear hst HST hvx HQ2
        go_wp2
        go_roundw
        case rel => exact ⟨k + 1, by omega, by go_num, HQ3.out⟩
        case measure => simp [intOf]; omega
      | true =>
        have hv := hvx rfl
        have hst := HST.out
        rw [if_pos rfl] at hst
        have hsl := signB_len (xr : Int) hv esc1
        obtain ⟨ll, hll⟩ : ∃ ll, [39] ++ quoteL (L.take k) = ll := ⟨_, rfl⟩
        rw [hll] at HQ2 hql
        have hst2 : [39] ++ quoteL (L.take (k + 1)) = ll ++ (signB (xr : Int) esc1).data.toList := by rw [hst, ← List.append_assoc, hll]
        have HS2 := Lib.hid hst2
        have hsz3 : W.heap.size ≤ (wr.alloc (.cells #[.int .i64 (xa : Int), .int .i64 (xw : Int), .int .i32 (xr : Int), .bool true] 110)).heap.size := by simp; omega
        have HSG := Lib.hid (sign_any (xr : Int) hv esc1 (by decide) (wr.alloc (.cells #[.int .i64 (xa : Int), .int .i64 (xw : Int), .int .i32 (xr : Int), .bool true] 110)) (HT.out.stay HQ2.out.2.2))
        obtain ⟨SB, hSB⟩ : ∃ SB, signB (xr : Int) esc1 = SB := ⟨_, rfl⟩
        rw [hSB] at HSG hsl HS2
        unfold esc1 at HSG
        clear hst hst2 HST hvx hv hll hSB
        go_wp2_with fail
        refine HSG.out.mono ?_
        rintro e w4 ⟨rfl, hb4⟩
        have HQ4 := Lib.hid (HQ2.out.stay hb4)
        have hsz4 := HQ4.out.2.2.size
        have HWR := Lib.hid (write_any W.heap.size W.heap.size (Lib.byteCells ll) SB w4 HQ4.out.1 (by rw [byteCells_nil, Lib.size_eq]; omega) hsz4)
        clear hb4 HSG HQ2
        go_wp2_with fail
        refine HWR.out.mono ?_
        rintro e w5 ⟨rfl, ⟨hbd, hb5⟩, hok⟩
        have HQ5 : Hid (Quoting W (.slice (some ⟨g, 0, none⟩) L.length cap) L ([39] ++ quoteL (L.take (k + 1))) w5) := Lib.hid (by rw [HS2.out]; exact HQ4.out.wrote (by rw [byteCells_app]; exact hbd) hb5 hok)
        clear hbd hb5 hok HWR HQ4
        go_wp2_with fail
        go_roundw
        case rel => exact ⟨k + 1, by omega, by go_num, HQ5.out⟩
        case measure => simp [intOf]; omega
    · have g1 : ¬ (k : Int) < (L.length : Int) := by omega
      have g2 : decide ((k : Int) < (L.length : Int)) = false := decide_eq_false g1
      have hkl : k = L.length := by omega
      rw [hkl, List.take_length] at HQ hql
      obtain ⟨ll, hll⟩ : ∃ ll, [39] ++ quoteL L = ll := ⟨_, rfl⟩
      have hR := HR.out
      rw [hll] at HQ hql hR
      subst hR
      clear HR
      have HWB := Lib.hid (byte_any W.heap.size W.heap.size (Lib.byteCells ll) 39 wr HQ.out.1 (by rw [byteCells_nil]; omega) hszr)
      clear hll hkl
      go_wp2_with fail
      refine HWB.out.mono ?_
      rintro e w4 ⟨rfl, ⟨hbd, hb4⟩, hok⟩
      have HQ4 : Hid (Quoting W v L (ll ++ [39]) w4) := Lib.hid (HQ.out.wrote (by rw [byteCells_app]; exact hbd) hb4 hok)
      have hsz4 := HQ4.out.2.2.size
      have HSTR := Lib.hid (Tryd.Builder_String_any W.heap.size W.heap.size (ll ++ [39]) w4 HQ4.out.1 hsz4)
      clear hbd hb4 hok HWB HQ
      go_wp2_with fail
      refine HSTR.out.mono ?_
      rintro e w5 ⟨rfl, hb5⟩
      have HB5 := Lib.hid (HQ4.out.2.2.trans hb5)
      clear hb5 HSTR HQ4
      go_wp2
      go_ret
      exact ⟨rfl, HB5.out⟩

end Go.Proofs.YtfjlhfalnciamaaDoor.Lex
