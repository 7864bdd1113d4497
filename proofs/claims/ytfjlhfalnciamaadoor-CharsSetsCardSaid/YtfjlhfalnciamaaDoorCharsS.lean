/- What stands between brackets for a set (Text), walked. -/
import Derived.Test.YtfjlhfalnciamaaDoorCharsR
namespace Go.Proofs.YtfjlhfalnciamaaDoor.Chars
open Go Go.RowKit Go.Proofs.Chars
open Go.Proofs.YtfjlhfalnciamaaDoor.Utf

def esc3 : ByteArray := ⟨#[93, 45, 94]⟩
def signS (r : Int) : List UInt8 := (signB r esc3).data.toList
def pieceT (x : Rg) : List UInt8 := signS x.1 ++ if x.1 = x.2 then [] else (if x.1 + 1 < x.2 then [45] else []) ++ signS x.2
def textL (O : List Rg) : List UInt8 := O.flatMap pieceT
theorem textL_snoc (L : List Rg) (x : Rg) : textL (L ++ [x]) = textL L ++ pieceT x := by simp [textL]
theorem signB_size (r : Int) (hv : Lib.validRune r = true) (esc : ByteArray) : (signB r esc).size ≤ 6 := by
  have h1 := (encB_size r hv).2
  have h2 := hexL_len r.toNat
  unfold signB
  repeat' split
  · simp [ByteArray.size]
  · simp [ByteArray.size]
  · simp [ByteArray.size]
  · rw [ByteArray.size_append]; have : (⟨#[92]⟩ : ByteArray).size = 1 := rfl; omega
  · omega
  · rw [ByteArray.size_append, ByteArray.size_append]
    have a1 : (⟨#[92, 117, 123]⟩ : ByteArray).size = 3 := rfl
    have a2 : (⟨#[125]⟩ : ByteArray).size = 1 := rfl
    have a3 : (⟨(hexL r.toNat).toArray⟩ : ByteArray).size = (hexL r.toNat).length := by simp [ByteArray.size]
    omega
theorem signS_len (r : Int) (hv : Lib.validRune r = true) : (signS r).length ≤ 6 := by
  unfold signS
  rw [← Lib.size_eq]
  exact signB_size r hv esc3
theorem pieceT_len (x : Rg) (h1 : Lib.validRune x.1 = true) (h2 : Lib.validRune x.2 = true) : (pieceT x).length ≤ 13 := by
  have a := signS_len x.1 h1
  have b := signS_len x.2 h2
  unfold pieceT
  repeat' split
  all_goals simp
  all_goals omega
theorem textL_len : ∀ (O : List Rg), (∀ x ∈ O, Lib.validRune x.1 = true ∧ Lib.validRune x.2 = true) → (textL O).length ≤ 13 * O.length
  | [], _ => by simp [textL]
  | x :: l, h => by
    have a := textL_len l fun y hy => h y (List.mem_cons_of_mem _ hy)
    have b := pieceT_len x (h x List.mem_cons_self).1 (h x List.mem_cons_self).2
    unfold textL at a ⊢
    rw [List.flatMap_cons, List.length_append, List.length_cons]
    omega
theorem sign_str (r : Int) : (⟨(signS r).toArray⟩ : ByteArray) = signB r esc3 := by
  unfold signS
  cases signB r esc3 with
  | mk d => simp

theorem kept_row {w w' : World} {S b : Nat} {v : Value} {L : List Rg} (h : Rowed w S v L) (hb : ∃ cs, w.heap[b]? = some (.cells cs 99 (0, 0))) (hk : Lib.OthersKept 5 (some b) w w') : Rowed w' S v L := by
  refine ⟨h.1, ?_⟩
  rcases h.2 with h0 | ⟨g, cap, cur, e1, e2, e3, e4⟩
  · exact .inl h0
  · refine .inr ⟨g, cap, cur, e1, e2, hk g _ e3 (fun e => ?_) (fun c fz e => by cases e), e4⟩
    obtain ⟨cs, hb⟩ := hb
    have : g = b := Option.some.inj e
    subst this
    rw [hb] at e3
    cases e3
/-- The memory of Text while it goes on. -/
def Texting (W : World) (vo : Value) (O : List Rg) (l : List UInt8) (wx : World) : Prop :=
  Lib.IsBuilder 99 5 W.heap.size W.heap.size (Lib.byteCells l) wx ∧ Rowed wx W.heap.size vo O ∧ Below W.heap.size W wx
theorem Texting.stay {W wx w' : World} {vo : Value} {O : List Rg} {l : List UInt8} (h : Texting W vo O l wx) (hb : Below wx.heap.size wx w') : Texting W vo O l w' :=
  ⟨builder_stay h.1 hb, h.2.1.stay hb, h.2.2.trans (hb.mono h.2.2.size)⟩
theorem Texting.block {W wx : World} {vo : Value} {O : List Rg} {l : List UInt8} (h : Texting W vo O l wx) : ∃ cs, wx.heap[W.heap.size]? = some (.cells cs 99 (0, 0)) := by
  rcases h.1 with ⟨_, v, hb, _⟩ | ⟨_, v, hb, _⟩
  · exact ⟨_, hb⟩
  · exact ⟨_, hb⟩
theorem Texting.wrote {W wx w' : World} {vo : Value} {O : List Rg} {l l' : List UInt8} (h : Texting W vo O l wx) (hn : Lib.BuilderAt 99 5 W.heap.size W.heap.size (.pointer (some ⟨W.heap.size, 0, none⟩)) (Lib.byteCells l') w')
    (hb : Below W.heap.size wx w') (hk : Lib.OthersKept 5 (some W.heap.size) wx w') : Texting W vo O l' w' :=
  ⟨.inr hn, kept_row h.2.1 h.block hk, h.2.2.trans hb⟩

end Go.Proofs.YtfjlhfalnciamaaDoor.Chars
