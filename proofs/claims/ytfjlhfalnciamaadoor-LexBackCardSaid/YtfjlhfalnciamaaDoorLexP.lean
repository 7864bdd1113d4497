/- What Quote tells is read as it: whole literals: plain maths. -/
import Derived.Test.YtfjlhfalnciamaaDoorLexO
import Derived.Test.YtfjlhfalnciamaaDoorCharsBackB
import Derived.Test.YtfjlhfalnciamaaDoorLexM
import Derived.Lib.MapLaws
namespace Go.Proofs.YtfjlhfalnciamaaDoor.Lex
open Go Go.RowKit Go.Proofs.Chars
open Go.Proofs.YtfjlhfalnciamaaDoor.Utf Go.Proofs.YtfjlhfalnciamaaDoor.Chars

def encs (L : List Items.It) : List UInt8 := L.flatMap fun x => (encB (x.r : Int)).data.toList
def pieces1 (L : List Items.It) : List UInt8 := L.flatMap fun x => sign1 (x.r : Int)
theorem pieces_is : ∀ (L : List Items.It), (∀ x ∈ L, x.o = true) → quoteL L = pieces1 L
  | [], _ => rfl
  | x :: L, h => by
    rw [quoteL, if_pos (h x List.mem_cons_self), pieces_is L fun y hy => h y (List.mem_cons_of_mem _ hy)]
    simp [pieces1, sign1]
theorem sign1_pos (n : Nat) (hv : Lib.validRune (n : Int) = true) : 1 ≤ (sign1 (n : Int)).length := by
  rcases sign1_form n hv with ⟨hs, _⟩ | ⟨c, tl, hs, _⟩
  · rw [hs, ← Lib.size_eq]; exact (encB_size _ hv).1
  · rw [hs]; simp
theorem until_all {X : ByteArray} : ∀ (L : List Items.It) (f p : Nat), (∀ x ∈ L, Lib.validRune (x.r : Int) = true) → Stands X p (pieces1 L ++ [39]) → (pieces1 L).length < f → untilE (txt X).b X.size 39 f p = some (p + (pieces1 L).length)
  | [], f, p, _, h, hf => by
    have e : pieces1 [] = [] := rfl
    rw [e, List.nil_append] at h
    rw [e] at hf ⊢
    obtain ⟨f, rfl⟩ : ∃ g, f = g + 1 := ⟨f - 1, by simp at hf; omega⟩
    have h0 := stands_first h
    rw [untilE, if_pos h0.2, if_pos (show (txt X).b p = 39 from h0.1)]
    rfl
  | x :: L, f, p, hv, h, hf => by
    have e : pieces1 (x :: L) = sign1 (x.r : Int) ++ pieces1 L := by simp [pieces1]
    rw [e] at h hf ⊢
    rw [List.append_assoc] at h
    rw [List.length_append] at hf ⊢
    obtain ⟨ha, hb⟩ := stands_app h
    obtain ⟨f', hf', hu⟩ := until_sign (f := f) (hv x List.mem_cons_self) ha (by omega)
    rw [hu, until_all L f' _ (fun y hy => hv y (List.mem_cons_of_mem _ hy)) hb (by omega), Nat.add_assoc]
theorem lit_all {X : ByteArray} {z : Nat} (hz : z ≤ X.size) : ∀ (L : List Items.It) (f p : Nat) (l : List UInt8), (∀ x ∈ L, Lib.validRune (x.r : Int) = true) → Stands X p (pieces1 L) → p + (pieces1 L).length = z → L.length ≤ f → litGo X z f p l = .good (l ++ encs L)
  | [], f, p, l, _, _, hp, _ => by
    have : ¬ p < z := by simp [pieces1] at hp; omega
    rw [litGo_end this]
    simp [encs]
  | x :: L, f, p, l, hv, h, hp, hf => by
    have e : pieces1 (x :: L) = sign1 (x.r : Int) ++ pieces1 L := by simp [pieces1]
    rw [e] at h hp
    rw [List.length_append] at hp
    obtain ⟨ha, hb⟩ := stands_app h
    have hvx := hv x List.mem_cons_self
    have hpos := sign1_pos x.r hvx
    simp only [List.length_cons] at hf
    obtain ⟨f, rfl⟩ : ∃ g, f = g + 1 := ⟨f - 1, by omega⟩
    rw [lit_sign hvx ha (by omega) hz (by omega), lit_all hz L f _ _ (fun y hy => hv y (List.mem_cons_of_mem _ hy)) hb (by omega) (by omega), List.append_assoc]
    congr 1
theorem item_bytes {s : ByteArray} {p : Nat} (hp : p < s.size) (ho : (txt s).ok p = true) : (encB ((txt s).r p : Int)).data.toList = (s.data.toList.drop p).take ((txt s).w p) := by
  rw [enc_rune _ (ok_sign _ _ ho)]
  have hd := drop_decode s p
  have hl : s.data.toList.drop p ≠ [] := by
    intro e
    have := congrArg List.length e
    rw [List.length_drop, ← Lib.size_eq] at this
    simp at this
    omega
  have h := Lib.encode_decode (s.data.toList.drop p) hl (by
    rw [hd]
    rintro ⟨h1, h2⟩
    unfold Txt.ok Txt.r Txt.w at ho
    rw [h1, h2] at ho
    simp at ho)
  rw [hd] at h
  exact h
theorem encs_to {s : ByteArray} (hr : (txt s).right) : ∀ k, k ≤ (txt s).cnt → encs (Items.itemsTo (txt s) k) = s.data.toList.take ((txt s).pos k)
  | 0, _ => by simp [encs, Items.itemsTo, Txt.pos]
  | k + 1, hk => by
    have hlt := (txt s).pos_of_lt (show k < (txt s).cnt by omega)
    rw [Items.itemsTo_succ, encs, List.flatMap_append]
    have ih := encs_to hr k (by omega)
    unfold encs at ih
    rw [ih]
    have hb := item_bytes (s := s) hlt (hr k (by omega))
    have e : (Items.itemAt (txt s) ((txt s).pos k)).r = (txt s).r ((txt s).pos k) := rfl
    simp only [List.flatMap_cons, List.flatMap_nil, List.append_nil, e]
    rw [hb, Txt.pos, List.take_add]
theorem encs_all {s : ByteArray} (hr : (txt s).right) : encs (Items.items (txt s)) = s.data.toList := by
  unfold Items.items
  rw [encs_to hr _ (Nat.le_refl _), (txt s).pos_cnt]
  exact List.take_of_length_le (by rw [← Lib.size_eq]; exact Nat.le_refl _)
/-- A right text that is quoted is read as it. -/
theorem next_quote {s X : ByteArray} {k : Nat} (hr : (txt s).right) (hne : s.size ≠ 0) (h : Stands X k (quoteB s)) : nextX X k = .tok 3 (k + (quoteB s).length) s none := by
  have hok : ∀ x ∈ Items.items (txt s), x.o = true := fun x hx => by
    unfold Items.items Items.itemsTo at hx
    obtain ⟨j, hj, rfl⟩ := List.mem_map.1 hx
    exact hr j (List.mem_range.1 hj)
  have hv : ∀ x ∈ Items.items (txt s), Lib.validRune (x.r : Int) = true := fun x hx => by
    have ho := hok x hx
    unfold Items.items Items.itemsTo at hx
    obtain ⟨j, hj, rfl⟩ := List.mem_map.1 hx
    exact ok_sign _ _ ho
  have hq : quoteB s = [39] ++ (pieces1 (Items.items (txt s)) ++ [39]) := by
    unfold quoteB
    rw [pieces_is _ hok, List.append_assoc]
  have hlen : (quoteB s).length = (pieces1 (Items.items (txt s))).length + 2 := by rw [hq]; simp
  rw [hlen]
  rw [hq] at h
  obtain ⟨h1, h2⟩ := stands_app h
  have h0 := stands_first h1
  have hl2 := h2.1
  simp only [List.length_append, List.length_singleton] at hl2
  have b39 : (txt X).b k = 39 := h0.1
  have hL : (Items.items (txt s)).length ≤ X.size + 1 := by
    have key : ∀ L : List Items.It, (∀ x ∈ L, Lib.validRune (x.r : Int) = true) → L.length ≤ (pieces1 L).length := fun L => by
      induction L with
      | nil => intro _; simp
      | cons x L ih =>
        intro hx
        have := ih fun y hy => hx y (List.mem_cons_of_mem _ hy)
        have h1 := sign1_pos x.r (hx x List.mem_cons_self)
        have e : pieces1 (x :: L) = sign1 (x.r : Int) ++ pieces1 L := by simp [pieces1]
        rw [e, List.length_append, List.length_cons]
        omega
    have := key _ hv
    omega
  have hu := until_all (X := X) (Items.items (txt s)) (X.size + 1) (k + 1) hv h2 (by omega)
  have hg := lit_all (X := X) (z := k + 1 + (pieces1 (Items.items (txt s))).length) (by omega) (Items.items (txt s)) (X.size + 1) (k + 1) [] hv (stands_app h2).1 rfl hL
  rw [List.nil_append, encs_all hr] at hg
  unfold nextX
  rw [b39, if_neg (by decide), if_pos rfl]
  unfold litX
  rw [hu]
  simp only [hg]
  have hs : s.data.toList ≠ [] := by
    intro e
    have := congrArg List.length e
    rw [← Lib.size_eq] at this
    exact hne this
  rw [if_neg hs]
  have e1 : k + 1 + (pieces1 (Items.items (txt s))).length + 1 = k + ((pieces1 (Items.items (txt s))).length + 2) := by omega
  rw [e1]

end Go.Proofs.YtfjlhfalnciamaaDoor.Lex
