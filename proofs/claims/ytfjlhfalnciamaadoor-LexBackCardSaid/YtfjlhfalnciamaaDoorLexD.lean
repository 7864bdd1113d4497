/- The parts of a grammar's text: names and classes (package lex), walked. -/
import Derived.Test.YtfjlhfalnciamaaDoorLexC
namespace Go.Proofs.YtfjlhfalnciamaaDoor.Lex
open Go Go.RowKit Go.Proofs.Chars
open Go.Proofs.YtfjlhfalnciamaaDoor.Utf Go.Proofs.YtfjlhfalnciamaaDoor.Chars

def tokV (k : Int) (a e : Nat) (t : ByteArray) (v : Value) : Value := .agg #[.int .i64 k, .int .i64 (a : Int), .int .i64 (e : Int), .string t, v]
/-- What begins at a place: what is wrong, or of which kind, up to where, with what text and what set. -/
inductive Nx where
  | bad (c : Int) (p : Nat) : Nx
  | tok (k : Int) (e : Nat) (t : ByteArray) (g : Option (List Rg)) : Nx
def SetIs (W w' : World) : Option (List Rg) → Value → Prop
  | none, v => v = .slice none 0 0
  | some l, v => ∃ O, Rowed w' W.heap.size v O ∧ IsOf l O ∧ O.length ≤ l.length
def NextP (W : World) (a : Nat) (o : Nx) (e : Ending) (w' : World) : Prop :=
  match o with
  | .bad c p => e = .returned (.tuple #[tokV 0 0 0 ⟨#[]⟩ (.slice none 0 0), stopV c p]) ∧ Below W.heap.size W w'
  | .tok k z t g => ∃ v, e = .returned (.tuple #[tokV k a z t v, stopV 0 0]) ∧ SetIs W w' g v ∧ Below W.heap.size W w'
abbrev T0 : Obj := .cells #[.int .i64 0, .int .i64 0, .int .i64 0, .string ⟨#[]⟩, .slice none 0 0] 62
abbrev S0 : Obj := .cells #[.int .i64 0, .int .i64 0] 48

def nameX (s : ByteArray) (a : Nat) : Nx :=
  let m := namedE (txt (s.extract a s.size)).b (s.extract a s.size).size
  if 60 < m then .bad 3 a else .tok (if upperN ((txt s).b a) = true then 1 else 2) (a + m) (s.extract a (a + m)) none
theorem two_allocs (W : World) (o p : Obj) : Below W.heap.size W ((W.alloc o).alloc p) := ((Below.refl _ W).alloc (Nat.le_refl _) o).alloc (by simp) p

set_option maxHeartbeats 4000000 in
set_option maxRecDepth 100000 in
theorem nameX_any (s : ByteArray) (hs : s.size ≤ 1000000) (a : Nat) (ha : a < s.size) (W : World) : Calls Tryd.prog 89 #[.string s, .int .i64 (a : Int)] W fun e w' => NextP W a (nameX s a) e w' := by
  have hsz : (s.extract a s.size).size = s.size - a := ext_size s (Nat.le_refl _)
  have hin := namedE_in (txt (s.extract a s.size)).b (s.extract a s.size).size
  have HNM := Lib.hid (fun w => named_any (s.extract a s.size) (by omega) w)
  unfold nameX
  obtain ⟨m, hm⟩ : ∃ m, namedE (txt (s.extract a s.size)).b (s.extract a s.size).size = m := ⟨_, rfl⟩
  rw [hm] at HNM hin ⊢
  rw [hsz] at hin
  have HTA := Lib.hid (two_allocs W)
  have g0 : (0 : Int) ≤ (a : Int) := by omega
  have g1 : (a : Int) ≤ (s.size : Int) := by omega
  have g2 : (a : Int) < (s.size : Int) := by omega
  clear hm hsz
  by_cases h6 : 60 < m
  · have d1 : (60 : Int) < (m : Int) := by omega
    have d2 : decide ((60 : Int) < (m : Int)) = true := decide_eq_true d1
    simp only []
    rw [if_pos h6]
    go_enter Tryd.func89, Tryd.ntmps89
    go_wp2_with (go_at_call 55; refine (HNM.out _).mono ?_; rintro e w' ⟨rfl, rfl⟩)
    refine bodyPost_ret (v := .tuple #[tokV 0 0 0 ⟨#[]⟩ (.slice none 0 0), stopV 3 a]) (by simp [results, Tryd.results89, go_sem, tokV, stopV]) rfl ?_
    exact ⟨rfl, HTA.out _ _⟩
  · have d1 : ¬ (60 : Int) < (m : Int) := by omega
    have d2 : decide ((60 : Int) < (m : Int)) = false := decide_eq_false d1
    simp only []
    rw [if_neg h6]
    have hba : (s[a]'ha).toNat = (txt s).b a := by rw [get_bang]; rfl
    have HU := Lib.hid (fun w => upper_any ((txt s).b a) w)
    obtain ⟨c, hc⟩ : ∃ c, (txt s).b a = c := ⟨_, rfl⟩
    rw [hc] at hba HU ⊢
    obtain ⟨z, hz⟩ : ∃ z, a + m = z := ⟨_, rfl⟩
    have e1 : (a : Int) + (m : Int) = (z : Int) := by omega
    have e0 : IntKind.i64.wrap ((a : Int) + (m : Int)) = (z : Int) := by rw [e1]; exact IntWalk.i64_in _ (by omega)
    have g3 : (a : Int) ≤ (z : Int) := by omega
    have g4 : (z : Int) ≤ (s.size : Int) := by omega
    have g5 : (0 : Int) ≤ (z : Int) := by omega
    rw [hz]
    clear hc hz hin
    cases hu : upperN c with
    | true =>
      rw [hu] at HU
      rw [if_pos rfl]
      go_enter Tryd.func89, Tryd.ntmps89
      go_wp2_with (first
        | (go_at_call 55; refine (HNM.out _).mono ?_; rintro e w' ⟨rfl, rfl⟩)
        | (go_at_call 56; refine (HU.out _).mono ?_; rintro e w' ⟨rfl, rfl⟩))
      refine bodyPost_ret (v := .tuple #[tokV 1 a z (s.extract a z) (.slice none 0 0), stopV 0 0]) (by simp [results, Tryd.results89, go_sem, tokV, stopV]) rfl ?_
      exact ⟨_, rfl, rfl, HTA.out _ _⟩
    | false =>
      rw [hu] at HU
      rw [if_neg (by simp)]
      go_enter Tryd.func89, Tryd.ntmps89
      go_wp2_with (first
        | (go_at_call 55; refine (HNM.out _).mono ?_; rintro e w' ⟨rfl, rfl⟩)
        | (go_at_call 56; refine (HU.out _).mono ?_; rintro e w' ⟨rfl, rfl⟩))
      refine bodyPost_ret (v := .tuple #[tokV 2 a z (s.extract a z) (.slice none 0 0), stopV 0 0]) (by simp [results, Tryd.results89, go_sem, tokV, stopV]) rfl ?_
      exact ⟨_, rfl, rfl, HTA.out _ _⟩

def classX (s : ByteArray) (a : Nat) : Nx :=
  match untilE (txt s).b s.size 93 (s.size + 1) (a + 1) with
  | none => .bad 10 a
  | some e =>
    match readE (s.extract (a + 1) e) with
    | .bad c k => .bad c (a + 1 + k)
    | .good l => .tok 4 (e + 1) ⟨#[]⟩ (some l)
theorem tok_blocks {W wx : World} (hB : Below (W.heap.size + 2) ((W.alloc T0).alloc S0) wx) : wx.heap[W.heap.size]? = some (.cells #[.int .i64 0, .int .i64 0, .int .i64 0, .string ⟨#[]⟩, .slice none 0 0] 62 (0, 0)) ∧ wx.heap[W.heap.size + 1]? = some (.cells #[.int .i64 0, .int .i64 0] 48 (0, 0)) := by
  refine ⟨(hB.block _ (by omega)).trans ?_, (hB.block _ (by omega)).trans ?_⟩
  · exact ((MapKept.heap_alloc (W.alloc T0) S0).2 _ (by simp)).trans (heap_alloc_new W _)
  · have h := (MapKept.heap_alloc (W.alloc T0) S0).1
    rw [show (W.alloc T0).heap.size = W.heap.size + 1 by simp] at h
    exact h

end Go.Proofs.YtfjlhfalnciamaaDoor.Lex
