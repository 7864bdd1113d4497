/- The ring of the cache's entries, as a list of blocks: what leaving it and being put first make of it. -/
import Derived.Test.YtfcdmkfbkkogbabCacheA
namespace Go.Proofs.Ytfcdmkfbkkogbab.Cache
open Go Go.RowKit

/-- a's sooner one is b, whose later one is a. -/
def link (w : World) (a b : Nat) : Prop := w.cell? ⟨a, 3, none⟩ = some (ptr b) ∧ w.cell? ⟨b, 2, none⟩ = some (ptr a)

def Path (w : World) : List Nat → Prop
  | [] => True
  | [_] => True
  | a :: b :: l => link w a b ∧ Path w (b :: l)

theorem Path.congr {w w' : World} : ∀ {xs : List Nat}, (∀ a ∈ xs.dropLast, w'.cell? ⟨a, 3, none⟩ = w.cell? ⟨a, 3, none⟩) → (∀ b ∈ xs.tail, w'.cell? ⟨b, 2, none⟩ = w.cell? ⟨b, 2, none⟩) → Path w xs → Path w' xs
  | [], _, _, _ => trivial
  | [_], _, _, _ => trivial
  | a :: b :: l, h1, h2, h => by
    obtain ⟨⟨e1, e2⟩, h⟩ := h
    refine ⟨⟨(h1 a (by simp)).trans e1, (h2 b (by simp)).trans e2⟩, Path.congr (fun x hx => h1 x ?_) (fun x hx => h2 x ?_) h⟩
    · rw [List.dropLast_cons_of_ne_nil (by simp)]
      exact List.mem_cons_of_mem _ hx
    · exact List.mem_cons_of_mem _ hx

theorem Path.split {w : World} {p : Nat} {B : List Nat} : ∀ {A : List Nat}, Path w (A ++ p :: B) → Path w (A ++ [p]) ∧ Path w (p :: B)
  | [], h => ⟨trivial, h⟩
  | [_], h => ⟨⟨h.1, trivial⟩, h.2⟩
  | _ :: b :: A, h => by
    obtain ⟨h1, h2⟩ := h
    have := Path.split (A := b :: A) h2
    exact ⟨⟨h1, this.1⟩, this.2⟩

theorem Path.join {w : World} {p : Nat} {B : List Nat} : ∀ {A : List Nat}, Path w (A ++ [p]) → Path w (p :: B) → Path w (A ++ p :: B)
  | [], _, h => h
  | [_], h, h' => ⟨h.1, h'⟩
  | _ :: b :: A, h, h' => ⟨h.1, Path.join (A := b :: A) h.2 h'⟩

theorem path_leave {w : World} {r x : Nat} {A B : List Nat} (nd : (r :: (A ++ x :: B)).Nodup) (h : Path w (r :: (A ++ x :: B) ++ [r])) :
    ∃ p n, w.cell? ⟨x, 2, none⟩ = some (ptr p) ∧ w.cell? ⟨x, 3, none⟩ = some (ptr n) ∧ w.cell? ⟨p, 3, none⟩ = some (ptr x) ∧ w.cell? ⟨n, 2, none⟩ = some (ptr x) ∧ p ∈ r :: A ∧ n ∈ B ++ [r] ∧
      (B = [] → n = r) ∧ (A = [] → p = r) ∧
      ∀ w' : World, (∀ a, a ≠ p → w'.cell? ⟨a, 3, none⟩ = w.cell? ⟨a, 3, none⟩) → (∀ b, b ≠ n → w'.cell? ⟨b, 2, none⟩ = w.cell? ⟨b, 2, none⟩) → link w' p n → Path w' (r :: (A ++ B) ++ [r]) := by
  obtain ⟨A', p, hA⟩ : ∃ A' p, r :: A = A' ++ [p] := by
    rcases List.eq_nil_or_concat (r :: A) with h | ⟨l, b, h⟩
    · cases h
    · exact ⟨l, b, by simpa using h⟩
  obtain ⟨n, B', hB⟩ : ∃ n B', B ++ [r] = n :: B' := by
    cases B with
    | nil => exact ⟨r, [], rfl⟩
    | cons b B => exact ⟨b, B ++ [r], rfl⟩
  have e : r :: (A ++ x :: B) ++ [r] = A' ++ p :: x :: n :: B' := by
    have : r :: (A ++ x :: B) ++ [r] = (r :: A) ++ x :: (B ++ [r]) := by simp
    rw [this, hA, hB]; simp
  rw [e] at h
  obtain ⟨h1, h2⟩ := h.split
  obtain ⟨l1, l2, h3⟩ := h2
  have nd' : (A' ++ p :: x :: B).Nodup := by
    have : r :: (A ++ x :: B) = (r :: A) ++ x :: B := by simp
    rw [this, hA] at nd
    simpa using nd
  refine ⟨p, n, l1.2, l2.1, l1.1, l2.2, by rw [hA]; simp, by rw [hB]; simp, ?_, ?_, ?_⟩
  · rintro rfl; simp at hB; exact hB.1.symm
  · rintro rfl
    cases A' with
    | nil => simp at hA; exact hA.symm
    | cons a A' => simp at hA
  · intro w' c3 c2 hl
    have e' : r :: (A ++ B) ++ [r] = A' ++ p :: n :: B' := by
      have : r :: (A ++ B) ++ [r] = (r :: A) ++ (B ++ [r]) := by simp
      rw [this, hA, hB]; simp
    rw [e']
    have np : p ∉ A' := fun hp => (List.nodup_append.1 nd').2.2 p hp p (by simp) rfl
    have npB : p ∉ B := by
      have := (List.nodup_append.1 nd').2.1
      simp at this
      exact this.1.2
    -- n does not stand behind A''s head
    have hn1 : n ∉ (A' ++ [p]).tail := by
      rw [← hA]
      simp only [List.tail_cons]
      cases B with
      | nil =>
        simp at hB
        rw [← hB.1]
        simp at nd
        exact nd.1.1
      | cons b B =>
        simp at hB
        obtain ⟨rfl, _⟩ := hB
        intro hb
        have := (List.nodup_cons.1 nd).2
        exact (List.nodup_append.1 this).2.2 b hb b (by simp) rfl
    have hp2 : p ∉ (n :: B').dropLast := by
      rw [← hB]
      simpa using npB
    have hn2 : n ∉ B' := by
      cases B with
      | nil => simp at hB; rw [hB.2]; simp
      | cons b B =>
        simp at hB
        obtain ⟨rfl, rfl⟩ := hB
        have h4 := (List.nodup_append.1 nd').2.1
        simp at h4
        have h5 : b ≠ r := by
          rintro rfl
          simp at nd
        simp [h4.2.2.1, h5]
    refine Path.join (Path.congr (fun a ha => c3 a ?_) (fun b hb => c2 b ?_) h1) ⟨hl, Path.congr (fun a ha => c3 a ?_) (fun b hb => c2 b ?_) h3⟩
    · rintro rfl; simp at ha; exact np ha
    · rintro rfl; exact hn1 hb
    · rintro rfl; exact hp2 ha
    · rintro rfl; exact hn2 hb

theorem path_first {w : World} {r e : Nat} {l : List Nat} (nd : (e :: r :: l).Nodup) (h : Path w (r :: l ++ [r])) :
    ∃ s, w.cell? ⟨r, 3, none⟩ = some (ptr s) ∧ w.cell? ⟨s, 2, none⟩ = some (ptr r) ∧ s ∈ l ++ [r] ∧
      ∀ w' : World, (∀ a, a ≠ r → a ≠ e → w'.cell? ⟨a, 3, none⟩ = w.cell? ⟨a, 3, none⟩) → (∀ b, b ≠ s → b ≠ e → w'.cell? ⟨b, 2, none⟩ = w.cell? ⟨b, 2, none⟩) → link w' r e → link w' e s → Path w' (r :: (e :: l) ++ [r]) := by
  obtain ⟨s, t, hs⟩ : ∃ s t, l ++ [r] = s :: t := by
    cases l with
    | nil => exact ⟨r, [], rfl⟩
    | cons b l => exact ⟨b, l ++ [r], rfl⟩
  have e1 : r :: l ++ [r] = r :: s :: t := by rw [List.cons_append, hs]
  rw [e1] at h
  obtain ⟨l1, h1⟩ := h
  simp at nd
  refine ⟨s, l1.1, l1.2, by rw [hs]; simp, fun w' c3 c2 k1 k2 => ?_⟩
  have e2 : r :: (e :: l) ++ [r] = r :: e :: s :: t := by
    have : r :: (e :: l) ++ [r] = r :: e :: (l ++ [r]) := by simp
    rw [this, hs]
  rw [e2]
  refine ⟨k1, k2, Path.congr (fun a ha => c3 a ?_ ?_) (fun b hb => c2 b ?_ ?_) h1⟩
  · rw [← hs] at ha
    simp at ha
    rintro rfl
    exact nd.2.1 ha
  · rw [← hs] at ha
    simp at ha
    rintro rfl
    exact nd.1.2 ha
  · cases l with
    | nil => simp at hs; rw [hs.2] at hb; simp at hb
    | cons b l =>
      simp at hs
      obtain ⟨rfl, rfl⟩ := hs
      simp at hb nd
      rcases hb with hb | rfl
      · rintro rfl; exact nd.2.2.1 hb
      · exact fun h => nd.2.1.1 h
  · have : b ∈ l ++ [r] := by rw [hs]; exact List.mem_cons_of_mem _ hb
    simp at this
    rintro rfl
    rcases this with h | h
    · exact nd.1.2 h
    · exact nd.1.1 h

end Go.Proofs.Ytfcdmkfbkkogbab.Cache
