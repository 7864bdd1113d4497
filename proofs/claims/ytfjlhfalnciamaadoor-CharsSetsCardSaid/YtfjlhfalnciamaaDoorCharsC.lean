/- The least ranges of which sets are made, by their borders: plain maths (package chars). -/
import Derived.Test.YtfjlhfalnciamaaDoorCharsB
namespace Go.Proofs.Chars

/-- How much more than ahead of all borders there is at v. -/
def dep : List (Int × Int) → Int → Int
  | [], _ => 0
  | x :: l, v => (if x.1 ≤ v then x.2 else 0) + dep l v
def tot : List (Int × Int) → Int
  | [] => 0
  | x :: l => x.2 + tot l
theorem dep_app (l m : List (Int × Int)) (v : Int) : dep (l ++ m) v = dep l v + dep m v := by
  induction l with
  | nil => simp [dep]
  | cons x l ih => rw [List.cons_append, dep, dep, ih]; omega
theorem tot_app (l m : List (Int × Int)) : tot (l ++ m) = tot l + tot m := by
  induction l with
  | nil => simp [tot]
  | cons x l ih => rw [List.cons_append, tot, tot, ih]; omega
theorem dep_all {l : List (Int × Int)} {v : Int} (h : ∀ x ∈ l, x.1 ≤ v) : dep l v = tot l := by
  induction l with
  | nil => rfl
  | cons x l ih => rw [dep, tot, if_pos (h x List.mem_cons_self), ih fun y hy => h y (List.mem_cons_of_mem _ hy)]
theorem dep_none {l : List (Int × Int)} {v : Int} (h : ∀ x ∈ l, v < x.1) : dep l v = 0 := by
  induction l with
  | nil => rfl
  | cons x l ih =>
    have := h x List.mem_cons_self
    rw [dep, if_neg (by omega), ih fun y hy => h y (List.mem_cons_of_mem _ hy)]; rfl
theorem dep_perm {l m : List (Int × Int)} (h : l.Perm m) (v : Int) : dep l v = dep m v := by
  induction h with
  | nil => rfl
  | cons x _ ih => rw [dep, dep, ih]
  | swap x y l => rw [dep, dep, dep, dep]; omega
  | trans _ _ h1 h2 => rw [h1, h2]
/-- The ranges between borders that something lies over. -/
def partsGo (prev n : Int) : List (Int × Int) → List Rg
  | [] => []
  | x :: l => (if 0 < n ∧ prev < x.1 then [(prev, x.1 - 1)] else []) ++ partsGo x.1 (n + x.2) l
/-- Borders by their places, from b on. -/
def RiseB : Int → List (Int × Int) → Prop
  | _, [] => True
  | b, x :: l => b ≤ x.1 ∧ RiseB x.1 l
theorem RiseB.low : ∀ {l : List (Int × Int)} {b : Int}, RiseB b l → ∀ x ∈ l, b ≤ x.1
  | [], _, _, x, h => by simp at h
  | y :: l, b, hr, x, h => by
    rcases List.mem_cons.1 h with rfl | h
    · exact hr.1
    · have h1 := hr.2.low x h
      have h2 := hr.1
      omega
/-- Ranges that rise, and may touch. -/
def Asc : Int → List Rg → Prop
  | _, [] => True
  | b, x :: l => b ≤ x.1 ∧ x.1 ≤ x.2 ∧ Asc (x.2 + 1) l
theorem Asc.mono {b b' : Int} {l : List Rg} (h : Asc b l) (hb : b' ≤ b) : Asc b' l := by
  cases l with
  | nil => trivial
  | cons x l => exact ⟨Int.le_trans hb h.1, h.2⟩
theorem parts_ok : ∀ (l done : List (Int × Int)) (prev : Int), (∀ x ∈ done, x.1 ≤ prev) → RiseB prev l →
    (∀ r, memC (partsGo prev (tot done) l) r ↔ prev ≤ r ∧ (∃ x ∈ l, r < x.1) ∧ 0 < dep (done ++ l) r) ∧ Asc prev (partsGo prev (tot done) l) ∧
    ∀ z ∈ partsGo prev (tot done) l, (z.1 = prev ∨ ∃ x ∈ l, z.1 = x.1) ∧ (∃ x ∈ l, z.2 + 1 = x.1) ∧ (prev ≤ z.1 ∧ z.1 ≤ z.2) ∧ ∀ y ∈ done ++ l, ¬ (z.1 < y.1 ∧ y.1 ≤ z.2)
  | [], done, prev, _, _ => ⟨fun r => by simp [partsGo, memC_nil], trivial, fun z hz => by simp [partsGo] at hz⟩
  | x :: l, done, prev, hd, hr => by
    have hpx := hr.1
    obtain ⟨i1, i2, i3⟩ := parts_ok l (done ++ [x]) x.1 (fun y hy => by
      rcases List.mem_append.1 hy with h | h
      · have := hd y h; omega
      · simp at h; subst h; exact Int.le_refl _) hr.2
    have et : tot (done ++ [x]) = tot done + x.2 := by rw [tot_app]; simp [tot]
    have ea : (done ++ [x]) ++ l = done ++ x :: l := by simp
    rw [et, ea] at i1
    rw [et] at i2
    rw [et, ea] at i3
    have low := hr.2.low
    have hn : ∀ r, prev ≤ r → r < x.1 → dep (done ++ x :: l) r = tot done := fun r h1 h2 => by
      rw [dep_app, dep_all (fun y hy => Int.le_trans (hd y hy) h1), dep_none (fun y hy => by
        rcases List.mem_cons.1 hy with rfl | hy
        · exact h2
        · have := low y hy; omega)]
      omega
    rw [partsGo]
    by_cases hc : 0 < tot done ∧ prev < x.1
    · rw [if_pos hc, List.singleton_append]
      refine ⟨fun r => ?_, ⟨Int.le_refl _, by show prev ≤ x.1 - 1; omega, i2.mono (by show x.1 - 1 + 1 ≤ x.1; omega)⟩, fun z hz => ?_⟩
      · rw [memC_cons, i1]
        show (prev ≤ r ∧ r ≤ x.1 - 1) ∨ _ ↔ _
        constructor
        · rintro (⟨a, b⟩ | ⟨a, ⟨y, b, c⟩, d⟩)
          · exact ⟨a, ⟨x, List.mem_cons_self, by omega⟩, by rw [hn r a (by omega)]; exact hc.1⟩
          · exact ⟨by omega, ⟨y, List.mem_cons_of_mem _ b, c⟩, d⟩
        · rintro ⟨a, ⟨y, b, c⟩, d⟩
          by_cases h : r < x.1
          · exact .inl ⟨a, by omega⟩
          · refine .inr ⟨by omega, ⟨y, ?_, c⟩, d⟩
            rcases List.mem_cons.1 b with rfl | b
            · omega
            · exact b
      · rcases List.mem_cons.1 hz with rfl | hz
        · refine ⟨.inl rfl, ⟨x, List.mem_cons_self, by show x.1 - 1 + 1 = x.1; omega⟩, ⟨Int.le_refl _, by show prev ≤ x.1 - 1; omega⟩, fun y hy => ?_⟩
          show ¬ (prev < y.1 ∧ y.1 ≤ x.1 - 1)
          rcases List.mem_append.1 hy with h | h
          · have := hd y h; omega
          · rcases List.mem_cons.1 h with rfl | h
            · omega
            · have := low y h; omega
        · obtain ⟨a, ⟨y, b1, b2⟩, c, d⟩ := i3 z hz
          refine ⟨.inr ?_, ⟨y, List.mem_cons_of_mem _ b1, b2⟩, ⟨by omega, c.2⟩, d⟩
          rcases a with a | ⟨y, a1, a2⟩
          · exact ⟨x, List.mem_cons_self, a⟩
          · exact ⟨y, List.mem_cons_of_mem _ a1, a2⟩
    · rw [if_neg hc, List.nil_append]
      refine ⟨fun r => ?_, i2.mono hpx, fun z hz => ?_⟩
      · rw [i1]
        constructor
        · rintro ⟨a, ⟨y, b, c⟩, d⟩
          exact ⟨by omega, ⟨y, List.mem_cons_of_mem _ b, c⟩, d⟩
        · rintro ⟨a, ⟨y, b, c⟩, d⟩
          have hge : x.1 ≤ r := by
            apply Int.not_lt.1
            intro h
            rw [hn r a h] at d
            exact hc ⟨d, by omega⟩
          refine ⟨hge, ⟨y, ?_, c⟩, d⟩
          rcases List.mem_cons.1 b with rfl | b
          · omega
          · exact b
      · obtain ⟨a, ⟨y, b1, b2⟩, c, d⟩ := i3 z hz
        refine ⟨.inr ?_, ⟨y, List.mem_cons_of_mem _ b1, b2⟩, ⟨by omega, c.2⟩, d⟩
        rcases a with a | ⟨y, a1, a2⟩
        · exact ⟨x, List.mem_cons_self, a⟩
        · exact ⟨y, List.mem_cons_of_mem _ a1, a2⟩
/-- A set's borders. -/
def borders (O : List Rg) : List (Int × Int) := O.flatMap fun x => [(x.1, 1), (x.2 + 1, -1)]
theorem dep_borders : ∀ (O : List Rg) (b : Int), Canon b O → ∀ v, dep (borders O) v = if memC O v then 1 else 0
  | [], _, _, v => by simp [borders, dep, memC_nil]
  | x :: l, b, hc, v => by
    have h2 := hc.2.1
    have k1 : ∀ {r}, memC l r → x.2 + 2 ≤ r := fun hr => (hc.2.2.2.mem_in hr).1
    have ih := dep_borders l _ hc.2.2.2 v
    have e : borders (x :: l) = [(x.1, 1), (x.2 + 1, -1)] ++ borders l := rfl
    have e2 : dep [(x.1, (1 : Int)), (x.2 + 1, -1)] v = (if x.1 ≤ v then 1 else 0) + (if x.2 + 1 ≤ v then -1 else 0) := by simp [dep]
    rw [e, dep_app, ih, e2]
    by_cases hm : memC l v
    · have := k1 hm
      rw [if_pos hm, if_pos ((memC_cons x l v).2 (.inr hm)), if_pos (by omega), if_pos (by omega)]; rfl
    · rw [if_neg hm]
      by_cases h : x.1 ≤ v ∧ v ≤ x.2
      · rw [if_pos ((memC_cons x l v).2 (.inl h)), if_pos h.1, if_neg (by omega)]; rfl
      · have hno : ¬ memC (x :: l) v := fun h3 => by
          rcases (memC_cons x l v).1 h3 with h4 | h4
          · exact h h4
          · exact hm h4
        rw [if_neg hno]
        by_cases h5 : x.1 ≤ v
        · rw [if_pos h5, if_pos (by omega)]; rfl
        · rw [if_neg h5, if_neg (by omega)]; rfl
/-- At a border of a set its numbers change. -/
theorem border_changes : ∀ (O : List Rg) (b : Int), Canon b O → ∀ y ∈ borders O, (memC O y.1 ∧ ¬ memC O (y.1 - 1)) ∨ (¬ memC O y.1 ∧ memC O (y.1 - 1))
  | [], _, _, y, hy => by simp [borders] at hy
  | x :: l, b, hc, y, hy => by
    have h2 := hc.2.1
    have k1 : ∀ {r}, memC l r → x.2 + 2 ≤ r := fun hr => (hc.2.2.2.mem_in hr).1
    have e : borders (x :: l) = [(x.1, 1), (x.2 + 1, -1)] ++ borders l := rfl
    rw [e] at hy
    have n1 : ∀ r, r ≤ x.2 + 1 → ¬ memC l r := fun r h1 h3 => by have := k1 h3; omega
    rcases List.mem_append.1 hy with h | h
    · simp at h
      rcases h with rfl | rfl
      · left
        refine ⟨(memC_cons x l _).2 (.inl ⟨Int.le_refl _, h2⟩), fun h3 => ?_⟩
        rcases (memC_cons x l _).1 h3 with h4 | h4
        · have : x.1 ≤ x.1 - 1 := h4.1
          omega
        · exact n1 _ (by show x.1 - 1 ≤ _; omega) h4
      · right
        refine ⟨fun h3 => ?_, (memC_cons x l _).2 (.inl ⟨by show x.1 ≤ x.2 + 1 - 1; omega, by show x.2 + 1 - 1 ≤ x.2; omega⟩)⟩
        rcases (memC_cons x l _).1 h3 with h4 | h4
        · have : x.2 + 1 ≤ x.2 := h4.2
          omega
        · exact n1 _ (Int.le_refl _) h4
    · have hlow : ∀ z ∈ borders l, x.2 + 2 ≤ z.1 := by
        intro z hz
        rcases border_changes l _ hc.2.2.2 z hz with h3 | h3
        · exact k1 h3.1
        · have := k1 h3.2; omega
      have hz := hlow y h
      have up : ∀ r, x.2 < r → (memC (x :: l) r ↔ memC l r) := fun r hr => by
        rw [memC_cons]
        exact ⟨fun h3 => by rcases h3 with h4 | h4
                            · omega
                            · exact h4, .inr⟩
      rw [up _ (by omega), up _ (by omega)]
      exact border_changes l _ hc.2.2.2 y h
/-- Away from its borders a set's numbers do not change. -/
theorem no_border : ∀ (O : List Rg) (r : Int), (∀ y ∈ borders O, r ≠ y.1) → (memC O r ↔ memC O (r - 1))
  | [], r, _ => by rw [memC_nil, memC_nil]
  | x :: l, r, h => by
    have e : borders (x :: l) = [(x.1, 1), (x.2 + 1, -1)] ++ borders l := rfl
    rw [e] at h
    have h1 := h (x.1, 1) (by simp)
    have h2 := h (x.2 + 1, -1) (by simp)
    have ih := no_border l r fun y hy => h y (List.mem_append.2 (.inr hy))
    rw [memC_cons, memC_cons, ih]
    have h3 : r ≠ x.1 := h1
    have h4 : r ≠ x.2 + 1 := h2
    constructor
    · rintro (a | a)
      · exact .inl (by omega)
      · exact .inr a
    · rintro (a | a)
      · exact .inl (by omega)
      · exact .inr a

end Go.Proofs.Chars
