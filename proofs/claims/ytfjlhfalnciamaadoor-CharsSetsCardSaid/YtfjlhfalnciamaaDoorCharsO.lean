/- The sign at a place, walked. -/
import Derived.Test.YtfjlhfalnciamaaDoorCharsN
namespace Go.Proofs.YtfjlhfalnciamaaDoor.Chars
open Go Go.RowKit Go.Proofs.Chars
open Go.Proofs.YtfjlhfalnciamaaDoor.Utf

/-- What stands at a place: a sign, and the place behind it; or why none does. -/
inductive Sgn where
  | err (code : Int) : Sgn
  | sgn (r : Int) (next : Nat) : Sgn
def sgnV : Sgn → Value
  | .err c => .tuple #[.int .i32 0, .int .i64 0, .int .i64 c]
  | .sgn r n => .tuple #[.int .i32 r, .int .i64 (n : Int), .int .i64 0]
def behindEsc (k : Nat) : Option (Int × Nat) → Sgn
  | none => .err 12
  | some (r, n) => .sgn r (k + 1 + n)
def sgnE (s : ByteArray) (k : Nat) : Sgn :=
  if (txt s).ok k = false then .err 11
  else if (txt s).r k ≠ 92 then .sgn ((txt s).r k : Int) (k + (txt s).w k)
  else behindEsc k (escE (txt (s.extract (k + 1) s.size)).b (s.extract (k + 1) s.size).size)

theorem escE_in {b : Nat → Nat} {n : Nat} {r : Int} {m : Nat} (h : escE b n = some (r, m)) : m ≤ n ∧ 1 ≤ m := by
  unfold escE at h
  split at h
  · cases h
  · rename_i h0
    repeat' (split at h)
    all_goals first
      | (cases h; done)
      | (cases h; omega)
      | skip
    · unfold numE at h
      split at h
      · cases h
      · rename_i h1
        have hg := hexGo_in b n 6 2 0 (by omega) (.inr (.inr trivial))
        split at h
        · cases h
        · rename_i h2
          have h3 := hg.2.2.2 (by omega)
          split at h
          · cases h; omega
          · cases h

set_option maxRecDepth 100000 in
theorem sign_at (s : ByteArray) (hs : s.size ≤ 1000000) (k : Nat) (hk : k < s.size) (W : World) (T : U8 W) :
    Calls Tryd.prog 51 #[.string s, .int .i64 (k : Int)] W fun e w' => e = .returned (sgnV (sgnE s k)) ∧ Below W.heap.size W w' := by
  have HA := Lib.hid (at_in s k W T hk)
  have hsz : (s.extract (k + 1) s.size).size = s.size - (k + 1) := ext_size s (Nat.le_refl _)
  have HES := Lib.hid (fun w => esc_any (s.extract (k + 1) s.size) (by omega) w)
  have hw := (txt s).w_pos k
  have hw4 := (txt s).w_le k
  have hr := (txt s).r_lt k
  obtain ⟨V, hV⟩ : ∃ V, sgnV (sgnE s k) = V := ⟨_, rfl⟩
  rw [hV]
  unfold sgnE at hV
  unfold itemV at HA
  obtain ⟨R, hR⟩ : ∃ R, (txt s).r k = R := ⟨_, rfl⟩
  obtain ⟨K, hK⟩ : ∃ K, (txt s).w k = K := ⟨_, rfl⟩
  obtain ⟨O, hO⟩ : ∃ O, (txt s).ok k = O := ⟨_, rfl⟩
  obtain ⟨E, hE⟩ : ∃ E, escE (txt (s.extract (k + 1) s.size)).b (s.extract (k + 1) s.size).size = E := ⟨_, rfl⟩
  have hEin : ∀ r m, E = some (r, m) → m ≤ s.size := fun r m h => by have := (escE_in (hE.trans h)).1; omega
  rw [hR, hK, hO] at hV HA
  rw [hR] at hr
  rw [hK] at hw hw4
  rw [hE] at hV HES
  have HV := Lib.hid hV
  have HEI := Lib.hid hEin
  have HSZ := Lib.hid hsz
  clear hR hK hO hE hV hEin hsz T
  cases O with
  | false =>
    have HV := Lib.hid (HV.out)
    go_enter Tryd.func51, Tryd.ntmps51
    go_wp2_with fail
    refine HA.out.mono ?_
    rintro e w1 ⟨rfl, hb⟩
    have HB := Lib.hid (hb.alloc hb.size (.cells #[.int .i64 (k : Int), .int .i64 (K : Int), .int .i32 (R : Int), .bool false] 110))
    clear hb
    go_wp2
    exact bodyPost_ret (results_tmp3 rfl _ _ _) rfl ⟨by rw [← HV.out]; rfl, HB.out⟩
  | true =>
    by_cases h92 : R = 92
    · have d1 : ((R : Int) != 92) = false := by rw [h92]; rfl
      have HV : Hid (sgnV (behindEsc k E) = V) := by
        have := HV.out
        rw [if_neg (by simp), if_neg (by simpa using h92)] at this
        exact Lib.hid this
      clear h92
      cases E with
      | none =>
        have HV2 : Hid (sgnV (.err 12) = V) := HV.out
        unfold escV at HES
        go_enter Tryd.func51, Tryd.ntmps51
        go_wp2_with fail
        refine HA.out.mono ?_
        rintro e w1 ⟨rfl, hb⟩
        have HB := Lib.hid (hb.alloc hb.size (.cells #[.int .i64 (k : Int), .int .i64 (K : Int), .int .i32 (R : Int), .bool true] 110))
        clear hb
        go_wp2_with fail
        refine (HES.out _).mono ?_
        rintro e w2 ⟨rfl, rfl⟩
        go_wp2
        exact bodyPost_ret (results_tmp3 rfl _ _ _) rfl ⟨by rw [← HV2.out]; rfl, HB.out⟩
      | some rn =>
        obtain ⟨r, m⟩ := rn
        have hm := HEI.out r m rfl
        have HV2 : Hid (sgnV (.sgn r (k + 1 + m)) = V) := HV.out
        unfold escV at HES
        go_enter Tryd.func51, Tryd.ntmps51
        go_wp2_with fail
        refine HA.out.mono ?_
        rintro e w1 ⟨rfl, hb⟩
        have HB := Lib.hid (hb.alloc hb.size (.cells #[.int .i64 (k : Int), .int .i64 (K : Int), .int .i32 (R : Int), .bool true] 110))
        clear hb
        go_wp2_with fail
        refine (HES.out _).mono ?_
        rintro e w2 ⟨rfl, rfl⟩
        go_wp2
        exact bodyPost_ret (results_tmp3 rfl _ _ _) rfl ⟨by rw [← HV2.out]; unfold sgnV; go_num, HB.out⟩
    · have d1 : ((R : Int) != 92) = true := by simp; omega
      have HV : Hid (sgnV (.sgn (R : Int) (k + K)) = V) := by
        have := HV.out
        rw [if_neg (by simp), if_pos h92] at this
        exact Lib.hid this
      clear h92
      go_enter Tryd.func51, Tryd.ntmps51
      go_wp2_with fail
      refine HA.out.mono ?_
      rintro e w1 ⟨rfl, hb⟩
      have HB := Lib.hid (fun n => below_drewN (hb.alloc hb.size (.cells #[.int .i64 (k : Int), .int .i64 (K : Int), .int .i32 (R : Int), .bool true] 110)) n)
      have ws : IntKind.i64.wrap ((k : Int) + (K : Int)) = (k : Int) + K := IntWalk.i64_in _ (by omega)
      clear hb
      go_wp2_with fail
      go_quiet (fail)
      go_wp2
      exact bodyPost_ret (results_tmp3 rfl _ _ _) rfl ⟨by rw [← HV.out]; unfold sgnV; go_num, HB.out _⟩

end Go.Proofs.YtfjlhfalnciamaaDoor.Chars
