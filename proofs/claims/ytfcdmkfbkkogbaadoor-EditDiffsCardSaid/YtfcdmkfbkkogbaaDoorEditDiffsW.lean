/- The law EditDiffs, walked. -/
import Derived.Test.YtfcdmkfbkkogbaaDoorEditN
import Derived.IntWalk
namespace Go.Proofs.YtfcdmkfbkkogbaaDoor.Edit
open Go Go.RowKit Go.Proofs.YtfcdmkfbkkogbaaDoor.Utf

set_option maxRecDepth 100000 in
set_option maxHeartbeats 4000000 in
theorem diffs_walk (a b : ByteArray) (W : World) (h : U8 W) :
    Calls Tryd.prog 9 #[.string a, .string b] W fun e w' => e = .returned (.bool true) ∧ Below W.heap.size W w' := by
  by_cases hl : 300 < a.size
  · have e1 : decide ((300 : Int) < (a.size : Int)) = true := decide_eq_true (by omega)
    go_enter Tryd.func9, Tryd.ntmps9
    go_wp2
    go_ret
    exact ⟨rfl, Below.refl _ _⟩
  have e1 : decide ((300 : Int) < (a.size : Int)) = false := decide_eq_false (by omega)
  by_cases hl2 : 300 < b.size
  · have e2 : decide ((300 : Int) < (b.size : Int)) = true := decide_eq_true (by omega)
    go_enter Tryd.func9, Tryd.ntmps9
    go_wp2
    go_ret
    exact ⟨rfl, Below.refl _ _⟩
  have e2 : decide ((300 : Int) < (b.size : Int)) = false := decide_eq_false (by omega)
  have ha6 : a.size ≤ 300 := by omega
  have hb6 : b.size ≤ 300 := by omega
  have HR := Lib.hid (refdiff_any a b W (by omega) (by omega))
  have HD := Lib.hid (fun w hw => diff_any a b w hw (by omega) (by omega))
  have H28 := Lib.hid (fun w hw => works_any w hw)
  have hle := end_le a b
  unfold editV at HD
  obtain ⟨p, hp⟩ : ∃ p, atN a b = p := ⟨_, rfl⟩
  obtain ⟨q, hq⟩ : ∃ p, endN a b = p := ⟨_, rfl⟩
  rw [hp, hq] at HR HD hle
  obtain ⟨f, hf⟩ : ∃ f : Nat, b.size - q = f := ⟨_, rfl⟩
  rw [hf] at HD
  have ef : (b.size : Int) - (q : Int) = (f : Int) := by omega
  have hpf : (p : Int) ≤ (f : Int) := by omega
  have hfs : (f : Int) ≤ (b.size : Int) := by omega
  obtain ⟨g, hg⟩ : ∃ g : Nat, a.size - q - p = g := ⟨_, rfl⟩
  have eg : (a.size : Int) - (q : Int) - (p : Int) = (g : Int) := by omega
  have hqa : (q : Int) ≤ (a.size : Int) := by omega
  have hpa : (p : Int) ≤ (a.size : Int) := by omega
  rw [eg] at HD
  have HT := Lib.hid h
  obtain ⟨u, hu⟩ : ∃ u : Nat, a.size - q = u := ⟨_, rfl⟩
  have eu : (a.size : Int) - (q : Int) = (u : Int) := by omega
  have eg2 : (u : Int) - (p : Int) = (g : Int) := by omega
  have w1 : IntKind.i64.wrap (f : Int) = (f : Int) := IntWalk.i64_in _ (by omega)
  have w2 : IntKind.i64.wrap (g : Int) = (g : Int) := IntWalk.i64_in _ (by omega)
  have w3 : IntKind.i64.wrap (u : Int) = (u : Int) := IntWalk.i64_in _ (by omega)
  have w4 : IntKind.i64.wrap ((b.size : Int) - (q : Int)) = (f : Int) := by rw [ef]; exact w1
  have w5 : IntKind.i64.wrap ((a.size : Int) - (q : Int)) = (u : Int) := by rw [eu]; exact w3
  have w6 : IntKind.i64.wrap ((u : Int) - (p : Int)) = (g : Int) := by rw [eg2]; exact w2
  have hp0 : (0 : Int) ≤ (p : Int) := by omega
  have hf0 : (0 : Int) ≤ (f : Int) := by omega
  clear hl hl2 hp hq hf hg h hu eg
  go_enter Tryd.func9, Tryd.ntmps9
  go_wp2_with fail
  refine HR.out.mono ?_
  rintro e w1 ⟨rfl, hb⟩
  have HB1 := Lib.hid hb
  have HT1 := Lib.hid (HT.out.stay hb)
  clear hb
  go_upto_region 4 with fail
  go_region_held3 (fun _ => True) (first | trivial | go_keep)
    (first
      | (go_at_call 30; refine (HD.out _ (HT1.out.stay (Below.refl _ _).drew)).mono ?_; rintro e w2 ⟨rfl, hb⟩; have HB2 := Lib.hid (HB1.out.drew.trans (hb.mono HB1.out.size)); have HT2 := Lib.hid ((HT1.out.stay (Below.refl _ _).drew).stay hb); clear hb)
      | (go_at_call 28; refine (H28.out _ HT2.out).mono ?_; rintro e w3 ⟨rfl, hb⟩; have HB3 := Lib.hid (HB2.out.trans (hb.mono HB2.out.size)); clear hb))
  go_wp2
  go_ret
  exact ⟨rfl, HB3.out⟩

end Go.Proofs.YtfcdmkfbkkogbaaDoor.Edit
