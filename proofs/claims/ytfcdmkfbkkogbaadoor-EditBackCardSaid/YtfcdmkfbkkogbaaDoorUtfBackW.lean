/- The law UtfBack, walked. -/
import Derived.Test.YtfcdmkfbkkogbaaDoorUtfN
namespace Go.Proofs.YtfcdmkfbkkogbaaDoor.Utf
open Go Go.RowKit

theorem encN_pos {k : Nat} (hv : Lib.validRune (k : Int) = true) : encN k ≠ [] := by
  have h := (valid_iff (k : Int)).1 hv
  unfold encN
  rw [if_neg (by omega)]
  repeat' split
  all_goals simp
theorem txt_size (s : ByteArray) : (txt s).n = s.size := rfl
theorem txt_byte (s : ByteArray) (i : Nat) : (txt s).b i = (s.data.toList.getD i 0).toNat := by rw [Lib.getD_get!']; rfl
theorem app_size (a b : ByteArray) : (a ++ b).size = a.size + b.size := by simp
/-- A sign's bytes ahead of a text. -/
theorem enc_ahead (k : Nat) (B s : ByteArray) (hB : B.data.toList.map UInt8.toNat = encN k) (hne : encN k ≠ []) : (txt (B ++ s)).dc 0 = (k, B.size) := by
  have hsz : B.size = (encN k).length := by rw [Lib.size_eq, ← hB, List.length_map]
  rw [hsz]
  obtain ⟨L, hL⟩ : ∃ L, encN k = L := ⟨_, rfl⟩
  rw [hL] at hB hsz
  have key := Txt.enc (txt (B ++ s)) 0 k hne
  rw [hL] at key ⊢
  refine key ?_ ?_
  · rw [txt_size, app_size, hsz]; omega
  · intro i x hx
    have hi := (List.getElem?_eq_some_iff.1 hx).1
    rw [Nat.zero_add]
    have h1 := (txt_append B s).l i (by rw [txt_size, hsz]; exact hi)
    rw [h1, txt_byte, List.getD_eq_getElem?_getD]
    rw [← hB, List.getElem?_map, Option.map_eq_some_iff] at hx
    obtain ⟨u, hu, rfl⟩ := hx
    rw [hu]; rfl
theorem enc_count (k : Nat) (B s : ByteArray) (hB : B.data.toList.map UInt8.toNat = encN k) (hne : encN k ≠ []) : (txt (B ++ s)).cnt = 1 + (txt s).cnt := by
  have hJ := txt_append B s
  have hd := enc_ahead k B s hB hne
  have hp : (txt (B ++ s)).pos 1 = B.size := by
    rw [Txt.pos, Txt.pos]
    unfold Txt.w
    rw [hd, Nat.zero_add]
  have ha := hJ.pos_ahead 1 (by rw [hp, txt_size]; exact Nat.le_refl _)
  have hc : (txt B).cnt = 1 := Txt.cnt_of _ (by rw [ha, hp, txt_size])
  have := (hJ.cnt_yes ⟨1, by rw [hp, txt_size]⟩).1
  rw [this, hc]
theorem enc_right (k : Nat) (B s : ByteArray) (hB : B.data.toList.map UInt8.toNat = encN k) (hne : encN k ≠ []) : rightB (B ++ s) = rightB s := by
  have hd := enc_ahead k B s hB hne
  have hsz : B.size = (encN k).length := by rw [Lib.size_eq, ← hB, List.length_map]
  have hpos : 0 < (encN k).length := List.length_pos_iff.2 hne
  have hl : (B ++ s).data.toList = B.data.toList ++ s.data.toList := by simp
  have hne2 : B.data.toList ++ s.data.toList ≠ [] := by
    intro h
    have h1 := (List.append_eq_nil_iff.1 h).1
    rw [h1] at hB
    exact hne hB.symm
  have hdl : Lib.decodeL (B.data.toList ++ s.data.toList) = (k, B.size) := by
    rw [← hl, decodeL_txt]
    exact hd
  have hno : ¬ (k = 65533 ∧ B.size = 1) := by
    rintro ⟨h1, h2⟩
    rw [hsz, h1] at h2
    have : (encN 65533).length = 3 := by decide
    omega
  unfold rightB
  rw [hl, Lib.validD_step _ hne2, hdl, if_neg hno, List.drop_append_of_le_length (by rw [Lib.size_eq]; exact Nat.le_refl _), List.drop_of_length_le (by rw [Lib.size_eq]; exact Nat.le_refl _), List.nil_append]
theorem encN_le (k : Nat) : (encN k).length ≤ 4 := by
  unfold encN; repeat' split
  all_goals simp
/-- A sign's bytes, as the first item. -/
theorem enc_item (k : Nat) (B s : ByteArray) (hB : B.data.toList.map UInt8.toNat = encN k) (hne : encN k ≠ []) : itemV (txt (B ++ s)) 0 = .agg #[.int .i64 0, .int .i64 (B.size : Int), .int .i32 (k : Int), .bool true] := by
  have hd := enc_ahead k B s hB hne
  have hsz : B.size = (encN k).length := by rw [Lib.size_eq, ← hB, List.length_map]
  have hpos : 0 < (encN k).length := List.length_pos_iff.2 hne
  have hok : (txt (B ++ s)).ok 0 = true := by
    unfold Txt.ok Txt.r Txt.w
    rw [hd]
    by_cases h1 : k = 65533
    · have : (encN 65533).length = 3 := by decide
      rw [h1] at hsz
      rw [decide_eq_true (show 1 < (k, B.size).2 by show 1 < B.size; omega), Bool.or_true]
    · rw [decide_eq_true (show (k, B.size).1 ≠ 65533 from h1), Bool.true_or]
  unfold itemV
  rw [hok]
  unfold Txt.w Txt.r
  rw [hd]; rfl

set_option maxRecDepth 100000 in
theorem back_walk (r : Int) (s : ByteArray) (W : World) (h : G W) (hr : -2147483648 ≤ r ∧ r ≤ 2147483647) :
    Calls Tryd.prog 5 #[.int .i32 r, .string s] W fun e w' => e = .returned (.bool true) ∧ Below W.heap.size W w' := by
  by_cases hl : 1000 < s.size
  · have e1 : decide ((1000 : Int) < (s.size : Int)) = true := decide_eq_true (by omega)
    go_enter Tryd.func5, Tryd.ntmps5
    go_wp2
    go_ret
    exact ⟨rfl, Below.refl _ _⟩
  have e1 : decide ((1000 : Int) < (s.size : Int)) = false := decide_eq_false (by omega)
  have hs6 : s.size ≤ 1000 := by omega
  have H1 := Lib.hid (enc_any r W)
  have HG := Lib.hid h
  obtain ⟨v, hv⟩ : ∃ v, Lib.validRune r = v := ⟨_, rfl⟩
  obtain ⟨E, hE⟩ : ∃ E, encB r = E := ⟨_, rfl⟩
  have HV := Lib.hid hv
  have HE := Lib.hid hE
  rw [hv, hE] at H1
  clear h hl hv hE
  go_enter Tryd.func5, Tryd.ntmps5
  go_wp2_with fail
  refine H1.out.mono ?_
  rintro e w1 ⟨rfl, rfl⟩
  clear H1
  go_upto_if 19 with fail
  go_cut [7] (fun x wx => G wx ∧ Below W.heap.size W wx)
  case first =>
    cases v with
    | false =>
      go_wp2_with fail
      go_meet
      exact ⟨HG.out, Below.refl _ _⟩
    | true =>
      have hi := (valid_iff r).1 HV.out
      obtain ⟨k, rfl⟩ := Int.eq_ofNat_of_zero_le (show 0 ≤ r by omega)
      have hk : (k : Int) ≤ 1114111 := by omega
      have hB := encB_nat k
      rw [HE.out] at hB
      have hne := encN_pos HV.out
      have hsz : E.size = (encN k).length := by rw [Lib.size_eq, ← hB, List.length_map]
      have hpos : 0 < (encN k).length := List.length_pos_iff.2 hne
      have hle := encN_le k
      have hct := enc_count k E s hB hne
      have hrt := enc_right k E s hB hne
      have hitem := enc_item k E s hB hne
      have hE4 : E.size ≤ 4 := by omega
      have hE0 : 0 < E.size := by omega
      have hes := app_size E s
      have H2 := Lib.hid (fun w hw => at_in (E ++ s) 0 w hw (by omega))
      rw [hitem] at H2
      have H3 := Lib.hid (fun w => count_any (E ++ s) w (by omega))
      rw [hct] at H3
      have H4 := Lib.hid (fun w => count_any s w (by omega))
      have H5 := Lib.hid (fun w hw => right_any (E ++ s) w hw (by omega))
      rw [hrt] at H5
      have H6 := Lib.hid (fun w hw => right_any s w hw (by omega))
      have hcl := (txt s).cnt_le
      have hcl6 : (txt s).cnt ≤ 1000 := Nat.le_trans hcl hs6
      obtain ⟨c, hc⟩ : ∃ c, (txt s).cnt = c := ⟨_, rfl⟩
      obtain ⟨q, hq⟩ : ∃ q, rightB s = q := ⟨_, rfl⟩
      rw [hc] at H3 H4 hcl6
      rw [hq] at H5 H6
      have H3 : Hid (∀ w : World, Calls Tryd.prog 17 #[.string (E ++ s)] w fun e w' => e = .returned (.int .i64 (1 + (c : Int))) ∧ Below w.heap.size w w') := fun w => by
        have := H3.out w
        rw [show ((1 + c : Nat) : Int) = 1 + (c : Int) by omega] at this
        exact this
      have hqq : (q != q) = false := by simp
      have hkk : ((k : Int) != (k : Int)) = false := by simp
      have hee : ((E.size : Int) != (E.size : Int)) = false := by simp
      have hcc : ((1 + (c : Int)) != (1 + (c : Int))) = false := by simp
      clear hi hB hne hsz hpos hle hct hrt hitem hes hcl hc hq hr
      go_wp2_with fail
      refine (H2.out _ HG.out.1).mono ?_
      rintro e w2 ⟨rfl, hb2⟩
      have hba := (Below.refl w2.heap.size w2).alloc (Nat.le_refl _) (.cells #[.int .i64 0, .int .i64 (E.size : Int), .int .i32 (k : Int), .bool true] 27)
      have HG2 := Lib.hid ((HG.out.stay hb2).stay hba)
      have HB2 := Lib.hid (hb2.trans (hba.mono hb2.size))
      clear hb2 hba H2
      go_wp2_with fail
      refine (H3.out _).mono ?_
      rintro e w3 ⟨rfl, hb3⟩
      have HG3 := Lib.hid (HG2.out.stay hb3)
      have HB3 := Lib.hid (HB2.out.trans (hb3.mono HB2.out.size))
      clear hb3 HG2 HB2
      go_wp2_with fail
      refine (H4.out _).mono ?_
      rintro e w4 ⟨rfl, hb4⟩
      have HG4 := Lib.hid (HG3.out.stay hb4)
      have HB4 := Lib.hid (HB3.out.trans (hb4.mono HB3.out.size))
      clear hb4 HG3 HB3
      go_wp2_with fail
      refine (H5.out _ HG4.out.1).mono ?_
      rintro e w5 ⟨rfl, hb5⟩
      have HG5 := Lib.hid (HG4.out.stay hb5)
      have HB5 := Lib.hid (HB4.out.trans (hb5.mono HB4.out.size))
      clear hb5 HG4 HB4
      go_wp2_with fail
      refine (H6.out _ HG5.out.1).mono ?_
      rintro e w6 ⟨rfl, hb6⟩
      have HG6 := Lib.hid (HG5.out.stay hb6)
      have HB6 := Lib.hid (HB5.out.trans (hb6.mono HB5.out.size))
      clear hb6 HG5 HB5
      go_wp2_with fail
      go_meet
      exact ⟨HG6.out, HB6.out⟩
  case rest =>
    obtain ⟨hg, hB⟩ := hcut
    have HGc := Lib.hid hg
    have HBc := Lib.hid hB
    have HI := Lib.hid (items_any s wc hg.1 (by omega))
    have HCA := Lib.hid (fun a w hw => caret_any s a w hw (by omega))
    have HW := Lib.hid works_any
    have hil : (items (txt s)).length = (txt s).cnt := itemsTo_len _ _
    have hig : ∀ j, j < (txt s).cnt → (items (txt s))[j]? = some ((txt s).item ((txt s).pos j)) := fun j h => itemsTo_get h
    have HIG := Lib.hid hig
    obtain ⟨L, hL⟩ : ∃ L, items (txt s) = L := ⟨_, rfl⟩
    rw [hL] at HI hil HIG
    have hcle : (txt s).cnt ≤ 1000 := Nat.le_trans (txt s).cnt_le hs6
    clear hg hB hL HG HV HE hig
    go_wp2_with fail
    refine HI.out.mono ?_
    rintro e w2 ⟨vL, rfl, hrow, hb2⟩
    obtain ⟨S, hS⟩ : ∃ S, wc.heap.size = S := ⟨_, rfl⟩
    rw [hS] at hrow
    have HLN := hrow.len
    rw [hil] at HLN
    have HR := Lib.hid hrow
    have HG2 := Lib.hid (HGc.out.stay hb2)
    have HB2 := Lib.hid (HBc.out.trans (hb2.mono HBc.out.size))
    clear hrow hb2 hS HGc HBc HI
    go_wp2_with fail
    go_loopw [8, 10] (fun at' i wx => ∃ j : Nat, j ≤ (txt s).cnt ∧ i = .int .i64 (j : Int) ∧ at' = .int .i64 ((txt s).pos j : Int) ∧ Rowed wx S vL L ∧ G wx ∧ Below W.heap.size W wx) (fun _ i _ => (txt s).cnt - (intOf i).toNat)
    case atStart => exact ⟨0, Nat.zero_le _, rfl, rfl, HR.out, HG2.out, HB2.out⟩
    case round =>
      obtain ⟨j, hj, rfl, rfl, hrow, hg, hB⟩ := hrel
      have HR := Lib.hid hrow
      have HG3 := Lib.hid hg
      have HB3 := Lib.hid hB
      by_cases hlt : j < (txt s).cnt
      · have hx := HIG.out j hlt
        obtain ⟨g, cap, rfl, hcap, hcm, hgl, hcells⟩ := hrow.at (by omega)
        rw [hil] at hcap ⊢
        have c0 := hcells j _ hx 0 _ rfl
        have c1 := hcells j _ hx 1 _ rfl
        have hps : (txt s).pos (j + 1) = (txt s).pos j + (txt s).w ((txt s).pos j) := rfl
        have hcar : caretB (txt s) ((txt s).pos j : Int) = true := by
          rw [caret_iff]
          refine ⟨?_, j, rfl⟩
          exact Nat.le_of_lt ((txt s).pos_of_lt hlt)
        have hCA := HCA.out ((txt s).pos j : Int)
        rw [hcar] at hCA
        have hw1 := (txt s).w_pos ((txt s).pos j)
        have hp6 : (txt s).pos j ≤ 1000 := Nat.le_trans (Nat.le_of_lt ((txt s).pos_of_lt hlt)) hs6
        have hw4 := (txt s).w_le ((txt s).pos j)
        obtain ⟨p, hp⟩ : ∃ x, (txt s).pos j = x := ⟨_, rfl⟩
        obtain ⟨w0, hw0⟩ : ∃ x, (txt s).w p = x := ⟨_, rfl⟩
        rw [hp] at c0 c1 hps hCA hw1 hp6 hw4 ⊢
        have c0 : wr.cell? ⟨g, 4 * j, none⟩ = some (.int .i64 (p : Int)) := c0
        have c1 : wr.cell? ⟨g, 4 * j + 1, none⟩ = some (.int .i64 ((txt s).w p : Int)) := c1
        rw [hw0] at c1 hps hw1 hw4
        have HPS := Lib.hid hps
        have HCA1 := Lib.hid hCA
        have hj6 : (j : Int) < (txt s).cnt := by omega
        have hpp : ((p : Int) != (p : Int)) = false := by simp
        have hw1d : decide ((w0 : Int) < 1) = false := decide_eq_false (by omega)
        clear hrow hg hB hx hcells hp hw0 hps hCA hcar
        have c0 : wr.cell? ⟨g, j * 4, none⟩ = some (.int .i64 (p : Int)) := by rw [Nat.mul_comm]; exact c0
        have c1 : wr.cell? ⟨g, j * 4 + 1, none⟩ = some (.int .i64 (w0 : Int)) := by rw [Nat.mul_comm]; exact c1
        go_wp2_with fail
        refine (HCA1.out _ HG3.out.1).mono ?_
        rintro e w3 ⟨rfl, hb3⟩
        have d1 : w3.cell? ⟨g, j * 4 + 1, none⟩ = some (.int .i64 (w0 : Int)) := (hb3.cell (p := ⟨g, j * 4 + 1, none⟩) hgl).trans c1
        have HR4 := Lib.hid (HR.out.stay hb3)
        have HG4 := Lib.hid (HG3.out.stay hb3)
        have HB4 := Lib.hid (HB3.out.trans (hb3.mono HB3.out.size))
        clear hb3 c0 c1 HR HG3 HB3
        go_wp2
        go_roundw
        case rel => exact ⟨j + 1, by omega, by go_num, by rw [HPS.out]; go_num, by have h := HR4.out; rw [hil] at h; exact h, HG4.out, HB4.out⟩
        case measure => simp [intOf]; omega
      · obtain rfl : j = (txt s).cnt := by omega
        have hpe : (txt s).pos (txt s).cnt = s.size := (txt s).pos_cnt
        rw [hpe]
        have hc1 : caretB (txt s) (s.size : Int) = true := by rw [caret_iff]; exact ⟨Nat.le_refl _, _, hpe⟩
        have hc2 : caretB (txt s) (-1) = false := caret_no _ (.inl (by omega))
        have hc3 : caretB (txt s) ((s.size : Int) + 1) = false := caret_no _ (.inr (by rw [txt_size]; omega))
        have H1 := HCA.out (s.size : Int)
        have H2 := HCA.out (-1)
        have H3 := HCA.out ((s.size : Int) + 1)
        rw [hc1] at H1
        rw [hc2] at H2
        rw [hc3] at H3
        have H1 := Lib.hid H1
        have H2 := Lib.hid H2
        have H3 := Lib.hid H3
        have hss : ((s.size : Int) == (s.size : Int)) = true := by simp
        clear hrow hg hB hpe hc1 hc2 hc3 hj hlt
        go_wp2_with fail
        refine (H1.out _ HG3.out.1).mono ?_
        rintro e w3 ⟨rfl, hb3⟩
        have HG4 := Lib.hid (HG3.out.stay hb3)
        have HB4 := Lib.hid (HB3.out.trans (hb3.mono HB3.out.size))
        clear hb3 HG3 HB3
        go_wp2_with fail
        refine (H2.out _ HG4.out.1).mono ?_
        rintro e w4 ⟨rfl, hb3⟩
        have HG5 := Lib.hid (HG4.out.stay hb3)
        have HB5 := Lib.hid (HB4.out.trans (hb3.mono HB4.out.size))
        clear hb3 HG4 HB4
        go_wp2_with fail
        refine (H3.out _ HG5.out.1).mono ?_
        rintro e w5 ⟨rfl, hb3⟩
        have HG6 := Lib.hid (HG5.out.stay hb3)
        have HB6 := Lib.hid (HB5.out.trans (hb3.mono HB5.out.size))
        clear hb3 HG5 HB5
        go_wp2_with fail
        refine (HW.out _ HG6.out).mono ?_
        rintro e w6 ⟨rfl, hb3⟩
        have HB7 := Lib.hid (HB6.out.trans (hb3.mono HB6.out.size))
        clear hb3
        go_wp2
        go_ret
        exact ⟨rfl, HB7.out⟩

end Go.Proofs.YtfcdmkfbkkogbaaDoor.Utf
