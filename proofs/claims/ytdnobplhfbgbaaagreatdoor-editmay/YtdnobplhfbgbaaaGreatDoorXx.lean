/-
  The law EditMay, walked.
-/
import Derived.Test.YtdnobplhfbgbaaaGreatDoorXv
import Derived.Test.YtdnobplhfbgbaaaGreatDoorWd
namespace Go.Proofs.YtdnobplhfbgbaaaGreatDoor
open Go.RowKit Go.Joins

set_option maxRecDepth 100000 in
set_option maxHeartbeats 4000000 in
theorem may_out (A : Option Addr) (n c : Nat) (W : World) (hM : Ml W) (hn : 150 < n) : Calls Tryz.prog 5 #[.slice A n c] W fun e W' => e = .returned (.bool true) ∧ Below W.heap.size W W' := by
  have h8 := ebegun_any W hM
  have hd : decide ((150 : Int) < (n : Int)) = true := by simp; omega
  go_enter Tryz.func5, Tryz.ntmps5
  go_wp2_with (go_at_call 19; refine h8.mono ?_; rintro e w1 ⟨rfl, hB1⟩)
  go_ret
  exact ⟨rfl, hB1⟩
set_option maxRecDepth 100000 in
set_option maxHeartbeats 16000000 in
theorem may_law (A : Option Addr) (n c : Nat) (bs : List Nat) (W : World) (hM : Ml W) (hv : Tx W (.slice A n c) bs) (hn : bs.length = n) (h150 : n ≤ 150) : Calls Tryz.prog 5 #[.slice A n c] W fun e W' => e = .returned (.bool true) ∧ Below W.heap.size W W' := by
  have h8 := ebegun_any W hM
  have hd60 : decide ((150 : Int) < (n : Int)) = false := by simp; omega
  have HM := Lib.hid hM
  have HV := Lib.hid hv
  clear hM hv
  go_enter Tryz.func5, Tryz.ntmps5
  go_wp2_with (go_at_call 19; refine h8.mono ?_; rintro e w1 ⟨rfl, hB1⟩; have h9 := made_any A n c w1)
  refine h9.mono ?_
  rintro e w2 ⟨g, rfl, hg, hx, hB2⟩
  have hP := Pw.start hB1 hg hx hB2
  have HP := Lib.hid hP
  clear h9 hx hg hB1 hB2 hP h8
  go_wp2_with (go_at_call 33; go_loud (refine (rnew_any w2).mono ?_; rintro e w3 ⟨v, rfl, hO, hB3⟩))
  have hT := hO.row PT.new_fit
  have hP3 := HP.out.on hB3 HP.out.lt
  have HT0 := Lib.hid hT
  have HP0 := Lib.hid hP3
  clear hO hB3 hT hP3 HP
  go_loopw [4, 5] (fun u i wr => ∃ (k : Nat) (t' : List PT.N), k ≤ 50 ∧ i = .int .i64 (k : Int) ∧ Ts wr u t' ∧ PT.Fine t' ∧ Pw W A n c g wr) (fun _ i _ => 50 - (intOf i).toNat)
  case atStart => exact ⟨0, PT.new, by decide, rfl, HT0.out, PT.new_fine, HP0.out⟩
  case round =>
    obtain ⟨k, t', hk, rfl, hT, hF, hP⟩ := hrel
    by_cases hlt : k < 50
    · have HT1 := Lib.hid hT
      have HF1 := Lib.hid hF
      have HP1 := Lib.hid hP
      clear hT hF hP
      have hd : decide ((k : Int) < 50) = true := by simp; omega
      go_wp2_with (go_at_call 34; refine (overP _ HP1.out).mono ?_; rintro e w1 ⟨ob, rfl, hB1⟩; have hP1 := HP1.out.on hB1 HP1.out.lt; have hT1 := HT1.out.below hB1; cases ob)
      · have hedit := edit_try HV.out hn w1 hP1
        simp only [sc] at hedit
        have HT2 := Lib.hid hT1
        have HP2 := Lib.hid hP1
        clear hT1 hP1 hB1
        go_wp2_with fail
        refine hedit.mono ?_
        rintro e w2 ⟨kd, md, off, p, tw, tx, rfl, q1, q2, q3, q4, q5, hP2, hN2⟩
        have hT2 : Ts w2 u4 t' := by
          obtain ⟨_, _, ix, _, hx⟩ := HP2.out
          exact HT2.out.nx HF1.out.len hx hN2
        have HP3 := Lib.hid (hP2.on (al w2 (.cells #[.int .i64 kd, .int .i64 0, .int .i64 0, .int .i64 md, .int .i64 off, .string p, .string tw, .string tx, .slice none 0 0] 52)) hP2.lt)
        have HT3 := Lib.hid (hT2.below (al w2 (.cells #[.int .i64 kd, .int .i64 0, .int .i64 0, .int .i64 md, .int .i64 off, .string p, .string tw, .string tx, .slice none 0 0] 52)))
        have HM3 := Lib.hid (HM.out.below HP3.out.1)
        have hbx := Bx.new w2 52 #[.int .i64 kd, .int .i64 0, .int .i64 0, .int .i64 md, .int .i64 off, .string p, .string tw, .string tx, .slice none 0 0]
        clear hedit hP2 hN2 hT2 HT2 HP2
        go_upto_region 11 with fail
        generalize w2.alloc (.cells #[.int .i64 kd, .int .i64 0, .int .i64 0, .int .i64 md, .int .i64 off, .string p, .string tw, .string tx, .slice none 0 0] 52) = w3 at *
        generalize w2.heap.size = gx at *
        have c0 := hbx.cell 0
        have c3 := hbx.cell 3
        have c5 := hbx.cell 5
        have c6 := hbx.cell 6
        simp at c0 c3 c5 c6
        clear hbx
        by_cases hk1 : kd = 1
        · subst hk1
          have hF3 := PT.make_fine HF1.out (PT.pp false p) md 6 0
          have hno := fun h => PT.make_no (t := t') (p := PT.pp false p) (kd := md) (md := 6) (ino := 0) h
          obtain ⟨⟨x, er⟩, hx⟩ : ∃ x, PT.make t' (PT.pp false p) md 6 0 = x := ⟨_, rfl⟩
          have hop := emakeV u4 t' false p md 6 0 _ HM3.out HT3.out HF1.out q3
          rw [hx] at hop hF3 hno
          dsimp only at hop hF3 hno
          have hmt := fun v W (h : Ts W v x) => rmaytree_any v x W h
          rw [(PT.may_iff x).2 hF3] at hmt
          have HMT := Lib.hid hmt
          have HF3 := Lib.hid hF3
          have HOP := Lib.hid hop
          rcases Classical.em (er = 0) with hz | hz
          · subst hz
            clear hmt hop hno hx hF3
            go_wp2_with (first | (go_at_call 36; go_loud (refine (HMT.out _ _ hT4).mono ?_; rintro e w5 ⟨rfl, hB5⟩)) | (go_at_call 24; go_loud (refine HOP.out.mono ?_; rintro e w4 ⟨v4, rfl, hT4, hB4⟩)))
            go_roundw
            case rel => exact ⟨k + 1, x, by omega, by go_num, hT4.below hB5, HF3.out, (HP3.out.on hB4 HP3.out.lt).on hB5 (Nat.lt_of_lt_of_le HP3.out.lt hB4.size)⟩
            case measure => simp [intOf]; omega
          · have hqb : (er == 0) = false := by simpa using hz
            have hxt := hno hz
            have hsm := fun v v' W (h : Ts W v x) (h' : Ts W v' t') => rsame_any v v' x t' W h h'
            rw [decide_eq_true hxt] at hsm
            have HSM := Lib.hid hsm
            clear hmt hop hno hx hF3 hxt hsm
            go_wp2_with (first | (go_at_call 26; go_loud (refine (HSM.out _ _ _ (hT4.below hB5) ((HT3.out.below hB4).below hB5)).mono ?_; rintro e w6 ⟨rfl, hB6⟩)) | (go_at_call 36; go_loud (refine (HMT.out _ _ hT4).mono ?_; rintro e w5 ⟨rfl, hB5⟩)) | (go_at_call 24; go_loud (refine HOP.out.mono ?_; rintro e w4 ⟨v4, rfl, hT4, hB4⟩)))
            go_roundw
            case rel => exact ⟨k + 1, x, by omega, by go_num, (hT4.below hB5).below hB6, HF3.out, ((HP3.out.on hB4 HP3.out.lt).on hB5 (Nat.lt_of_lt_of_le HP3.out.lt hB4.size)).on hB6 (Nat.lt_of_lt_of_le HP3.out.lt (Nat.le_trans hB4.size hB5.size))⟩
            case measure => simp [intOf]; omega
        by_cases hk2 : kd = 2
        · subst hk2
          have hF3 := PT.link_fine HF1.out (PT.pp false p) (PT.pp false tw)
          have hno := fun h => PT.link_no (t := t') (p := PT.pp false p) (q := PT.pp false tw) h
          obtain ⟨⟨x, er⟩, hx⟩ : ∃ x, PT.link t' (PT.pp false p) (PT.pp false tw) = x := ⟨_, rfl⟩
          have hop := elinkV u4 t' false p tw _ HM3.out HT3.out HF1.out q3 q4
          rw [hx] at hop hF3 hno
          dsimp only at hop hF3 hno
          have hmt := fun v W (h : Ts W v x) => rmaytree_any v x W h
          rw [(PT.may_iff x).2 hF3] at hmt
          have HMT := Lib.hid hmt
          have HF3 := Lib.hid hF3
          have HOP := Lib.hid hop
          rcases Classical.em (er = 0) with hz | hz
          · subst hz
            clear hmt hop hno hx hF3
            go_wp2_with (first | (go_at_call 36; go_loud (refine (HMT.out _ _ hT4).mono ?_; rintro e w5 ⟨rfl, hB5⟩)) | (go_at_call 27; go_loud (refine HOP.out.mono ?_; rintro e w4 ⟨v4, rfl, hT4, hB4⟩)))
            go_roundw
            case rel => exact ⟨k + 1, x, by omega, by go_num, hT4.below hB5, HF3.out, (HP3.out.on hB4 HP3.out.lt).on hB5 (Nat.lt_of_lt_of_le HP3.out.lt hB4.size)⟩
            case measure => simp [intOf]; omega
          · have hqb : (er == 0) = false := by simpa using hz
            have hxt := hno hz
            have hsm := fun v v' W (h : Ts W v x) (h' : Ts W v' t') => rsame_any v v' x t' W h h'
            rw [decide_eq_true hxt] at hsm
            have HSM := Lib.hid hsm
            clear hmt hop hno hx hF3 hxt hsm
            go_wp2_with (first | (go_at_call 26; go_loud (refine (HSM.out _ _ _ (hT4.below hB5) ((HT3.out.below hB4).below hB5)).mono ?_; rintro e w6 ⟨rfl, hB6⟩)) | (go_at_call 36; go_loud (refine (HMT.out _ _ hT4).mono ?_; rintro e w5 ⟨rfl, hB5⟩)) | (go_at_call 27; go_loud (refine HOP.out.mono ?_; rintro e w4 ⟨v4, rfl, hT4, hB4⟩)))
            go_roundw
            case rel => exact ⟨k + 1, x, by omega, by go_num, (hT4.below hB5).below hB6, HF3.out, ((HP3.out.on hB4 HP3.out.lt).on hB5 (Nat.lt_of_lt_of_le HP3.out.lt hB4.size)).on hB6 (Nat.lt_of_lt_of_le HP3.out.lt (Nat.le_trans hB4.size hB5.size))⟩
            case measure => simp [intOf]; omega
        by_cases hk3 : kd = 3
        · subst hk3
          have hF3 := PT.drop_fine HF1.out (PT.pp false p)
          have hno := fun h => PT.drop_no (t := t') (p := PT.pp false p) h
          obtain ⟨⟨x, er⟩, hx⟩ : ∃ x, PT.drop t' (PT.pp false p) = x := ⟨_, rfl⟩
          have hop := edropV u4 t' false p _ HM3.out HT3.out HF1.out q3
          rw [hx] at hop hF3 hno
          dsimp only at hop hF3 hno
          have hmt := fun v W (h : Ts W v x) => rmaytree_any v x W h
          rw [(PT.may_iff x).2 hF3] at hmt
          have HMT := Lib.hid hmt
          have HF3 := Lib.hid hF3
          have HOP := Lib.hid hop
          rcases Classical.em (er = 0) with hz | hz
          · subst hz
            clear hmt hop hno hx hF3
            go_wp2_with (first | (go_at_call 36; go_loud (refine (HMT.out _ _ hT4).mono ?_; rintro e w5 ⟨rfl, hB5⟩)) | (go_at_call 31; go_loud (refine HOP.out.mono ?_; rintro e w4 ⟨v4, rfl, hT4, hB4⟩)))
            go_roundw
            case rel => exact ⟨k + 1, x, by omega, by go_num, hT4.below hB5, HF3.out, (HP3.out.on hB4 HP3.out.lt).on hB5 (Nat.lt_of_lt_of_le HP3.out.lt hB4.size)⟩
            case measure => simp [intOf]; omega
          · have hqb : (er == 0) = false := by simpa using hz
            have hxt := hno hz
            have hsm := fun v v' W (h : Ts W v x) (h' : Ts W v' t') => rsame_any v v' x t' W h h'
            rw [decide_eq_true hxt] at hsm
            have HSM := Lib.hid hsm
            clear hmt hop hno hx hF3 hxt hsm
            go_wp2_with (first | (go_at_call 26; go_loud (refine (HSM.out _ _ _ (hT4.below hB5) ((HT3.out.below hB4).below hB5)).mono ?_; rintro e w6 ⟨rfl, hB6⟩)) | (go_at_call 36; go_loud (refine (HMT.out _ _ hT4).mono ?_; rintro e w5 ⟨rfl, hB5⟩)) | (go_at_call 31; go_loud (refine HOP.out.mono ?_; rintro e w4 ⟨v4, rfl, hT4, hB4⟩)))
            go_roundw
            case rel => exact ⟨k + 1, x, by omega, by go_num, (hT4.below hB5).below hB6, HF3.out, ((HP3.out.on hB4 HP3.out.lt).on hB5 (Nat.lt_of_lt_of_le HP3.out.lt hB4.size)).on hB6 (Nat.lt_of_lt_of_le HP3.out.lt (Nat.le_trans hB4.size hB5.size))⟩
            case measure => simp [intOf]; omega
        by_cases hk4 : kd = 4
        · subst hk4
          have hF3 := PT.move_fine HF1.out (PT.pp false p) (PT.pp false tw)
          have hno := fun h => PT.move_no (t := t') (p := PT.pp false p) (q := PT.pp false tw) h
          obtain ⟨⟨x, er⟩, hx⟩ : ∃ x, PT.move t' (PT.pp false p) (PT.pp false tw) = x := ⟨_, rfl⟩
          have hop := emoveV u4 t' false p tw _ HM3.out HT3.out HF1.out q3 q4
          rw [hx] at hop hF3 hno
          dsimp only at hop hF3 hno
          have hmt := fun v W (h : Ts W v x) => rmaytree_any v x W h
          rw [(PT.may_iff x).2 hF3] at hmt
          have HMT := Lib.hid hmt
          have HF3 := Lib.hid hF3
          have HOP := Lib.hid hop
          rcases Classical.em (er = 0) with hz | hz
          · subst hz
            clear hmt hop hno hx hF3
            go_wp2_with (first | (go_at_call 36; go_loud (refine (HMT.out _ _ hT4).mono ?_; rintro e w5 ⟨rfl, hB5⟩)) | (go_at_call 29; go_loud (refine HOP.out.mono ?_; rintro e w4 ⟨v4, rfl, hT4, hB4⟩)))
            go_roundw
            case rel => exact ⟨k + 1, x, by omega, by go_num, hT4.below hB5, HF3.out, (HP3.out.on hB4 HP3.out.lt).on hB5 (Nat.lt_of_lt_of_le HP3.out.lt hB4.size)⟩
            case measure => simp [intOf]; omega
          · have hqb : (er == 0) = false := by simpa using hz
            have hxt := hno hz
            have hsm := fun v v' W (h : Ts W v x) (h' : Ts W v' t') => rsame_any v v' x t' W h h'
            rw [decide_eq_true hxt] at hsm
            have HSM := Lib.hid hsm
            clear hmt hop hno hx hF3 hxt hsm
            go_wp2_with (first | (go_at_call 26; go_loud (refine (HSM.out _ _ _ (hT4.below hB5) ((HT3.out.below hB4).below hB5)).mono ?_; rintro e w6 ⟨rfl, hB6⟩)) | (go_at_call 36; go_loud (refine (HMT.out _ _ hT4).mono ?_; rintro e w5 ⟨rfl, hB5⟩)) | (go_at_call 29; go_loud (refine HOP.out.mono ?_; rintro e w4 ⟨v4, rfl, hT4, hB4⟩)))
            go_roundw
            case rel => exact ⟨k + 1, x, by omega, by go_num, (hT4.below hB5).below hB6, HF3.out, ((HP3.out.on hB4 HP3.out.lt).on hB5 (Nat.lt_of_lt_of_le HP3.out.lt hB4.size)).on hB6 (Nat.lt_of_lt_of_le HP3.out.lt (Nat.le_trans hB4.size hB5.size))⟩
            case measure => simp [intOf]; omega
        have e1 : (kd == 1) = false := by simpa using hk1
        have e2 : (kd == 2) = false := by simpa using hk2
        have e3 : (kd == 3) = false := by simpa using hk3
        have e4 : (kd == 4) = false := by simpa using hk4
        have hmt := fun v W (h : Ts W v t') => rmaytree_any v t' W h
        rw [(PT.may_iff t').2 HF1.out] at hmt
        have HMT := Lib.hid hmt
        clear hmt
        go_wp2_with (go_at_call 36; go_loud (refine (HMT.out _ _ HT3.out).mono ?_; rintro e w5 ⟨rfl, hB5⟩))
        go_roundw
        case rel => exact ⟨k + 1, t', by omega, by go_num, HT3.out.below hB5, HF1.out, HP3.out.on hB5 HP3.out.lt⟩
        case measure => simp [intOf]; omega
      · have HR := Lib.hid hP1.1
        clear hT1 hP1 hB1
        go_wp2
        go_ret
        exact ⟨rfl, HR.out⟩
    · have HR := Lib.hid hP.1
      clear hT hF hP
      have hd : decide ((k : Int) < 50) = false := by simp; omega
      go_wp2
      go_ret
      exact ⟨rfl, HR.out⟩
end Go.Proofs.YtdnobplhfbgbaaaGreatDoor
