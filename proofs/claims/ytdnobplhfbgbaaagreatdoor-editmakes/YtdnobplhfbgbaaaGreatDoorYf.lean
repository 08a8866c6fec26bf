/-
  The law EditMakes, walked.
-/
import Derived.Test.YtdnobplhfbgbaaaGreatDoorXv
import Derived.Test.YtdnobplhfbgbaaaGreatDoorYd
import Derived.Test.YtdnobplhfbgbaaaGreatDoorMYa
namespace Go.Proofs.YtdnobplhfbgbaaaGreatDoor
open Go.RowKit Go.Joins

theorem pp_new : PT.pp false { data := #[47, 110, 101, 119] } = some [{ data := #[110, 101, 119] }] := by decide +kernel
theorem PT.free_step {t : List PT.N} {k : Nat} {n : PT.N} (h : t[k]? = some n) : PT.free (t.drop k) k = if n.kind = 0 then ((k + 1 : Nat) : Int) else PT.free (t.drop (k + 1)) (k + 1) := by
  obtain ⟨hlt, rfl⟩ := List.getElem?_eq_some_iff.1 h
  rw [List.drop_eq_getElem_cons hlt, PT.free]
set_option maxRecDepth 100000 in
set_option maxHeartbeats 4000000 in
theorem makes_out (A : Option Addr) (n c : Nat) (kd md ino : Nat) (W : World) (hM : Ml W) (h60 : 60 < n) : Calls Tryz.prog 8 #[.slice A n c, .int .u8 (kd : Int), .int .u8 (md : Int), .int .u8 (ino : Int)] W fun e W' => e = .returned (.bool true) ∧ Below W.heap.size W W' := by
  have h8 := ebegun_any W hM
  have hd : decide ((60 : Int) < (n : Int)) = true := by simp; omega
  go_enter Tryz.func8, Tryz.ntmps8
  go_wp2_with (go_at_call 19; refine h8.mono ?_; rintro e w1 ⟨rfl, hB1⟩)
  go_ret
  exact ⟨rfl, hB1⟩
set_option maxRecDepth 100000 in
set_option maxHeartbeats 8000000 in
theorem makes_law (A : Option Addr) (n c : Nat) (bs : List Nat) (kd md ino : Nat) (hkd : kd < 256) (hmd : md < 256) (hino : ino < 256) (W : World) (hM : Ml W) (hv : Tx W (.slice A n c) bs) (hn : bs.length = n) (h60 : n ≤ 60) : Calls Tryz.prog 8 #[.slice A n c, .int .u8 (kd : Int), .int .u8 (md : Int), .int .u8 (ino : Int)] W fun e W' => e = .returned (.bool true) ∧ Below W.heap.size W W' := by
  have h8 := ebegun_any W hM
  have hd60 : decide ((60 : Int) < (n : Int)) = false := by simp; omega
  obtain ⟨o, hown⟩ : ∃ o : Nat, kd % 2 = o := ⟨_, rfl⟩
  have hro : Int.tmod (kd : Int) 2 = (o : Int) := by rw [← hown]; exact rfl
  obtain ⟨q, hq⟩ : ∃ q : Nat, ino % 11 = q := ⟨_, rfl⟩
  have hrq : Int.tmod (ino : Int) 11 = (q : Int) := by rw [← hq]; exact rfl
  have ho2 : o < 2 := by omega
  have hq11 : q < 11 := by omega
  have HM := Lib.hid hM
  have HV := Lib.hid hv
  clear hM hv
  go_enter Tryz.func8, Tryz.ntmps8
  go_wp2_with (go_at_call 19; refine h8.mono ?_; rintro e w1 ⟨rfl, hB1⟩; have h9 := made_any A n c w1)
  refine h9.mono ?_
  rintro e w2 ⟨g, rfl, hg, hx, hB2⟩
  have hP := Pw.start hB1 hg hx hB2
  have h10 := Q.treeP HV.out hn 30 (by decide) w2 hP
  clear h9 hx hg hB1 hB2 hP
  go_wp2_with fail
  refine h10.mono ?_
  rintro e w3 ⟨v, t, rfl, hT, hG, hP3⟩
  have hb3 := hP3.1
  have hl9 := hG.good.fine.len
  obtain ⟨T, TC, rfl⟩ := hT.form
  rw [hl9] at hT ⊢
  have HT := Lib.hid hT
  have HG := Lib.hid hG
  have HB3 := Lib.hid hb3
  obtain ⟨b0, o0, rfl, hb0, hcell⟩ := hT.at (by rw [hl9]; omega)
  have HC := Lib.hid hcell
  clear h8 h10 hT hG hP3 HV hb3 hcell
  have hw1 : IntKind.u8.wrap (q : Int) = (q : Int) := by rw [IntKind.wrap_u8]; omega
  have hw2 : IntKind.i64.wrap (q : Int) = (q : Int) := by rw [IntKind.wrap_i64]; omega
  have hmk := emakeV (.slice (some ⟨b0, o0, none⟩) 9 TC) t false { data := #[47, 110, 101, 119] } (1 + (o : Int)) (md : Int) (q : Int) w3 (HM.out.below HB3.out) HT.out HG.out.good.fine (by decide)
  have hfx := PT.make_fine HG.out.good.fine (some [{ data := #[110, 101, 119] }]) (1 + (o : Int)) (md : Int) (q : Int)
  rw [pp_new] at hmk
  have HMK := Lib.hid hmk
  have HFX := Lib.hid hfx
  clear hmk hfx
  have hw3 : IntKind.i64.wrap (md : Int) = (md : Int) := by rw [IntKind.wrap_i64]; omega
  go_wp2
  go_loopw [12, 13] (fun u i wr => ∃ (k : Nat), k ≤ 9 ∧ i = .int .i64 (k : Int) ∧ u = .int .i64 (PT.free (t.drop k) k) ∧ wr = w3) (fun _ i _ => (intOf i).toNat)
  case atStart => exact ⟨9, Nat.le_refl _, rfl, by rw [List.drop_of_length_le (by omega)]; rfl, rfl⟩
  case round =>
    obtain ⟨k, hk, rfl, rfl, rfl⟩ := hrel
    rcases k with _ | m
    · rw [List.drop_zero]
      by_cases h10 : q = 10
      · subst h10
        have hm : PT.make t (some [{ data := #[110, 101, 119] }]) (1 + (o : Int)) (md : Int) ((10 : Nat) : Int) = (t, 1) := by
          show (if PT.badMake _ _ _ = true then _ else _) = _
          rw [if_pos (by simp [PT.badMake])]
        have hmk := HMK.out
        rw [hm] at hmk
        dsimp only at hmk
        clear hm
        go_wp2_with fail
        refine hmk.mono ?_
        rintro e w4 ⟨v4, rfl, hT4, hB4⟩
        have hsm := rsame_any v4 _ t t w4 hT4 (HT.out.below hB4)
        rw [decide_eq_true (rfl : t = t)] at hsm
        clear hmk
        go_wp2_with fail
        refine hsm.mono ?_
        rintro e w5 ⟨rfl, hB5⟩
        go_wp2
        go_ret
        exact ⟨rfl, HB3.out.trans ((hB4.trans (hB5.mono hB4.size)).mono HB3.out.size)⟩
      · have hbad : PT.badMake (1 + (o : Int)) (md : Int) (q : Int) = false := by
          have h1 : o = 0 ∨ o = 1 := by omega
          rcases h1 with rfl | rfl <;> simp [PT.badMake] <;> omega
        have hqb : ((q : Int) == 10) = false := by simp; omega
        rcases PT.make_one_new HG.out (s := { data := #[110, 101, 119] }) (by decide) hbad with hm | ⟨h1, h2, hm⟩ | ⟨j, x, hj9, hj0, hj, hjk, hm, hxl, hxj, hfd⟩
        · have hmk := HMK.out
          rw [hm] at hmk
          dsimp only at hmk
          clear hm hbad
          go_wp2_with fail
          refine hmk.mono ?_
          rintro e w4 ⟨v4, rfl, hT4, hB4⟩
          have hsm := rsame_any v4 _ t t w4 hT4 (HT.out.below hB4)
          rw [decide_eq_true (rfl : t = t)] at hsm
          clear hmk
          go_wp2_with fail
          refine hsm.mono ?_
          rintro e w5 ⟨rfl, hB5⟩
          go_wp2
          go_ret
          exact ⟨rfl, HB3.out.trans ((hB4.trans (hB5.mono hB4.size)).mono HB3.out.size)⟩
        · obtain ⟨p, hp, hp9⟩ : ∃ p : Nat, (q : Int) = (p : Int) + 1 ∧ p < 9 := ⟨q - 1, by omega, by omega⟩
          have hpx : PT.px (q : Int) = p := by unfold PT.px; omega
          rw [hpx] at h2
          obtain ⟨np, hnp⟩ : ∃ np, t[p]? = some np := ⟨_, List.getElem?_eq_getElem (by omega)⟩
          rw [PT.kindAt_at hnp] at h2
          have hnb : (np.kind != 0) = true := by simpa using h2
          have hmk := HMK.out
          rw [hm] at hmk
          rw [hp] at hmk ⊢
          dsimp only at hmk
          have hqb' : ((p : Int) + 1 == 10) = false := by simp; omega
          have hwp : IntKind.i64.wrap ((p : Int) + 1 - 1) = (p : Int) := by rw [IntKind.wrap_i64]; omega
          have hgt : decide ((0 : Int) < (p : Int) + 1) = true := by simp <;> omega
          have hlp : (p : Int) < 9 := by omega
          clear hm hbad h1 hp hpx hqb hw1 hw2
          go_wp2_with fail
          refine hmk.mono ?_
          rintro e w4 ⟨v4, rfl, hT4, hB4⟩
          have hsm := rsame_any v4 _ t t w4 hT4 (HT.out.below hB4)
          rw [decide_eq_true (rfl : t = t)] at hsm
          have hc := (hB4.cell (p := ⟨b0, o0 + p * 3, none⟩) hb0).trans (HC.out p np hnp).1
          clear hmk hnp
          go_wp2_with fail
          refine hsm.mono ?_
          rintro e w5 ⟨rfl, hB5⟩
          go_wp2
          go_ret
          exact ⟨by first | rfl | simp [hnb], HB3.out.trans ((hB4.trans (hB5.mono hB4.size)).mono HB3.out.size)⟩
        · have hmk := HMK.out
          have hgx := HFX.out
          rw [hm] at hmk hgx
          dsimp only at hmk hgx
          obtain ⟨nj, hnj⟩ : ∃ nj, t[j]? = some nj := ⟨_, List.getElem?_eq_getElem (by omega)⟩
          rw [PT.kindAt_at hnj] at hjk
          have hc := (HC.out j nj hnj).1
          rw [hjk] at hc
          have hwj : IntKind.i64.wrap ((j : Int) + 1 - 1) = (j : Int) := by rw [IntKind.wrap_i64]; omega
          have hgt : decide ((0 : Int) < (j : Int) + 1) = true := by simp <;> omega
          have hlj : (j : Int) < 9 := by omega
          have HXJ := Lib.hid hxj
          by_cases hq0 : q = 0
          · subst hq0
            have hF : PT.free t 0 = (j : Int) + 1 := hj
            rw [hF]
            clear hm hbad hj hF hxj hnj hjk
            go_wp2_with fail
            refine hmk.mono ?_
            rintro e w4 ⟨v4, rfl, hT4, hB4⟩
            obtain ⟨T4, TC4, rfl⟩ := hT4.form
            rw [hxl] at hT4 ⊢
            obtain ⟨b4, o4, rfl, hb4, hc4⟩ := hT4.at (by rw [hxl]; omega)
            have hfv := rtfind_any _ x { data := #[47, 110, 101, 119] } false w4 hT4 hgx (by decide)
            rw [pp_new, hfd] at hfv
            obtain ⟨x0, x1, x2⟩ := hc4 j _ HXJ.out
            dsimp only at x0 x1 x2
            have hB4' := hB4
            clear hmk hc4 hT4
            go_wp2_with fail
            refine hfv.mono ?_
            rintro e w5 ⟨rfl, hB5⟩
            have y0 := (hB5.cell (p := ⟨b4, o4 + j * 3, none⟩) hb4).trans x0
            have y1 := (hB5.cell (p := ⟨b4, o4 + j * 3 + 1, none⟩) hb4).trans x1
            have y2 := (hB5.cell (p := ⟨b4, o4 + j * 3 + 2, none⟩) hb4).trans x2
            have hd := (hB5.cell (p := ⟨b0, o0 + j * 3, none⟩) (Nat.lt_of_lt_of_le hb0 hB4.size)).trans ((hB4.cell (p := ⟨b0, o0 + j * 3, none⟩) hb0).trans hc)
            clear x0 x1 x2 hfv hc
            go_wp2
            go_ret
            exact ⟨rfl, HB3.out.trans ((hB4'.trans (hB5.mono hB4'.size)).mono HB3.out.size)⟩
          · have hqe : (q : Int) = (j : Int) + 1 := by
              unfold PT.numOf at hj
              rw [if_neg (by omega)] at hj
              exact hj
            rw [hqe] at hmk ⊢
            have hqz : ((j : Int) + 1 == 0) = false := by simp; omega
            have hqt : ((j : Int) + 1 == 10) = false := by simp; omega
            clear hm hbad hj hxj hnj hjk hqe hqb hw1 hw2
            go_wp2_with fail
            refine hmk.mono ?_
            rintro e w4 ⟨v4, rfl, hT4, hB4⟩
            obtain ⟨T4, TC4, rfl⟩ := hT4.form
            rw [hxl] at hT4 ⊢
            obtain ⟨b4, o4, rfl, hb4, hc4⟩ := hT4.at (by rw [hxl]; omega)
            have hfv := rtfind_any _ x { data := #[47, 110, 101, 119] } false w4 hT4 hgx (by decide)
            rw [pp_new, hfd] at hfv
            obtain ⟨x0, x1, x2⟩ := hc4 j _ HXJ.out
            dsimp only at x0 x1 x2
            have hB4' := hB4
            clear hmk hc4 hT4
            go_wp2_with fail
            refine hfv.mono ?_
            rintro e w5 ⟨rfl, hB5⟩
            have y0 := (hB5.cell (p := ⟨b4, o4 + j * 3, none⟩) hb4).trans x0
            have y1 := (hB5.cell (p := ⟨b4, o4 + j * 3 + 1, none⟩) hb4).trans x1
            have y2 := (hB5.cell (p := ⟨b4, o4 + j * 3 + 2, none⟩) hb4).trans x2
            have hd := (hB5.cell (p := ⟨b0, o0 + j * 3, none⟩) (Nat.lt_of_lt_of_le hb0 hB4.size)).trans ((hB4.cell (p := ⟨b0, o0 + j * 3, none⟩) hb0).trans hc)
            clear x0 x1 x2 hfv hc
            go_wp2
            go_ret
            exact ⟨rfl, HB3.out.trans ((hB4'.trans (hB5.mono hB4'.size)).mono HB3.out.size)⟩
    · obtain ⟨nm, hnm⟩ : ∃ nm, t[m]? = some nm := ⟨_, List.getElem?_eq_getElem (by omega)⟩
      have hc := (HC.out m nm hnm).1
      have hfs := PT.free_step hnm
      have hwm : IntKind.i64.wrap (((m + 1 : Nat) : Int) - 1) = (m : Int) := by rw [IntKind.wrap_i64]; omega
      have hge : decide ((1 : Int) ≤ ((m + 1 : Nat) : Int)) = true := by simp; omega
      have hm9 : m < 9 := by omega
      have hlt : (m : Int) < 9 := by omega
      by_cases hz : nm.kind = 0
      · have hzb : (nm.kind == 0) = true := by simpa using hz
        rw [if_pos hz] at hfs
        clear hz
        go_wp2
        go_roundw
        case rel => exact ⟨m, by omega, rfl, by rw [hfs], trivial⟩
        case measure => simp [intOf]
      · have hzb : (nm.kind == 0) = false := by simpa using hz
        rw [if_neg hz] at hfs
        clear hz
        go_wp2
        go_roundw
        case rel => exact ⟨m, by omega, rfl, by rw [hfs], trivial⟩
        case measure => simp [intOf]
end Go.Proofs.YtdnobplhfbgbaaaGreatDoor
