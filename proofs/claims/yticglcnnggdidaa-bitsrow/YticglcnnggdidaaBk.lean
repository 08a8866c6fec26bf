/-
  The law BitsBack: its walk.
-/
import Derived.Test.YticglcnnggdidaaBf
import Derived.RegionTactic
import Derived.ChangeAlike
import Derived.Deep.QuietTactic
import Derived.BigQuiet
import Derived.Deep.DeepCutAuto
namespace Go.Proofs.Yticglcnnggdidaa
open Go.RowKit Go.Joins

theorem putS_one (n u : Nat) (h1 : 1 ≤ n) (h4 : n ≤ 4) : PlainBits.putS [] (n : Int) [(u : Int)] = PlainBits.enc n (u : Int) := by
  have hw : PlainBits.wide (n : Int) = true := by simp [PlainBits.wide]; omega
  simp [PlainBits.putS, hw, PlainBits.put]
theorem back_take (n u : Nat) (h1 : 1 ≤ n) (h4 : n ≤ 4) (hu : u < 256 ^ n) (tb : List Nat) : PlainBits.takeN (PlainBits.enc n (u : Int) ++ tb) (n : Int) = u ∧ PlainBits.can (PlainBits.enc n (u : Int) ++ tb).length (n : Int) = true := by
  have hl := PlainBits.enc_length n (u : Int)
  have hc : PlainBits.can (PlainBits.enc n (u : Int) ++ tb).length (n : Int) = true := by
    simp [PlainBits.can, PlainBits.wide, hl]; omega
  refine ⟨?_, hc⟩
  rw [PlainBits.takeN, if_pos hc, Int.toNat_natCast, List.take_append_of_le_length (by omega), List.take_of_length_le (by omega)]
  exact PlainBits.dec_enc_of_lt n u hu
theorem cut_take (l : List Nat) (n p : Nat) (hp : p < n) : PlainBits.can (l.take p).length (n : Int) = false := by
  have : ¬ ((n : Int) ≤ ((l.take p).length : Int)) := by simp; omega
  simp only [PlainBits.can, this, decide_false, Bool.and_false]
theorem text_nil (s : ByteArray) (hs : s.size ≤ 255) : PlainBits.textS [] (nums s) = s.size :: nums s := by simp [PlainBits.textS, nums_length, hs]
theorem back_text (s : ByteArray) (tb : List Nat) : PlainBits.takeT ((s.size :: nums s) ++ tb) = nums s ∧ PlainBits.takeL ((s.size :: nums s) ++ tb) = 1 + s.size ∧ PlainBits.hasT ((s.size :: nums s) ++ tb) = true := by
  have hl := nums_length s
  have hh : PlainBits.hasT ((s.size :: nums s) ++ tb) = true := by
    simp [PlainBits.hasT, PlainBits.can, PlainBits.wide, hl]; omega
  refine ⟨?_, ?_, hh⟩
  · rw [PlainBits.takeT, if_pos hh]
    simp only [List.cons_append, List.drop_succ_cons, List.drop_zero, List.getD_cons_zero]
    rw [List.take_append_of_le_length (by omega), List.take_of_length_le (by omega)]
  · rw [PlainBits.takeL, if_pos hh]; simp
theorem cut_text (s : ByteArray) (p : Nat) (hp : p < 1 + s.size) : PlainBits.hasT ((s.size :: nums s).take p) = false := by
  have hl := nums_length s
  cases p with
  | zero => rfl
  | succ p =>
    have : ¬ (1 + s.size ≤ p + 1) := by omega
    simp [PlainBits.hasT, hl]
    intro _
    omega

set_option maxHeartbeats 4000000 in
theorem back_big (v k : Nat) (s : ByteArray) (A : Option Addr) (nb cb ct : Nat) (w : World) (hbig : 255 < s.size ∨ 20 < nb) :
    Calls Try.prog 4 #[.int .u32 (v : Int), .int .u8 (k : Int), .string s, .slice A nb cb, .int .u8 (ct : Int)] w fun e w' => e = .returned (.bool true) ∧ Below w.heap.size w w' := by
  by_cases h0 : (255 : Int) < (s.size : Int)
  · go_enter Try.func4, Try.ntmps4
    go_wp2_with fail
    refine (begun_any _).mono ?_
    rintro e w1 ⟨rfl, hb1⟩
    go_wp2
    go_ret
    exact ⟨rfl, hb1⟩
  have h1 : (20 : Int) < (nb : Int) := by omega
  go_enter Try.func4, Try.ntmps4
  go_wp2_with fail
  refine (begun_any _).mono ?_
  rintro e w1 ⟨rfl, hb1⟩
  go_wp2
  go_ret
  exact ⟨rfl, hb1⟩

set_option maxRecDepth 100000 in
set_option maxHeartbeats 8000000 in
theorem back_any (v k : Nat) (s : ByteArray) (A : Option Addr) (nb cb ct : Nat) (tb : List Nat) (w : World) (hv : v < 4294967296) (hk : k < 256) (hct : ct < 256) (hs : s.size ≤ 255) (xb : Tx w (.slice A nb cb) tb) (eb : tb.length = nb) (h20 : nb ≤ 20) :
    Calls Try.prog 4 #[.int .u32 (v : Int), .int .u8 (k : Int), .string s, .slice A nb cb, .int .u8 (ct : Int)] w fun e w' => e = .returned (.bool true) ∧ Below w.heap.size w w' := by
  obtain ⟨i0, hi, hz0, hz1, hz2⟩ := info_parts Try.info5
  have g0 : ¬ (255 : Int) < (s.size : Int) := by omega
  have g1 : ¬ (20 : Int) < (nb : Int) := by omega
  go_enter Try.func4, Try.ntmps4
  go_wp2_with fail
  refine (begun_any _).mono ?_
  rintro e w1 ⟨rfl, hb1⟩
  replace xb := xb.below hb1
  have z1 := hb1.size
  have HXB := Lib.hid xb
  have HEB := Lib.hid eb
  clear xb eb
  go_upto_region 5 with fail
  go_cut [11] (fun x wx => ∃ n : Nat, 1 ≤ n ∧ n ≤ 4 ∧ x = .int .i64 (n : Int) ∧ w1 = wx)
  case first =>
    go_wp2_with fail
    go_meet
    exact ⟨1 + k % 4, by omega, by omega, by simp, rfl⟩
  case rest =>
    obtain ⟨n, hn1, hn4, rfl, rfl⟩ := hcut
    go_upto_region 6 with fail
    go_cut [12] (fun x wx => ∃ u : Nat, u < 256 ^ n ∧ x = .int .i64 (u : Int) ∧ w1 = wx)
    case first =>
      rcases (show n = 1 ∨ n = 2 ∨ n = 3 ∨ n = 4 by omega) with rfl | rfl | rfl | rfl
      · go_wp2_with fail
        go_meet
        exact ⟨v / 16777216, by omega, by simp, rfl⟩
      · go_wp2_with fail
        go_meet
        exact ⟨v / 65536, by omega, by simp, rfl⟩
      · go_wp2_with fail
        go_meet
        exact ⟨v / 256, by omega, by simp, rfl⟩
      · go_wp2_with fail
        go_meet
        exact ⟨v, by omega, by simp, rfl⟩
    case rest =>
      obtain ⟨u, hu, rfl, rfl⟩ := hcut
      have hu4 : u < 4294967296 := Nat.lt_of_lt_of_le hu (Nat.pow_le_pow_right (by decide) hn4)
      have HBT := Lib.hid (back_take n u hn1 hn4 hu)
      have HYT := Lib.hid (back_text s)
      have hpo := putS_one n u hn1 hn4
      have hto := text_nil s hs
      have lX := PlainBits.enc_length n (u : Int)
      have lY : (s.size :: nums s).length = 1 + s.size := by rw [List.length_cons, nums_length]; omega
      have HCX := Lib.hid (fun p => cut_take (PlainBits.enc n (u : Int)) n p)
      have HCY := Lib.hid (cut_text s)
      generalize PlainBits.enc n (u : Int) = X at *
      generalize s.size :: nums s = Y at *
      have HLX := Lib.hid lX
      have HLY := Lib.hid lY
      have HPO := Lib.hid hpo
      have HTO := Lib.hid hto
      clear lX lY hpo hto hu
      go_wp2_with fail
      refine (put_any _ _ [] [(u : Int)] (n : Int) _ (Tx.nil _) (In.new w1 _ _ 1 1 _ rfl _ rfl rfl (by simp; omega) (by decide)) (by decide)).mono ?_
      rintro e w2 ⟨v2, rfl, hO2, hB2⟩
      rw [HPO.out] at hO2
      have hb12 : Below w1.heap.size w1 w2 := (al w1 (.cells #[.int .i64 (u : Int)] 3)).trans (hB2.mono (by simp))
      have hb2 : Below w.heap.size w w2 := hb1.trans (hb12.mono z1)
      have z2 := hb2.size
      have xb2 := HXB.out.below hb12
      have x2 := hO2.text (by rw [HLX.out]; omega)
      obtain ⟨Ax, cx, hvx, hcx⟩ := own_cap hO2.1
      rw [HLX.out] at hvx hcx
      subst hvx
      have HX2 := Lib.hid x2
      have HXB2 := Lib.hid xb2
      clear x2 xb2 hO2 hB2 hb12 hb1 z1 HXB
      go_wp2_with fail
      refine (text_any _ [] s w2 (Tx.nil _) (by decide)).mono ?_
      rintro e w3 ⟨v3, rfl, hO3, hB3⟩
      rw [HTO.out] at hO3
      have hb3 : Below w.heap.size w w3 := hb2.trans (hB3.mono z2)
      have z3 := hb3.size
      have y3 := hO3.text (by rw [HLY.out]; omega)
      obtain ⟨Ay, cy, hvy, hcy⟩ := own_cap hO3.1
      rw [HLY.out] at hvy hcy
      subst hvy
      have HX3 := Lib.hid (HX2.out.below hB3)
      have HXB3 := Lib.hid (HXB2.out.below hB3)
      have HY3 := Lib.hid y3
      clear y3 hO3 hB3 hb2 z2 HX2 HXB2
      go_wp2_with (at_builtin; refine wpList_append_sl rfl _ _ 23 rfl w3.heap.size 5 i0 (.int .u8 0) 1 1 Try.underlying23 hi hz0 hz1 hz2 rfl (by decide) _ _ _ rfl (World.ownsRow_made w3 #[] 0 (Nat.le_refl _) (Nat.zero_le _) rfl) Ax n cx (X.map bv) rfl ?q1 (bytes_one X) ?q2 ?q3 ?q4 ?_)
      case q1 => have := (HX3.out.alloc (.cells #[] 5)).1; rw [HLX.out] at this; exact this
      case q2 => unfold maxLen; omega
      case q3 => omega
      case q4 => simp
      intro v4 w4 hown4 hgrow4
      have hB4 : Below w3.heap.size w3 w4 := ((Below.refl _ w3).alloc (Nat.le_refl _) (.cells #[] 5)).grown hgrow4 (by simp) (fun k hk => by simp [Value.ownBlock] at hk; omega)
      replace hown4 : w4.ownsRow w3.heap.size 5 1 v4 n (X.map bv) := by simpa using hown4
      obtain ⟨A4, c4, rfl⟩ := own_form hown4
      have z34 := hB4.size
      clear hgrow4
      go_wp2_with (at_builtin; refine wpList_append_sl rfl _ _ 23 rfl w3.heap.size 5 i0 (.int .u8 0) 1 1 Try.underlying23 hi hz0 hz1 hz2 rfl (by decide) _ _ _ rfl hown4 A nb cb (tb.map bv) rfl ?q1 (bytes_one tb) ?q2 ?q3 ?q4 ?_)
      case q1 => have := (HXB3.out.below hB4).1; rw [HEB.out] at this; exact this
      case q2 => unfold maxLen; omega
      case q3 => omega
      case q4 => exact z34
      intro v5 w5 hown5 hgrow5
      have hB5 : Below w3.heap.size w3 w5 := hB4.grown hgrow5 z34 (fun k hk => own_ge hown4 hk)
      have x5 : Tx w5 v5 (X ++ tb) := by
        refine ⟨by rw [List.map_append, List.length_append, HLX.out, HEB.out]; exact Sl.own hown5, fun b hb => (List.mem_append.1 hb).elim (HX3.out.2.1 b) (HXB3.out.2.1 b), ?_⟩
        rw [List.length_append, HLX.out, HEB.out]; omega
      have hb5 : Below w.heap.size w w5 := hb3.trans (hB5.mono z3)
      have z5 := hb5.size
      have HX5 := Lib.hid (HX3.out.below hB5)
      have HXB5 := Lib.hid (HXB3.out.below hB5)
      have HY5 := Lib.hid (HY3.out.below hB5)
      clear hown4 hown5 hgrow5 hB4 hB5 hb3 z3 z34 HX3 HXB3 HY3
      have HT5 := Lib.hid x5
      clear x5
      go_wp2_with fail
      refine (take_any _ _ (n : Int) w5 HT5.out).mono ?_
      rintro e w6 ⟨rfl, rfl⟩
      rw [(HBT.out tb).1, (HBT.out tb).2]
      clear HT5 HBT
      go_wp2_with (at_builtin; refine wpList_append_sl rfl _ _ 23 rfl w5.heap.size 5 i0 (.int .u8 0) 1 1 Try.underlying23 hi hz0 hz1 hz2 rfl (by decide) _ _ _ rfl (World.ownsRow_made w5 #[] 0 (Nat.le_refl _) (Nat.zero_le _) rfl) Ay (1 + s.size) cy (Y.map bv) rfl ?q1 (bytes_one Y) ?q2 ?q3 ?q4 ?_)
      case q1 => have := (HY5.out.alloc (.cells #[] 5)).1; rw [HLY.out] at this; exact this
      case q2 => unfold maxLen; omega
      case q3 => omega
      case q4 => simp
      intro v6 w6 hown6 hgrow6
      have hB6 : Below w5.heap.size w5 w6 := ((Below.refl _ w5).alloc (Nat.le_refl _) (.cells #[] 5)).grown hgrow6 (by simp) (fun k hk => by simp [Value.ownBlock] at hk; omega)
      replace hown6 : w6.ownsRow w5.heap.size 5 1 v6 (1 + s.size) (Y.map bv) := by simpa using hown6
      obtain ⟨A6, c6, rfl⟩ := own_form hown6
      have z56 := hB6.size
      clear hgrow6
      go_wp2_with (at_builtin; refine wpList_append_sl rfl _ _ 23 rfl w5.heap.size 5 i0 (.int .u8 0) 1 1 Try.underlying23 hi hz0 hz1 hz2 rfl (by decide) _ _ _ rfl hown6 A nb cb (tb.map bv) rfl ?q1 (bytes_one tb) ?q2 ?q3 ?q4 ?_)
      case q1 => have := (HXB5.out.below hB6).1; rw [HEB.out] at this; exact this
      case q2 => unfold maxLen; omega
      case q3 => omega
      case q4 => exact z56
      intro v7 w7 hown7 hgrow7
      have hB7 : Below w5.heap.size w5 w7 := hB6.grown hgrow7 z56 (fun k hk => own_ge hown6 hk)
      have x7 : Tx w7 v7 (Y ++ tb) := by
        refine ⟨by rw [List.map_append, List.length_append, HLY.out, HEB.out]; exact Sl.own hown7, fun b hb => (List.mem_append.1 hb).elim (HY5.out.2.1 b) (HXB5.out.2.1 b), ?_⟩
        rw [List.length_append, HLY.out, HEB.out]; omega
      have hb7 : Below w.heap.size w w7 := hb5.trans (hB7.mono z5)
      have HX7 := Lib.hid (HX5.out.below hB7)
      have HY7 := Lib.hid (HY5.out.below hB7)
      have HC7 : Cp v7 := by
        obtain ⟨A7, c7, h7, h7'⟩ := own_cap hown7
        exact ⟨_, _, _, h7, h7'⟩
      clear hown6 hown7 hgrow7 hB6 hB7 hb5 z5 z56 HX5 HXB5 HY5
      have HT7 := Lib.hid x7
      clear x7
      go_wp2_with fail
      refine (takeText_any _ _ w7 HT7.out HC7).mono ?_
      rintro e w8 ⟨rfl, rfl⟩
      rw [(HYT.out tb).1, (HYT.out tb).2.1, (HYT.out tb).2.2, str_nums]
      clear HT7 HC7 HYT
      have hpx : ct % n < n := Nat.mod_lt _ (by omega)
      have hpy : ct % (1 + s.size) < 1 + s.size := Nat.mod_lt _ (by omega)
      obtain ⟨ux, cux, rx, yx⟩ := sub_h (A := Ax) (c := cx) (p := ct % n) (bs := X) HLX.out (by omega) hcx
      obtain ⟨uy, cuy, ry, yy⟩ := sub_h (A := Ay) (c := cy) (p := ct % (1 + s.size)) (bs := Y) HLY.out (by omega) hcy
      have hrx : (Instr.slice 23 (.slice Ax n cx) none (some (.int .i64 ((ct : Int) % (n : Int)))) none).run Try.prog w7 = .ok ux w7 := by
        rw [← Int.natCast_emod]; exact rx w7
      have hry : (Instr.slice 23 (.slice Ay (1 + s.size) cy) none (some (.int .i64 ((ct : Int) % (1 + (s.size : Int))))) none).run Try.prog w7 = .ok uy w7 := by
        rw [show (1 + (s.size : Int)) = ((1 + s.size : Nat) : Int) by simp, ← Int.natCast_emod]; exact ry w7
      have hn0 : ((n : Int) == 0) = false := by rw [beq_eq_false_iff_ne]; omega
      have hs0 : ((1 + (s.size : Int)) == 0) = false := by rw [beq_eq_false_iff_ne]; omega
      have HUX := Lib.hid (yx w7 HX7.out)
      have HUY := Lib.hid (yy w7 HY7.out)
      have HQX := Lib.hid (HCX.out _ hpx)
      have HQY := Lib.hid (HCY.out _ hpy)
      clear rx ry yx yy HX7 HY7 HCX HCY hpx hpy
      go_wp2_with fail
      refine (take_any _ _ (n : Int) w7 HUX.out).mono ?_
      rintro e w8 ⟨rfl, rfl⟩
      rw [HQX.out]
      clear HUX HQX
      go_wp2_with fail
      refine (takeText_any _ _ w7 HUY.out cuy).mono ?_
      rintro e w8 ⟨rfl, rfl⟩
      rw [HQY.out]
      clear HUY HQY
      go_wp2
      go_ret
      exact ⟨rfl, hb7⟩
end Go.Proofs.Yticglcnnggdidaa
