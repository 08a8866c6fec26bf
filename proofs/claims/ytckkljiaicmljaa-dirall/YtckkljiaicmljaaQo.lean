/-
  The walk of DirBack.
-/
import Derived.Test.YtckkljiaicmljaaQn
namespace Go.Proofs.Ytckkljiaicmljaa
open Go.RowKit Go.Joins

namespace PD
theorem wth_no {l : List E} {e : E} (h : isAt l e.1 = true) : wth l e = l := by rw [wth, if_pos h]
theorem wth_yes {l : List E} {e : E} (h : isAt l e.1 = false) : (wth l e).length = l.length + 1 := by
  have hp := place_le l e.1
  rw [wth, h, if_neg (by decide)]
  simp
  omega
theorem tb_may : ∀ n < 256, may (str [97 + n % 16, 98], ((1 + n % 9 : Nat) : Int)) = true ∧ lt { data := #[] } (str [97 + n % 16, 98]) = true := by decide +kernel
end PD
theorem Fit.cons {l : List E} {e : E} (h : Fit l) (he : Fit [e]) (k : l.length ≤ 65535) : Fit (PD.wth l e) := by
  refine ⟨fun x hx => ?_, by have := PD.wth_length l e; omega⟩
  rw [PD.wth] at hx
  split at hx
  · exact h.1 x hx
  · rcases List.mem_append.1 hx with hx | hx
    · exact h.1 x (List.mem_of_mem_take hx)
    · rcases List.mem_cons.1 hx with rfl | hx
      · exact he.1 _ (by simp)
      · exact h.1 x (List.mem_of_mem_drop hx)
theorem cap_of {A : Option Addr} {n c : Nat} (h : n ≤ c) : ∀ A' n' c', Value.slice A n c = .slice A' n' c' → n' ≤ c' := fun A' n' c' e => by
  injection e with _ e1 e2
  subst e1 e2
  exact h

set_option maxRecDepth 100000 in
set_option maxHeartbeats 16000000 in
theorem backLaw_any (v : Value) (l : List Nat) (n : Nat) (w : World) (h : Tz w v l) (hn : n < 256) : Calls Try.prog 4 #[v, .int .u8 (n : Int)] w fun e w' => e = .returned (.bool true) ∧ Below w.heap.size w w' := by
  have hb := begun_any w
  by_cases h12 : l.length ≤ 12
  · have hx := h.small (by omega)
    obtain ⟨A, c, rfl⟩ := hx.form
    have hm := fun W (hW : Below w.heap.size w W) => made_any (.slice A l.length c) l W (hx.below hW) (by omega)
    have hok := PD.made_ok l hx.2.1 (by omega)
    have hfit := PD.made_fit l hx.2.1 (by omega)
    have hsrt := PD.made_srt l hx.2.1
    have hlen := PD.made_length l
    generalize PD.made l = x at *
    have htk := PD.took_some (PD.took_put hok)
    obtain ⟨P, hP⟩ : ∃ P, PD.put x = P := ⟨_, rfl⟩
    rw [hP] at htk
    obtain ⟨hmay, hpos⟩ := PD.tb_may n hn
    obtain ⟨s, hs⟩ : ∃ s, str [97 + n % 16, 98] = s := ⟨_, rfl⟩
    have hss : s.size = 2 := by rw [← hs, PD.str_size]; rfl
    obtain ⟨y16, hy16⟩ : ∃ y, n % 16 = y := ⟨_, rfl⟩
    obtain ⟨y9, hy9⟩ : ∃ y, n % 9 = y := ⟨_, rfl⟩
    rw [hs, hy9] at hmay
    rw [hs] at hpos
    rw [hy16] at hs
    have hsw := PD.srt_wth (e := (s, ((1 + y9 : Nat) : Int))) hsrt hmay hpos
    have hf1 : Fit [(s, ((1 + y9 : Nat) : Int))] := ⟨by simp [I64]; omega, by simp⟩
    have hfw := hfit.cons hf1 (by omega)
    have hwn := @PD.wth_no x (s, ((1 + y9 : Nat) : Int))
    have hwy := @PD.wth_yes x (s, ((1 + y9 : Nat) : Int))
    have hwi := @PD.wth_isAt x (s, ((1 + y9 : Nat) : Int))
    have hlt := fun i a b => @PD.srt_lt _ _ i a b hsw
    dsimp only at hwn hwy hwi
    have h12' : ¬ (12 : Int) < (l.length : Int) := by omega
    have m16 : (n : Int).tmod 16 = (y16 : Int) := by rw [← hy16, Int.tmod_eq_emod_of_nonneg (by omega)]; omega
    have m9 : (n : Int).tmod 9 = (y9 : Int) := by rw [← hy9, Int.tmod_eq_emod_of_nonneg (by omega)]; omega
    have b16 : y16 < 16 := by omega
    have b9 : y9 < 9 := by omega
    have u16 : IntKind.u8.wrap (97 + (y16 : Int)) = 97 + (y16 : Int) := by rw [IntKind.wrap_u8]; omega
    have w9 : IntKind.i64.wrap (y9 : Int) = y9 := by rw [IntKind.wrap_i64]; omega
    have w9' : IntKind.i64.wrap (1 + (y9 : Int)) = 1 + (y9 : Int) := by rw [IntKind.wrap_i64]; omega
    have HLT := Lib.hid hlt
    have HF := Lib.hid hfit
    have HF1 := Lib.hid hf1
    have HFW := Lib.hid hfw
    have HOK := Lib.hid hok
    have HS := Lib.hid hs
    have HWN := Lib.hid hwn
    have HWY := Lib.hid hwy
    have HWI := Lib.hid hwi
    have HPP := Lib.hid hP
    have HT := Lib.hid htk
    clear h hx hsrt hfit hok hs hmay hpos hsw hf1 hfw hwn hwy hwi hlt hP htk hy16 hy9
    go_enter Try.func4, Try.ntmps4
    go_wp2_with fail
    refine hb.mono ?_
    rintro e w1 ⟨rfl, hB1⟩
    have hm1 := hm w1 hB1
    clear hb hm
    go_wp2_with fail
    refine hm1.mono ?_
    rintro e w2 ⟨v2, rfl, hO2, hB2⟩
    have hb2 := hB1.trans (hB2.mono hB1.size)
    have hE2 := hO2.row HF.out
    obtain ⟨A2, c2, rfl, hc2⟩ := hO2.cap
    generalize hX : x.length = X at *
    have hcap2 := cap_of (A := A2) hc2
    have HX := Lib.hid hX
    clear hm1 hO2 hB1 hB2 hX
    have hp := put_any _ x w2 hE2
    rw [HOK.out, HPP.out] at hp
    go_wp2_with fail
    refine hp.mono ?_
    rintro e w3 ⟨rfl, hB3⟩
    have hb3 := hb2.trans (hB3.mono hb2.size)
    have hE3 := hE2.below hB3
    clear hp hb2 hB3 hE2
    have ht := take_any P w3
    rw [HT.out.1, HT.out.2] at ht
    go_wp2_with fail
    refine ht.mono ?_
    rintro e w4 ⟨v4, rfl, hO4, hF4, hB4⟩
    have hb4 := hb3.trans (hB4.mono hb3.size)
    have hE4 := hE3.below hB4
    have hy4 := hO4.row hF4
    obtain ⟨A4, c4, rfl, _⟩ := hO4.cap
    rw [HX.out] at hy4 ⊢
    clear ht hb3 hB4 hE3 hO4 hF4
    have hs4 := same_any _ _ x w4 hE4 hy4
    go_wp2_with fail
    refine hs4.mono ?_
    rintro e w5 ⟨rfl, hB5⟩
    have hb5 := hb4.trans (hB5.mono hb4.size)
    have hE5 := hE4.below hB5
    clear hs4 hb4 hB5 hE4 hy4
    have hst := (Tx.new w5 #[.int .u8 ((97 + y16 : Nat) : Int), .int .u8 98] (0, 0) 2 2 w5.heap.size rfl [97 + y16, 98] rfl rfl (by simp; omega) (by decide)).string
    rw [HS.out, show ((97 + y16 : Nat) : Int) = 97 + (y16 : Int) by omega] at hst
    have hb6 := (hb5.alloc hb5.size (.cells #[.int .u8 (97 + (y16 : Int)), .int .u8 98] 5))
    have hE6 := hE5.below (al w5 (.cells #[.int .u8 (97 + (y16 : Int)), .int .u8 98] 5))
    obtain ⟨w6, hw6⟩ : ∃ w6, w5.alloc (.cells #[.int .u8 (97 + (y16 : Int)), .int .u8 98] 5) = w6 := ⟨_, rfl⟩
    rw [hw6] at hb6 hE6 hst
    have hbx := Bx.new w6 26 #[.string { data := #[] }, .int .i64 0]
    have hb7 := hb6.alloc hb6.size (.cells #[.string { data := #[] }, .int .i64 0] 26)
    have hE7 := hE6.below (al w6 (.cells #[.string { data := #[] }, .int .i64 0] 26))
    obtain ⟨w7, hw7⟩ : ∃ w7, w6.alloc (.cells #[.string { data := #[] }, .int .i64 0] 26) = w7 := ⟨_, rfl⟩
    have hg6 := hb6.size
    obtain ⟨g, hg⟩ : ∃ g, w6.heap.size = g := ⟨_, rfl⟩
    rw [hw7] at hbx hb7 hE7
    have hE8 : Es ((w7.setCell ⟨g, 0, none⟩ (.string s)).setCell ⟨g, 1, none⟩ (.int .i64 ((1 + y9 : Nat) : Int))) (.slice A2 X c2) x :=
      hE6.below (by
        have := al w6 (.cells #[.string { data := #[] }, .int .i64 0] 26)
        rw [hw7] at this
        exact (this.setCell (p := ⟨g, 0, none⟩) (Nat.le_of_eq hg) _).setCell (p := ⟨g, 1, none⟩) (Nat.le_of_eq hg) _)
    rw [hg] at hbx hg6
    have hbx2 : Bx ((w7.setCell ⟨g, 0, none⟩ (.string s)).setCell ⟨g, 1, none⟩ (.int .i64 ((1 + y9 : Nat) : Int))) g 26 #[.string s, .int .i64 ((1 + y9 : Nat) : Int)] := (hbx.set 0 (.string s)).set 1 (.int .i64 ((1 + y9 : Nat) : Int))
    have hb8 := (hb7.setCell (p := ⟨g, 0, none⟩) hg6 (.string s)).setCell (p := ⟨g, 1, none⟩) hg6 (.int .i64 ((1 + y9 : Nat) : Int))
    obtain ⟨c0, c1, f0, f1⟩ := hbx.two
    clear hb5 hE5 hb6 hE6 hb7 hE7 hbx
    rw [show ((1 + y9 : Nat) : Int) = 1 + (y9 : Int) by omega] at *
    go_upto_region 11 with fail
    generalize (w7.setCell ⟨g, 0, none⟩ (.string s)).setCell ⟨g, 1, none⟩ (.int .i64 (1 + (y9 : Int))) = w8 at *
    clear c0 c1 f0 f1 hst hw6 hw7 hg hg6 u16 w9 w9' m16 m9
    generalize 1 + (y9 : Int) = z at *
    obtain ⟨c0, c1⟩ := hbx2.pair
    have hf := find_any _ x s w8 hE8
    go_wp2_with fail
    refine hf.mono ?_
    rintro e w9 ⟨rfl, hB9⟩
    have hb9 := hb8.trans (hB9.mono hb8.size)
    have hE9 := hE8.below hB9
    have hbx9 := hbx2.on hB9
    clear hf hb8 hB9 hE8 hbx2 c0 c1
    obtain ⟨c0, c1⟩ := hbx9.pair
    have hw := with_any _ x s z w9 hE9 hcap2 HF1.out
    go_wp2_with fail
    refine hw.mono ?_
    rintro e w10 ⟨v10, rfl, hO10, hB10⟩
    have hb10 := hb9.trans (hB10.mono hb9.size)
    have hE10 := hE9.below hB10
    have hbx10 := hbx9.on hB10
    have hZ10 := hO10.row HFW.out
    obtain ⟨A10, c10, rfl, hc10⟩ := hO10.cap
    have hcap10 := cap_of (A := A10) hc10
    clear hw hb9 hB10 hE9 hbx9 hO10 c0 c1
    cases hi : PD.isAt x s with
    | true =>
      have hwx := HWN.out hi
      have hs := same_any _ _ x w10 (by rw [hwx] at hZ10; exact hZ10) hE10
      clear hi hZ10 hcap10 hc10 hbx10 HWN HWY HWI HLT
      go_wp2_with (go_at_call 13; refine hs.mono ?_; rintro e w11 ⟨rfl, hB11⟩)
      go_ret
      exact ⟨rfl, hb10.trans (hB11.mono hb10.size)⟩
    | false =>
      obtain ⟨hi1, hi2, hi3⟩ := HWI.out hi
      have hlz := HWY.out hi
      have hltz := HLT.out
      generalize PD.wth x (s, z) = zs at *
      have HFZ := HFW
      have HLTZ := Lib.hid hltz
      rw [hlz] at hcap10 hc10 hZ10 ⊢
      have HLZ := Lib.hid hlz
      clear HWN HWY HWI HLT hltz hlz
      obtain ⟨c0, c1⟩ := hbx10.pair
      have hf := find_any _ zs s w10 hZ10
      rw [hi1, hi2] at hf
      go_wp2_with fail
      refine hf.mono ?_
      rintro e w11 ⟨rfl, hB11⟩
      have hb11 := hb10.trans (hB11.mono hb10.size)
      have hE11 := hE10.below hB11
      have hZ11 := hZ10.below hB11
      have hbx11 := hbx10.on hB11
      clear hf hb10 hB11 hE10 hZ10 hbx10 c0 c1
      obtain ⟨c0, c1⟩ := hbx11.pair
      have hd := less_any _ zs s w11 hZ11 hcap10
      rw [hi1, hi3] at hd
      go_wp2_with fail
      refine hd.mono ?_
      rintro e w12 ⟨v12, rfl, hO12, hB12⟩
      have hb12 := hb11.trans (hB12.mono hb11.size)
      have hE12 := hE11.below hB12
      have hZ12 := hZ11.below hB12
      have hbx12 := hbx11.on hB12
      have hY12 := hO12.row HF.out
      obtain ⟨A12, c12, rfl, _⟩ := hO12.cap
      rw [HX.out] at hY12 ⊢
      clear hd hb11 hB12 hE11 hZ11 hbx11 hO12 c0 c1
      obtain ⟨c0, c1⟩ := hbx12.pair
      have hf2 := find_any _ x s w12 hY12
      rw [hi] at hf2
      go_wp2_with fail
      refine hf2.mono ?_
      rintro e w13 ⟨rfl, hB13⟩
      have hb13 := hb12.trans (hB13.mono hb12.size)
      have hE13 := hE12.below hB13
      have hZ13 := hZ12.below hB13
      have hY13 := hY12.below hB13
      have hbx13 := hbx12.on hB13
      have HE := Lib.hid hE13
      have HY := Lib.hid hY13
      have HZ := Lib.hid hZ13
      have HBX := Lib.hid hbx13
      clear hf2 hb12 hB13 hE12 hZ12 hY12 hbx12 c0 c1 hE13 hY13 hZ13 hbx13 hi hi1 hi2 hi3
      go_wp2
      have hz13 : Below w13.heap.size w13 w13 := Below.refl _ _
      go_loopw [21] (fun i wr => ∃ j : Nat, j ≤ X ∧ i = .int .i64 ((j : Int) + 1) ∧ Below w13.heap.size w13 wr) (fun i _ => X + 1 - (intOf i).toNat)
      case atStart => exact ⟨0, Nat.zero_le _, rfl, hz13⟩
      case round =>
        clear hz13
        obtain ⟨j, hj, rfl, hBr⟩ := hrel
        by_cases hlt : j < X
        · obtain ⟨b0, o0, rfl, hb0, hcell⟩ := (HZ.out.below hBr).at (by rw [HLZ.out]; omega)
          obtain ⟨a, ha⟩ : ∃ a, zs[j]? = some a := ⟨_, List.getElem?_eq_getElem (by rw [HLZ.out]; omega)⟩
          obtain ⟨b, hb⟩ : ∃ a, zs[j + 1]? = some a := ⟨_, List.getElem?_eq_getElem (by rw [HLZ.out]; omega)⟩
          have hab := HLTZ.out j a b ha hb
          obtain ⟨g0, g1⟩ := hcell j a ha
          obtain ⟨g2, g3⟩ := hcell (j + 1) b hb
          obtain ⟨sa, za⟩ := a
          obtain ⟨sb, zb⟩ := b
          dsimp only at g0 g1 g2 g3 hab
          rw [PD.lt] at hab
          have hw1 : IntKind.i64.wrap (j : Int) = j := by rw [IntKind.wrap_i64]; omega
          clear hcell ha hb hb0
          go_wp2_with fail
          go_quiet (fail)
          go_wp2
          go_roundw
          case rel => exact ⟨j + 1, by omega, by go_num, drewN_below hBr _⟩
          case measure => simp [intOf]; omega
        · have hb14 := hb13.trans (hBr.mono hb13.size)
          have hs := same_any _ _ x wr (HY.out.below hBr) (HE.out.below hBr)
          obtain ⟨c0, c1⟩ := (HBX.out.on hBr).pair
          clear HE HY HZ HBX HLZ HLTZ HFW HFZ
          go_wp2_with (go_at_call 13; refine hs.mono ?_; rintro e w15 ⟨rfl, hB15⟩)
          go_ret
          exact ⟨rfl, hb14.trans (hB15.mono hb14.size)⟩
  · have hf : ∃ A c, v = .slice A l.length c := by
      obtain ⟨⟨A, c, hv, _⟩, _⟩ := h
      exact ⟨A, c, hv⟩
    obtain ⟨A, c, rfl⟩ := hf
    have h12' : (12 : Int) < (l.length : Int) := by omega
    clear h
    go_enter Try.func4, Try.ntmps4
    go_wp2_with (go_at_call 7; refine hb.mono ?_; rintro e w1 ⟨rfl, hB1⟩)
    go_ret
    exact ⟨rfl, hB1⟩
end Go.Proofs.Ytckkljiaicmljaa
