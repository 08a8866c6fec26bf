/-
  The walk of DirAll where nothing ends it early.
-/
import Derived.Test.YtckkljiaicmljaaQt
namespace Go.Proofs.Ytckkljiaicmljaa
open Go.RowKit Go.Joins

set_option maxRecDepth 100000 in
set_option maxHeartbeats 16000000 in
theorem all0_any (v0 : Value) (l : List Nat) (v1 : Value) (wl : List E) (b name : ByteArray) (a y : Nat) (w : World) (h : Tx w v0 l) (h1 : Es w v1 wl) (h15 : l.length ≤ 15) (h8 : wl.length ≤ 8) (hw12 : ∀ e ∈ wl, e.1.size ≤ 12) (h130 : b.size ≤ 130) (h12 : name.size ≤ 12) (ha : a < 256) (hy : y < 256)
    (hnp : (PD.put (PD.made l)).size = 0)
    : Calls Try.prog 3 #[v0, v1, .string b, .string name, .int .u8 (a : Int), .int .u8 (y : Int)] w fun e w' => e = .returned (.bool true) ∧ Below w.heap.size w w' := by
  have hb := begun_any w
  obtain ⟨A, c, rfl⟩ := h.form
  obtain ⟨A1, c1, rfl⟩ := h1.form
  have hm := fun W (hW : Below w.heap.size w W) => made_any (.slice A l.length c) l W (h.below hW) (by omega)
  have hfit := PD.made_fit l h.2.1 (by omega)
  have hsrt := PD.made_srt l h.2.1
  have hxl := PD.made_length l
  have hps := PD.put_size (PD.made l)
  generalize PD.made l = x at *
  generalize hL : l.length = L at *
  generalize hM : wl.length = M at *
  have d15 : decide ((15 : Int) < (L : Int)) = false := by simp; omega
  have d8 : decide ((8 : Int) < (M : Int)) = false := by simp; omega
  have d130 : decide ((130 : Int) < (b.size : Int)) = false := by simp; omega
  have d12 : decide ((12 : Int) < (name.size : Int)) = false := by simp; omega
  have HF := Lib.hid hfit
  have HSR := Lib.hid hsrt
  have H1 := Lib.hid h1
  have HW12 := Lib.hid hw12
  have HM := Lib.hid hM
  clear h h1 hfit hsrt hw12 hL hM
  go_enter Try.func3, Try.ntmps3
  go_wp2_with fail
  refine hb.mono ?_
  rintro e w1 ⟨rfl, hB1⟩
  have hm1 := hm w1 hB1
  clear hb hm
  go_wp2
  go_loop [13] (fun i => ∃ k : Nat, k ≤ M ∧ i = .int .i64 (k : Int)) (fun i => M - (intOf i).toNat)
  case atStart => exact ⟨0, Nat.zero_le _, rfl⟩
  case round =>
    clear d15 d8 d130 d12
    obtain ⟨k, hk, rfl⟩ := hrel
    by_cases hlt : k < M
    · obtain ⟨b0, o0, rfl, hb0, hcell⟩ := (H1.out.below hB1).at (by rw [HM.out]; omega)
      obtain ⟨e, he⟩ : ∃ e, wl[k]? = some e := ⟨_, List.getElem?_eq_getElem (by rw [HM.out]; omega)⟩
      obtain ⟨g0, g1⟩ := hcell k e he
      have hes := HW12.out e (List.mem_of_getElem? he)
      obtain ⟨q, z⟩ := e
      dsimp only at g0 g1 hes
      have hd : decide ((12 : Int) < (q.size : Int)) = false := by simp; omega
      clear hcell he hb0
      go_wp2
      go_round
      case rel => exact ⟨k + 1, by omega, by go_num⟩
      case measure => simp [intOf]; omega
    · have hkm : k = M := by omega
      subst hkm
      go_wp2_with fail
      refine hm1.mono ?_
      rintro e w2 ⟨v2, rfl, hO2, hB2⟩
      have hb2 := hB1.trans (hB2.mono hB1.size)
      have hE2 := hO2.row HF.out
      have hW2 := H1.out.below hb2
      obtain ⟨A2, c2, rfl, hc2⟩ := hO2.cap
      have hr0 : ∀ p ∈ [(Value.slice A2 x.length c2, x), (Value.slice A1 k c1, wl)], Es w2 p.1 p.2 := by
        intro p hp
        simp at hp
        rcases hp with rfl | rfl
        · exact hE2
        · exact hW2
      have hL2 := Ll.new w2 #[.slice A2 x.length c2, .slice A1 k c1] (0, 0) 2 2 w2.heap.size rfl [(.slice A2 x.length c2, x), (.slice A1 k c1, wl)] rfl rfl hr0 (by decide)
      have hb3 := hb2.alloc hb2.size (.cells #[.slice A2 x.length c2, .slice A1 k c1] 23)
      have hE3 := hE2.below (al w2 (.cells #[.slice A2 x.length c2, .slice A1 k c1] 23))
      generalize hX : x.length = X at *
      have HX := Lib.hid hX
      have hcap := cap_of (A := A2) hc2
      clear hm1 hO2 hB1 hB2 hE2 hb2 hX hlt hk hW2 hr0
      go_wp2
      generalize w2.alloc (.cells #[.slice A2 X c2, .slice A1 k c1] 23) = w3 at *
      have HL2 := Lib.hid hL2
      have HE3 := Lib.hid hE3
      clear hL2 hE3
      have hz3 : Below w3.heap.size w3 w3 := Below.refl _ _
      generalize hrows : [(Value.slice A2 X c2, x), (Value.slice A1 k c1, wl)] = rows at HL2
      have hrl : rows.length = 2 := by rw [← hrows]; rfl
      have HRL := Lib.hid hrl
      clear hrows hrl
      generalize w2.heap.size = g2 at *
      go_loopw [16, 17, 18, 19, 20] (fun i u1 u2 u3 u4 wr => ∃ j : Nat, j ≤ 2 ∧ i = .int .i64 (j : Int) ∧ Below w3.heap.size w3 wr) (fun i _ _ _ _ _ => 2 - (intOf i).toNat)
      case atStart => exact ⟨0, by omega, rfl, hz3⟩
      case round =>
        clear hz3
        obtain ⟨j, hj, rfl, hBr⟩ := hrel
        by_cases hlt : j < 2
        · obtain ⟨p, hp⟩ : ∃ p, rows[j]? = some p := ⟨_, List.getElem?_eq_getElem (by rw [HRL.out]; omega)⟩
          have hcl : ∀ W, Below w3.heap.size w3 W → W.cell? ⟨g2, j, none⟩ = some p.1 := fun W hW => by
            obtain ⟨b0, o0, hA, hb0, hcell⟩ := (HL2.out.below hW).at (by rw [HRL.out]; decide)
            injection hA with hA
            injection hA with e1 e2 _
            subst e1 e2
            have := hcell j p hp
            rwa [Nat.zero_add] at this
          have hE := fun W (hW : Below w3.heap.size w3 W) => (HL2.out.below hW).2.1 p (List.mem_of_getElem? hp)
          obtain ⟨u, m⟩ := p
          dsimp only at hcl hE
          have c1 := put_any u m wr (hE wr hBr)
          have c2 := fun W (hW : Below w3.heap.size w3 W) => rput_any u m W (hE W hW)
          obtain ⟨A3, c3, rfl⟩ := (hE wr hBr).form
          have g0 := hcl wr hBr
          have HC := Lib.hid hcl
          generalize PD.put m = Pm at *
          generalize PD.ok m = bo at *
          have hq := seq_yes Pm
          clear hcl hp hE
          go_wp2_with fail
          refine c1.mono ?_
          rintro e w4 ⟨rfl, hB4⟩
          have hb4 := hBr.trans (hB4.mono hBr.size)
          have g0' := HC.out w4 hb4
          have c2' := c2 w4 hb4
          clear c1 c2 g0 hBr hB4
          go_wp2_with fail
          refine c2'.mono ?_
          rintro e w5 ⟨rfl, hB5⟩
          have hb5 := hb4.trans (hB5.mono hb4.size)
          clear c2' g0' hb4 hB5
          go_wp2
          go_roundw
          case rel => exact ⟨j + 1, by omega, by go_num, hb5⟩
          case measure => simp [intOf]; omega
        · have hb6 := hb3.trans (hBr.mono hb3.size)
          have hE6 := HE3.out.below hBr
          have c1 := rput_any _ x wr hE6
          obtain ⟨P, hP⟩ : ∃ P, PD.put x = P := ⟨_, rfl⟩
          rw [hP] at c1 hps hnp
          generalize PD.ok x = bo at *
          clear hP hb3 hBr HE3 HL2 HRL
          go_wp2_with fail
          refine c1.mono ?_
          rintro e w7 ⟨rfl, hB7⟩
          have hb7 := hb6.trans (hB7.mono hb6.size)
          have hE7 := hE6.below hB7
          clear c1 hb6 hE6 hB7
          obtain ⟨gb, cb, w8, hconv, hgb, hcb, hmk, hB8⟩ := to_bytes P w7
          have hb8 := hb7.trans (hB8.mono hb7.size)
          have hPe : P = { data := #[] } := by
            apply ByteArray.ext
            exact Array.eq_empty_of_size_eq_zero hnp
          subst hPe
          have hst := (hmk.tx (nums_lt _) (by decide) 0 cb rfl).string
          have hsz3 : (str (nums ({ data := #[] } : ByteArray))).size ≤ 120 := by decide
          generalize str (nums ({ data := #[] } : ByteArray)) = S3 at *
          have hb9 := hb8
          have hE9 := hE7.below hB8
          clear hmk hB8 hb7 hgb hE7 hb8
          go_upto_region 23 with fail
          generalize w8 = w9 at *
          clear hconv
          obtain ⟨P, hPd⟩ : ∃ P : ByteArray, ({ data := #[] } : ByteArray) = P := ⟨_, rfl⟩
          have hPs : P.size ≤ 120 := by rw [← hPd]; decide
          rw [hPd]
          clear hPd hps hnp hcb
          have hT := Ss.new w9 #[.string b, .string P, .string S3] (0, 0) 3 3 w9.heap.size rfl [b, P, S3] rfl rfl (by intro t ht; simp at ht; rcases ht with rfl | rfl | rfl <;> omega) (by decide)
          have htz : ∀ t ∈ [b, P, S3], t.size ≤ 60000 := by intro t ht; simp at ht; rcases ht with rfl | rfl | rfl <;> omega
          have hb10 := hb9.alloc hb9.size (.cells #[.string b, .string P, .string S3] 9)
          have hE10 := hE9.below (al w9 (.cells #[.string b, .string P, .string S3] 9))
          clear hE9
          go_wp2
          generalize w9.alloc (.cells #[.string b, .string P, .string S3] 9) = w10 at *
          generalize htt : [b, P, S3] = tt at *
          have htl : tt.length = 3 := by rw [← htt]; rfl
          generalize w9.heap.size = g9 at *
          have HT := Lib.hid hT
          have HTZ := Lib.hid htz
          have HTL := Lib.hid htl
          have HE10 := Lib.hid hE10
          clear hT htz htt htl hE10 hst hb9
          have hz10 : Below w10.heap.size w10 w10 := Below.refl _ _
          go_loopw [25, 26, 27, 28, 29] (fun i u1 u2 u3 u4 wr => ∃ j : Nat, j ≤ 3 ∧ i = .int .i64 (j : Int) ∧ Below w10.heap.size w10 wr) (fun i _ _ _ _ _ => 3 - (intOf i).toNat)
          case atStart => exact ⟨0, by omega, rfl, hz10⟩
          case round =>
            clear hz10
            obtain ⟨j, hj, rfl, hBr⟩ := hrel
            by_cases hlt : j < 3
            · obtain ⟨t, ht⟩ : ∃ t, tt[j]? = some t := ⟨_, List.getElem?_eq_getElem (by rw [HTL.out]; omega)⟩
              have hcl : ∀ W, Below w10.heap.size w10 W → W.cell? ⟨g9, j, none⟩ = some (.string t) := fun W hW => (HT.out.below hW).cellAt ht
              have c1 := take_any t wr
              have c2 := fun W => rtake_any t W (HTZ.out t (List.mem_of_getElem? ht))
              have g0 := hcl wr hBr
              have HC := Lib.hid hcl
              generalize PD.tk t = bo at *
              generalize PD.tl t = m at *
              clear hcl ht
              go_wp2_with fail
              refine c1.mono ?_
              rintro e w11 ⟨v11, rfl, hO11, hF11, hB11⟩
              have hb11 := hBr.trans (hB11.mono hBr.size)
              have hY11 := hO11.row hF11
              obtain ⟨A11, c11, rfl, _⟩ := hO11.cap
              have g0' := HC.out w11 hb11
              have c2' := c2 w11
              clear c1 c2 g0 hBr hB11 hO11
              go_wp2_with fail
              refine c2'.mono ?_
              rintro e w12 ⟨v12, rfl, hO12, hF12, hB12⟩
              have hb12 := hb11.trans (hB12.mono hb11.size)
              have hY12 := hY11.below hB12
              have hZ12 := hO12.row hF12
              obtain ⟨A12, c12, rfl, _⟩ := hO12.cap
              have hs := same_any _ _ m w12 hY12 hZ12
              generalize m.length = ml at *
              clear c2' g0' hb11 hB12 hO12 hY11 hY12 hZ12 hF11 hF12
              go_wp2_with (go_at_call 13; refine hs.mono ?_; rintro e w13 ⟨rfl, hB13⟩)
              go_roundw
              case rel => exact ⟨j + 1, by omega, by go_num, hb12.trans (hB13.mono hb12.size)⟩
              case measure => simp [intOf]; omega
            · have hb13 := hb10.trans (hBr.mono hb10.size)
              obtain ⟨y16, hy16⟩ : ∃ n, a % 16 = n := ⟨_, rfl⟩
              have m16 : (a : Int).tmod 16 = (y16 : Int) := by rw [← hy16, Int.tmod_eq_emod_of_nonneg (by omega)]; omega
              have b16 : y16 < 16 := by omega
              have u16 : IntKind.u8.wrap (97 + (y16 : Int)) = 97 + (y16 : Int) := by rw [IntKind.wrap_u8]; omega
              obtain ⟨N2, hN2⟩ : ∃ n, str [97 + y16] = n := ⟨_, rfl⟩
              have hN2s : N2.size ≤ 12 := by rw [← hN2, PD.str_size]; simp
              have hst := (Tx.new wr #[.int .u8 ((97 + y16 : Nat) : Int)] (0, 0) 1 1 wr.heap.size rfl [97 + y16] rfl rfl (by simp; omega) (by simp)).string
              rw [hN2, show ((97 + y16 : Nat) : Int) = 97 + (y16 : Int) by omega] at hst
              obtain ⟨w14, hw14⟩ : ∃ W, wr.alloc (.cells #[.int .u8 (97 + (y16 : Int))] 5) = W := ⟨_, rfl⟩
              have hb14 := hb13.alloc hb13.size (.cells #[.int .u8 (97 + (y16 : Int))] 5)
              have hE14 := (HE10.out.below hBr).below (al wr (.cells #[.int .u8 (97 + (y16 : Int))] 5))
              rw [hw14] at hst hb14 hE14
              have hT2 := Ss.new w14 #[.string name, .string N2] (0, 0) 2 2 w14.heap.size rfl [name, N2] rfl rfl (by intro t ht; simp at ht; rcases ht with rfl | rfl <;> omega) (by decide)
              have htz2 : ∀ t ∈ [name, N2], t.size ≤ 12 := by intro t ht; simp at ht; rcases ht with rfl | rfl <;> omega
              have hb15 := hb14.alloc hb14.size (.cells #[.string name, .string N2] 9)
              have hE15 := hE14.below (al w14 (.cells #[.string name, .string N2] 9))
              clear hb13 hBr hb14 hE14 HT HTZ HTL HE10 hb10 hN2 hy16
              go_wp2
              generalize w14.alloc (.cells #[.string name, .string N2] 9) = w15 at *
              generalize htt : [name, N2] = tt2 at *
              have htl : tt2.length = 2 := by rw [← htt]; rfl
              generalize w14.heap.size = g14 at *
              have HT := Lib.hid hT2
              have HTZ := Lib.hid htz2
              have HTL := Lib.hid htl
              have HE := Lib.hid hE15
              clear hT2 htz2 htt htl hE15 hst hw14 m16 u16
              have hz15 : Below w15.heap.size w15 w15 := Below.refl _ _
              go_loopw [31, 32, 33, 34, 35, 36, 37, 38, 39, 40, 41, 42, 43] (fun i u1 u2 u3 u4 u5 u6 u7 u8 u9 v1 v2 v3 wr => ∃ j : Nat, j ≤ 2 ∧ i = .int .i64 (j : Int) ∧ Below w15.heap.size w15 wr) (fun i _ _ _ _ _ _ _ _ _ _ _ _ _ => 2 - (intOf i).toNat)
              case atStart => exact ⟨0, by omega, rfl, hz15⟩
              case round =>
                clear hz15 hlt hj
                obtain ⟨j, hj, rfl, hBr⟩ := hrel
                by_cases hlt : j < 2
                · obtain ⟨t, ht⟩ : ∃ t, tt2[j]? = some t := ⟨_, List.getElem?_eq_getElem (by rw [HTL.out]; omega)⟩
                  have hcl : ∀ W, Below w15.heap.size w15 W → W.cell? ⟨g14, j, none⟩ = some (.string t) := fun W hW => (HT.out.below hW).cellAt ht
                  have htz := HTZ.out t (List.mem_of_getElem? ht)
                  have hf1 : Fit [(t, (5 : Int))] := ⟨by intro e he; simp at he; subst he; exact ⟨by dsimp only; omega, by unfold I64; omega⟩, by simp⟩
                  obtain ⟨s1, s2⟩ := PD.find_same t HSR.out
                  have s3 := PD.with_same (t, (5 : Int)) HSR.out
                  have s4 := PD.less_same t HSR.out
                  have s5 := @PD.wth_no x (t, (5 : Int))
                  have hfw := HF.out.cons hf1 (by rw [HX.out]; omega)
                  have hfl : Fit (PD.less x t) := PD.less_fit HF.out
                  have hxl5 : x.length ≤ 65535 := by rw [HX.out]; omega
                  have s6 : PD.isAt x t = false → PD.less x t = x := fun e => by rw [PD.less, e]; rfl
                  dsimp only at s5
                  have HC := Lib.hid hcl
                  have HFW := Lib.hid hfw
                  have HFL := Lib.hid hfl
                  have k1 := fun W (hW : Below w15.heap.size w15 W) => find_any (.slice A2 X c2) x t W (HE.out.below hW)
                  have k2 := fun W (hW : Below w15.heap.size w15 W) => rfind_any (.slice A2 X c2) x t W (HE.out.below hW)
                  have k3 := fun W (hW : Below w15.heap.size w15 W) => with_any (.slice A2 X c2) x t 5 W (HE.out.below hW) hcap hf1
                  have k4 := fun W (hW : Below w15.heap.size w15 W) => rwith_any (.slice A2 X c2) x t 5 W (HE.out.below hW) hxl5
                  have k5 := fun W (hW : Below w15.heap.size w15 W) => less_any (.slice A2 X c2) x t W (HE.out.below hW) hcap
                  have k6 := fun W (hW : Below w15.heap.size w15 W) => rless_any (.slice A2 X c2) x t W (HE.out.below hW)
                  rw [← s1, ← s2] at k2
                  rw [← s1, ← s3] at k4
                  rw [← s1, ← s4] at k6
                  generalize PD.wth x (t, 5) = xw at *
                  generalize PD.less x t = xd at *
                  generalize PD.find x t = fz at *
                  generalize PD.isAt x t = bo at *
                  have S5 := Lib.hid s5
                  have S6 := Lib.hid s6
                  have g0 := hcl wr hBr
                  clear hcl ht s1 s2 s3 s4 s5 s6 hfw hfl htz hf1
                  go_wp2_with fail
                  refine (k1 wr hBr).mono ?_
                  rintro e w16 ⟨rfl, hB16⟩
                  have hb16 := hBr.trans (hB16.mono hBr.size)
                  clear k1 g0 hBr hB16
                  have g0 := HC.out w16 hb16
                  go_wp2_with fail
                  refine (k2 w16 hb16).mono ?_
                  rintro e w17 ⟨rfl, hw17⟩
                  rw [hw17]
                  clear hw17 w17 k2
                  go_wp2_with fail
                  refine (k3 w16 hb16).mono ?_
                  rintro e w18 ⟨v18, rfl, hO18, hB18⟩
                  have hb18 := hb16.trans (hB18.mono hb16.size)
                  have hU18 := hO18.row HFW.out
                  obtain ⟨A18, c18, rfl, _⟩ := hO18.cap
                  clear k3 g0 hb16 hB18 hO18
                  have g0 := HC.out w18 hb18
                  go_wp2_with fail
                  refine (k4 w18 hb18).mono ?_
                  rintro e w19 ⟨v19, rfl, hs1, hs2, hB19⟩
                  have hb19 := hb18.trans (hB19.mono hb18.size)
                  have hV19 : Es w19 v19 xw := by
                    cases hbo : bo with
                    | true => rw [hs1 hbo, S5.out hbo]; exact HE.out.below hb19
                    | false => exact (hs2 hbo).row HFW.out
                  have hU19 := hU18.below hB19
                  obtain ⟨A19, c19, rfl⟩ := hV19.form
                  clear k4 g0 hb18 hB19 hU18 hs1 hs2
                  have g0 := HC.out w19 hb19
                  go_wp2_with fail
                  refine (k5 w19 hb19).mono ?_
                  rintro e w20 ⟨v20, rfl, hO20, hB20⟩
                  have hb20 := hb19.trans (hB20.mono hb19.size)
                  have hU20 := hU19.below hB20
                  have hV20 := hV19.below hB20
                  have hD20 := hO20.row HFL.out
                  obtain ⟨A20, c20, rfl, _⟩ := hO20.cap
                  clear k5 g0 hb19 hB20 hU19 hV19 hO20
                  have g0 := HC.out w20 hb20
                  go_wp2_with fail
                  refine (k6 w20 hb20).mono ?_
                  rintro e w21 ⟨v21, rfl, hs1, hs2, hB21⟩
                  have hb21 := hb20.trans (hB21.mono hb20.size)
                  have hG21 : Es w21 v21 xd := by
                    cases hbo : bo with
                    | false => rw [hs1 hbo, S6.out hbo]; exact HE.out.below hb21
                    | true => exact (hs2 hbo).row HFL.out
                  have hU21 := hU20.below hB21
                  have hV21 := hV20.below hB21
                  have hD21 := hD20.below hB21
                  obtain ⟨A21, c21, rfl⟩ := hG21.form
                  clear k6 g0 hb20 hB21 hU20 hV20 hD20 hs1 hs2
                  have q1 := same_any _ _ xw w21 hU21 hV21
                  have HD := Lib.hid hD21
                  have HG := Lib.hid hG21
                  clear hU21 hV21 hD21 hG21
                  generalize xw.length = lw at *
                  generalize hxd : xd.length = ld at *
                  go_wp2_with fail
                  refine q1.mono ?_
                  rintro e w22 ⟨rfl, hB22⟩
                  have q2 := same_any _ _ xd w22 (HD.out.below hB22) (HG.out.below hB22)
                  have hb22 := hb21.trans (hB22.mono hb21.size)
                  clear q1 hb21 hB22 HD HG
                  go_wp2_with fail
                  refine q2.mono ?_
                  rintro e w23 ⟨rfl, hB23⟩
                  have hb23 := hb22.trans (hB23.mono hb22.size)
                  clear q2 hb22 hB23
                  go_wp2
                  go_roundw
                  case rel => exact ⟨j + 1, by omega, by go_num, hb23⟩
                  case measure => simp [intOf]; omega
                · have hbz := hb15.trans (hBr.mono hb15.size)
                  clear HE HT HTL HTZ
                  go_wp2
                  go_ret
                  exact ⟨rfl, hbz⟩
end Go.Proofs.Ytckkljiaicmljaa
