/-
  The law TreeAll, walked.
-/
import Derived.Test.YtniegpdllijjfaaGreatDoorWe
namespace Go.Proofs.YtniegpdllijjfaaGreatDoor
open Go.RowKit Go.Joins

theorem PT.Fine.ways_fit {t : List PT.N} (g : PT.Fine t) (z : Int) : (∀ s ∈ PT.waysI t z, s.size ≤ 1048576) ∧ (PT.waysI t z).length ≤ 65536 := by
  by_cases h : z < 1
  · have : PT.waysI t z = [] := by unfold PT.waysI; rw [if_neg (by omega), if_pos h]
    rw [this]
    simp
  · obtain ⟨k, rfl⟩ : ∃ k : Nat, z = ((k + 1 : Nat) : Int) := ⟨(z - 1).toNat, by omega⟩
    exact ⟨fun s hs => by have := g.ways_small hs; omega, by have := g.ways_few k; omega⟩
set_option maxRecDepth 100000 in
set_option maxHeartbeats 4000000 in
theorem tall_out (A : Option Addr) (n c : Nat) (A' : Option Addr) (n' c' how pos own : Nat) (s : ByteArray) (W : World) (hM : Ml W) (hn : 60 < n ∨ 8 < n' ∨ 130 < s.size) : Calls Tryz.prog 3 #[.slice A n c, .slice A' n' c', .int .u8 (how : Int), .int .u8 (pos : Int), .string s, .int .u8 (own : Int)] W fun e W' => e = .returned (.bool true) ∧ Below W.heap.size W W' := by
  have h8 := begun_any W hM
  by_cases h60 : 60 < n
  · have hd : decide ((60 : Int) < (n : Int)) = true := by simp; omega
    go_enter Tryz.func3, Tryz.ntmps3
    go_wp2_with (go_at_call 8; refine h8.mono ?_; rintro e w1 ⟨rfl, hB1⟩)
    go_ret
    exact ⟨rfl, hB1⟩
  · have hd : decide ((60 : Int) < (n : Int)) = false := by simp; omega
    by_cases h6 : 8 < n'
    · have hd2 : decide ((8 : Int) < (n' : Int)) = true := by simp; omega
      go_enter Tryz.func3, Tryz.ntmps3
      go_wp2_with (go_at_call 8; refine h8.mono ?_; rintro e w1 ⟨rfl, hB1⟩)
      go_ret
      exact ⟨rfl, hB1⟩
    · have hd2 : decide ((8 : Int) < (n' : Int)) = false := by simp; omega
      have hd3 : decide ((130 : Int) < (s.size : Int)) = true := decide_eq_true (by omega)
      go_enter Tryz.func3, Tryz.ntmps3
      go_wp2_with (go_at_call 8; refine h8.mono ?_; rintro e w1 ⟨rfl, hB1⟩)
      go_ret
      exact ⟨rfl, hB1⟩
set_option maxRecDepth 100000 in
set_option maxHeartbeats 16000000 in
theorem tall_law (A : Option Addr) (n c : Nat) (bs : List Nat) (A' : Option Addr) (n' c' : Nat) (bs' : List Nat) (how pos own : Nat) (s : ByteArray) (W : World) (hM : Ml W) (hv : Tx W (.slice A n c) bs) (hn : bs.length = n) (h60 : n ≤ 60) (hv' : Tx W (.slice A' n' c') bs') (hn' : bs'.length = n') (h8' : n' ≤ 8) (hs : s.size ≤ 130) (hh : how < 256) (hp : pos < 256) (ho : own < 256) : Calls Tryz.prog 3 #[.slice A n c, .slice A' n' c', .int .u8 (how : Int), .int .u8 (pos : Int), .string s, .int .u8 (own : Int)] W fun e W' => e = .returned (.bool true) ∧ Below W.heap.size W W' := by
  have h8 := begun_any W hM
  have hd60 : decide ((60 : Int) < (n : Int)) = false := by simp; omega
  have hd8 : decide ((8 : Int) < (n' : Int)) = false := by simp; omega
  have hd130 : decide ((130 : Int) < (s.size : Int)) = false := decide_eq_false (by omega)
  have hwp : IntKind.i64.wrap (pos : Int) = (pos : Int) := by rw [IntKind.wrap_i64]; omega
  have HM := Lib.hid hM
  have HV := Lib.hid (And.intro hv hv')
  obtain ⟨o, hown⟩ : ∃ o : Nat, own % 2 = o := ⟨_, rfl⟩
  have hro : Int.tmod (own : Int) 2 = (o : Int) := by rw [← hown]; exact rfl
  have ho2 : o = 0 ∨ o = 1 := by omega
  have HRO := Lib.hid hro
  clear hM hv hv' hown hro
  go_enter Tryz.func3, Tryz.ntmps3
  go_wp2_with (go_at_call 8; refine h8.mono ?_; rintro e w1 ⟨rfl, hB1⟩; have h9 := made_any A n c w1)
  refine h9.mono ?_
  rintro e w2 ⟨g, rfl, hg, hx, hB2⟩
  have hP := Pw.start hB1 hg hx hB2
  have h10 := treeP HV.out.1 hn 30 (by decide) w2 hP
  clear h9 hx hg hB1 hB2 hP
  go_wp2_with fail
  refine h10.mono ?_
  rintro e w3 ⟨v, t, rfl, hT, hG, hP3⟩
  have hb3 := hP3.1
  have hl9 := hG.fine.len
  obtain ⟨T, TC, rfl⟩ := hT.form
  rw [hl9] at hT ⊢
  have HT := Lib.hid hT
  have HG := Lib.hid hG
  have h11 := turned_any _ t how pos s w3 hT hG.fine hh hp hs
  clear h8 h10 hT hG hP3
  go_wp2_with fail
  refine h11.mono ?_
  rintro e w4 ⟨u, x, rfl, hX, hB4⟩
  have HX := Lib.hid hX
  obtain ⟨U, UC, rfl⟩ := hX.form
  obtain ⟨UL, hUL⟩ : ∃ UL, x.length = UL := ⟨_, rfl⟩
  rw [hUL] at HX ⊢
  clear h11 hX hUL hwp
  -- seven calls, one behind the other
  have hmt : PT.mayB t = true := (PT.may_iff t).2 HG.out.fine
  have hc : ∀ V, Below w3.heap.size w3 V → Ts V (.slice U UL UC) x → Calls Tryz.prog 12 #[.slice T 9 TC] V (fun e w' => e = .returned (.bool true) ∧ Below V.heap.size V w') ∧ Calls Tryz.prog 12 #[.slice U UL UC] V (fun e w' => e = .returned (.bool (PT.mayB x)) ∧ Below V.heap.size V w') ∧ Calls Tryz.prog 13 #[.slice U UL UC] V (fun e w' => e = .returned (.bool (PT.mayB x)) ∧ Below V.heap.size V w') ∧ Calls Tryz.prog 14 #[.slice T 9 TC, .slice U UL UC] V (fun e w' => e = .returned (.bool (decide (t = x))) ∧ Below V.heap.size V w') ∧ Calls Tryz.prog 15 #[.slice T 9 TC, .slice U UL UC] V (fun e w' => e = .returned (.bool (decide (t = x))) ∧ Below V.heap.size V w') := by
    intro V hb hX
    have hT := HT.out.below hb
    refine ⟨?_, may_any' _ x V hX, rmaytree_any _ x V hX, tsame_any _ _ t x V hT hX, rsame_any _ _ t x V hT hX⟩
    have := may_any' _ t V hT
    rw [hmt] at this
    exact this
  generalize PT.mayB x = MX at *
  generalize decide (t = x) = DX at *
  have HC := Lib.hid hc
  have hmm : (MX != MX) = false := by simp
  have hdd : (DX != DX) = false := by simp
  have k1 := (HC.out w4 hB4 HX.out).1
  clear hc hmt
  go_wp2_with fail
  refine k1.mono ?_
  rintro e w5 ⟨rfl, hB5⟩
  have q5 := hB4.trans (hB5.mono hB4.size)
  have X5 := HX.out.below hB5
  have k2 := (HC.out w5 q5 X5).2.1
  clear k1 hB5
  go_wp2_with fail
  refine k2.mono ?_
  rintro e w6 ⟨rfl, hB6⟩
  have q6 := q5.trans (hB6.mono q5.size)
  have X6 := X5.below hB6
  have k3 := (HC.out w6 q6 X6).2.2.1
  clear k2 hB6 X5
  go_wp2_with fail
  refine k3.mono ?_
  rintro e w7 ⟨rfl, hB7⟩
  have q7 := q6.trans (hB7.mono q6.size)
  have X7 := X6.below hB7
  have k4 := (HC.out w7 q7 X7).2.2.2.1
  clear k3 hB7 X6
  go_wp2_with fail
  refine k4.mono ?_
  rintro e w8 ⟨rfl, hB8⟩
  have q8 := q7.trans (hB8.mono q7.size)
  have X8 := X7.below hB8
  have k5 := (HC.out w8 q8 X8).2.2.2.2
  clear k4 hB8 X7
  go_wp2_with fail
  refine k5.mono ?_
  rintro e w9 ⟨rfl, hB9⟩
  have q9 := q8.trans (hB9.mono q8.size)
  have k6 := new_any w9
  clear k5 hB9 X8 HC
  go_wp2_with fail
  refine k6.mono ?_
  rintro e w10 ⟨v10, rfl, hN10, hB10⟩
  have q10 := q9.trans (hB10.mono q9.size)
  have hT10 := hN10.row PT.new_fit
  have k7 := rnew_any w10
  clear k6 hB10 hN10
  go_wp2_with fail
  refine k7.mono ?_
  rintro e w11 ⟨v11, rfl, hN11, hB11⟩
  have q11 := q10.trans (hB11.mono q10.size)
  have hT11 := hN11.row PT.new_fit
  have k8 := rsame_any v10 v11 PT.new PT.new w11 (hT10.below hB11) hT11
  rw [decide_eq_true rfl] at k8
  clear k7 hB11 hN11 hT10 hT11
  go_wp2_with fail
  refine k8.mono ?_
  rintro e w12 ⟨rfl, hB12⟩
  have q12 := q11.trans (hB12.mono q11.size)
  clear k8 hB12
  have hq3 := hb3.trans (q12.mono hb3.size)
  have h9 := made_any A' n' c' w12
  go_wp2_with fail
  refine h9.mono ?_
  rintro e w13 ⟨g2, rfl, hg2, hx2, hB13⟩
  have hP := Pw.start (Below.refl w12.heap.size w12) hg2 hx2 hB13
  have hv12 : Tx w12 (.slice A' n' c') bs' := HV.out.2.below hq3
  have k9 := pathP hv12 hn' w13 hP
  clear h9 hx2 hg2
  go_wp2_with fail
  refine k9.mono ?_
  rintro e w14 ⟨p1, rfl, hp1, hP14, _⟩
  have k10 := pathP hv12 hn' w14 hP14
  clear k9
  go_wp2_with fail
  refine k10.mono ?_
  rintro e w15 ⟨p2, rfl, hp2, hP15, _⟩
  have q15 := q12.trans (hP15.1.mono q12.size)
  have hs1 : ¬ 9223372036854775807 < 1 + s.size := by omega
  clear k10 hP14 hP15 hP hv12 hq3
  have hSs : Ss (w15.alloc (.cells #[.string s, .string p1, .string p2, .string ({ data := #[47] } ++ s)] 9)) (.slice (some ⟨w15.heap.size, 0, none⟩) 4 4) [s, p1, p2, { data := #[47] } ++ s] :=
    Ss.new w15 _ _ 4 4 _ rfl _ rfl rfl (by
      intro r hr
      simp only [List.mem_cons, List.not_mem_nil, or_false] at hr
      rcases hr with rfl | rfl | rfl | rfl
      · omega
      · omega
      · omega
      · rw [ByteArray.size_append, show ({ data := #[47] } : ByteArray).size = 1 from rfl]; omega) (by decide)
  have hsm : ∀ r ∈ [s, p1, p2, { data := #[47] } ++ s], r.size ≤ 65535 := by
    intro r hr
    simp only [List.mem_cons, List.not_mem_nil, or_false] at hr
    rcases hr with rfl | rfl | rfl | rfl
    · omega
    · omega
    · omega
    · rw [ByteArray.size_append, show ({ data := #[47] } : ByteArray).size = 1 from rfl]; omega
  have hB16 := q15.alloc q15.size (.cells #[.string s, .string p1, .string p2, .string ({ data := #[47] } ++ s)] 9)
  go_upto_region 11 with fail
  generalize w15.alloc (.cells #[.string s, .string p1, .string p2, .string ({ data := #[47] } ++ s)] 9) = w16 at *
  generalize hg16 : w15.heap.size = g16 at *
  obtain ⟨b16, o16, e16, hb16, hcl⟩ := hSs.at (by simp)
  injection e16 with e16
  injection e16 with e1 e2
  subst e1 e2
  have hl4 : [s, p1, p2, { data := #[47] } ++ s].length = 4 := rfl
  generalize [s, p1, p2, { data := #[47] } ++ s] = P at *
  have HCL := Lib.hid (And.intro hcl hsm)
  have HB16 := Lib.hid hB16
  clear hSs hcl hsm hs1 hg16 q15 hB16
  go_wp2
  go_loopw [17] (fun i wr => ∃ k : Nat, k ≤ 4 ∧ i = .int .i64 (k : Int) ∧ Below w16.heap.size w16 wr) (fun i _ => 4 - (intOf i).toNat)
  case atStart => exact ⟨0, by decide, rfl, Below.refl _ _⟩
  case round =>
    obtain ⟨k, hk, rfl, hB⟩ := hrel
    by_cases hlt : k < 4
    · have hd : decide ((k : Int) < 4) = true := by simp; omega
      obtain ⟨r, hr⟩ : ∃ r, P[k]? = some r := ⟨_, List.getElem?_eq_getElem (by omega)⟩
      have hcr : ∀ V, Below w16.heap.size w16 V → V.cell? ⟨g16, 0 + k, none⟩ = some (.string r) := fun V hb => (hb.cell (p := ⟨g16, 0 + k, none⟩) hb16).trans (HCL.out.1 k r hr)
      simp only [Nat.zero_add] at hcr
      have hrs := HCL.out.2 r (List.mem_of_getElem? hr)
      have hq := HB16.out.trans (hB.mono HB16.out.size)
      rcases ho2 with h0 | h0
      · have hro : Int.tmod (own : Int) 2 = 0 := by rw [HRO.out, h0]; rfl
        clear h0
        have h19 := tfind_any _ t r false wr (HM.out.below (hb3.trans (hq.mono hb3.size))) (HT.out.below hq) HG.out.fine hrs
        have h20 := fun V (hb : Below w3.heap.size w3 V) => rtfind_any _ t r false V (HT.out.below hb) HG.out.fine hrs
        have c1 := hcr wr hB
        generalize PT.find t (PT.pp false r) = f at *
        have HCR := Lib.hid hcr
        have H20 := Lib.hid h20
        have hf1 : (f.1 != f.1) = false := by simp
        have hf2 : (f.2 != f.2) = false := by simp
        clear hcr h20 hr
        go_wp2_with fail
        refine h19.mono ?_
        rintro e w17 ⟨rfl, hB17⟩
        have q17 := hB.trans (hB17.mono hB.size)
        have h20 := H20.out w17 (hq.trans (hB17.mono hq.size))
        have c2 := HCR.out w17 q17
        clear h19 hB17 c1
        go_wp2_with fail
        refine h20.mono ?_
        rintro e w18 ⟨rfl, hB18⟩
        have q18 := q17.trans (hB18.mono q17.size)
        clear h20 hB18 c2
        go_wp2
        go_roundw
        case rel => exact ⟨k + 1, by omega, by go_num, q18⟩
        case measure => simp [intOf]; omega
      · have hro : Int.tmod (own : Int) 2 = 1 := by rw [HRO.out, h0]; rfl
        clear h0
        have h19 := tfind_any _ t r true wr (HM.out.below (hb3.trans (hq.mono hb3.size))) (HT.out.below hq) HG.out.fine hrs
        have h20 := fun V (hb : Below w3.heap.size w3 V) => rtfind_any _ t r true V (HT.out.below hb) HG.out.fine hrs
        have c1 := hcr wr hB
        generalize PT.find t (PT.pp true r) = f at *
        have HCR := Lib.hid hcr
        have H20 := Lib.hid h20
        have hf1 : (f.1 != f.1) = false := by simp
        have hf2 : (f.2 != f.2) = false := by simp
        clear hcr h20 hr
        go_wp2_with fail
        refine h19.mono ?_
        rintro e w17 ⟨rfl, hB17⟩
        have q17 := hB.trans (hB17.mono hB.size)
        have h20 := H20.out w17 (hq.trans (hB17.mono hq.size))
        have c2 := HCR.out w17 q17
        clear h19 hB17 c1
        go_wp2_with fail
        refine h20.mono ?_
        rintro e w18 ⟨rfl, hB18⟩
        have q18 := q17.trans (hB18.mono q17.size)
        clear h20 hB18 c2
        go_wp2
        go_roundw
        case rel => exact ⟨k + 1, by omega, by go_num, q18⟩
        case measure => simp [intOf]; omega
    · have hd : decide ((k : Int) < 4) = false := by simp; omega
      have HQ := Lib.hid (HB16.out.trans (hB.mono HB16.out.size))
      clear hB
      go_wp2
      clear hd
      go_loopw [22] (fun i wr => ∃ z : Nat, z ≤ 11 ∧ i = .int .i64 (z : Int) ∧ Below w3.heap.size w3 wr) (fun i _ => 11 - (intOf i).toNat)
      case atStart => exact ⟨0, by decide, rfl, HQ.out⟩
      case round =>
        obtain ⟨z, hz, rfl, hB⟩ := hrel
        by_cases hzl : z < 11
        · have hd : decide ((z : Int) ≤ 10) = true := by simp; omega
          have k1 := tlinksI_any _ t (z : Int) wr (HT.out.below hB)
          have k2 := fun V (hb : Below w3.heap.size w3 V) => rlinks_any _ t (z : Int) V (HT.out.below hb)
          have k3 := fun V (hb : Below w3.heap.size w3 V) => ways_any _ t (z : Int) V (HT.out.below hb) HG.out.fine
          have k4 := fun V (hb : Below w3.heap.size w3 V) => rWays_any _ t (z : Int) V (HT.out.below hb) HG.out.fine
          have hfit := HG.out.fine.ways_fit (z : Int)
          simp only [PT.waysI_eq HG.out.fine] at k3
          generalize PT.waysI t (z : Int) = L at *
          generalize PT.linksI t (z : Int) = N at *
          have hNN : ((N : Int) != (N : Int)) = false := by simp
          have K2 := Lib.hid k2
          have K3 := Lib.hid k3
          have K4 := Lib.hid k4
          have HFIT := Lib.hid hfit
          clear k2 k3 k4 hfit
          go_wp2_with fail
          refine k1.mono ?_
          rintro e v1 ⟨rfl, hb1⟩
          have q1 := hB.trans (hb1.mono hB.size)
          have k2 := K2.out v1 q1
          clear k1 hb1
          go_wp2_with fail
          refine k2.mono ?_
          rintro e v2 ⟨rfl, hb2⟩
          have q2 := q1.trans (hb2.mono q1.size)
          have k3 := K3.out v2 q2
          clear k2 hb2
          go_wp2_with fail
          refine k3.mono ?_
          rintro e v3 ⟨l1, rfl, hO3, hb3'⟩
          have q3 := q2.trans (hb3'.mono q2.size)
          have k4 := K4.out v3 q3
          have S3 := hO3.row HFIT.out.1 HFIT.out.2
          clear k3 hb3' hO3
          go_wp2_with fail
          refine k4.mono ?_
          rintro e v4 ⟨l2, rfl, hO4, hb4'⟩
          have q4 := q3.trans (hb4'.mono q3.size)
          have S4 := hO4.row HFIT.out.1 HFIT.out.2
          have k5 := texts_any l1 l2 L v4 (S3.below hb4') S4
          clear k4 hb4' hO4 S3 S4
          go_wp2_with fail
          refine k5.mono ?_
          rintro e v5 ⟨rfl, hb5'⟩
          have q5 := q4.trans (hb5'.mono q4.size)
          clear k5 hb5'
          go_wp2
          go_roundw
          case rel => exact ⟨z + 1, by omega, by go_num, q5⟩
          case measure => simp [intOf]; omega
        · have hd : decide ((z : Int) ≤ 10) = false := by simp; omega
          have hb := hb3.trans (hB.mono hb3.size)
          go_wp2
          go_ret
          exact ⟨rfl, hb⟩
end Go.Proofs.YtniegpdllijjfaaGreatDoor
