/-
  Contract: the document's Move.
-/
import Derived.Test.YtdnobplhfbgbaaaGreatDoorUi
namespace Go.Proofs.YtdnobplhfbgbaaaGreatDoor
open Go.RowKit Go.Joins

set_option maxRecDepth 100000 in
set_option maxHeartbeats 16000000 in
theorem rmove_any (v : Value) (t : List PT.N) (a b : ByteArray) (o : Bool) (w : World) (h : Ts w v t) (g : PT.Fine t) (ha : a.size ≤ 65535) (hb : b.size ≤ 65535) : Calls Tryz.prog 30 #[v, .string a, .string b, .bool o] w fun e w' => ∃ v', e = .returned (.tuple #[v', .int .i64 (PT.move t (PT.pp o a) (PT.pp o b)).2]) ∧ Ts w' v' (PT.move t (PT.pp o a) (PT.pp o b)).1 ∧ Below w.heap.size w w' := by
  have hpa := rparts_any a o w ha
  have hpb := fun W (_ : Below w.heap.size w W) => rparts_any b o W hb
  have hfine := PT.move_fine g (PT.pp o a) (PT.pp o b)
  have hfd := fun W (hW : Below w.heap.size w W) => rtfind_any v t a o W (h.below hW) g ha
  have hleb := PN.pt_le o b
  have hlef := PN.pt_le o a
  obtain ⟨b0, o0, c, rfl⟩ := h.nine g
  have H := Lib.hid h
  have G := Lib.hid g
  have h9 := g.len
  cases hia : PN.is o a with
  | false =>
    rw [PT.pp_no hia, show PT.move t none (PT.pp o b) = (t, 1) from rfl]
    rw [hia] at hpa
    have HPA := Lib.hid hpa
    have HPB := Lib.hid hpb
    clear hpa hpb hfine hfd hia h g hleb hlef h9
    go_enter Tryz.func30, Tryz.ntmps30
    go_wp2_with (first | (go_at_call 72; refine (HPB.out _ hB1).mono ?_; rintro e w2 ⟨u2, rfl, hO2, hB2⟩; have hb2 := hB1.trans (hB2.mono hB1.size)) | (go_at_call 72; refine HPA.out.mono ?_; rintro e w1 ⟨u1, rfl, hO1, hB1⟩; clear hO1))
    go_ret2
    exact ⟨_, rfl, H.out.below hb2, hb2⟩
  | true =>
    rw [hia] at hpa
    rw [PT.pp_yes hia] at hfine hfd ⊢
    generalize PN.pt o a = f at *
    cases hib : PN.is o b with
    | false =>
      rw [PT.pp_no hib, show PT.move t (some f) none = (t, 1) from rfl]
      have HPA := Lib.hid hpa
      have HPB := Lib.hid hpb
      rw [hib] at HPB
      clear hpa hpb hfine hfd hib hia h g hleb hlef h9
      go_enter Tryz.func30, Tryz.ntmps30
      go_wp2_with (first | (go_at_call 72; refine (HPB.out _ hB1).mono ?_; rintro e w2 ⟨u2, rfl, hO2, hB2⟩; have hb2 := hB1.trans (hB2.mono hB1.size)) | (go_at_call 72; refine HPA.out.mono ?_; rintro e w1 ⟨u1, rfl, hO1, hB1⟩; clear hO1))
      go_ret2
      exact ⟨_, rfl, H.out.below hb2, hb2⟩
    | true =>
      rw [hib] at hpb
      rw [PT.pp_yes hib] at hfine ⊢
      generalize PN.pt o b = l at *
      rw [show PT.find t (some f) = PT.walk t 0 f from rfl] at hfd
      rw [show PT.move t (some f) (some l) = PT.move2 t f l from rfl] at hfine ⊢
      obtain ⟨R, hR⟩ : ∃ R, PT.move2 t f l = R := ⟨_, rfl⟩
      rw [hR] at hfine ⊢
      have HR := Lib.hid hR
      generalize hM : l.length = M at *
      have HM := Lib.hid hM
      generalize hMF : f.length = MF at *
      have HMF := Lib.hid hMF
      have HLE := Lib.hid hleb
      have HLF := Lib.hid hlef
      have HPA := Lib.hid hpa
      have HPB := Lib.hid hpb
      have HFI := Lib.hid hfine
      clear hpa hpb hib hia hR hM hMF hleb hlef hfine
      rcases Classical.em ((PT.walk t 0 f).2 = 0) with hwz | hwz
      rotate_left
      · have HRV := Lib.hid (show R = (t, (PT.walk t 0 f).2) from by rw [← HR.out, PT.move2, if_pos hwz])
        generalize PT.walk t 0 f = p at *
        obtain ⟨pa, pe⟩ := p
        dsimp only at *
        have HFD := Lib.hid hfd
        have hz1 : (pe == 0) = false := by simpa using hwz
        clear hfd h g
        go_enter Tryz.func30, Tryz.ntmps30
        go_wp2_with (first | (go_at_call 72; refine (HPB.out _ hB1).mono ?_; rintro e w2 ⟨u2, rfl, hO2, hB2⟩; obtain ⟨U, q, rfl, hq, hSs⟩ := hO2.got HM.out HLE.out; have hb2 := hB1.trans (hB2.mono hB1.size); have hS2 := hS1.below hB2; clear hO2 hB2) | (go_at_call 72; refine HPA.out.mono ?_; rintro e w1 ⟨u1, rfl, hO1, hB1⟩; obtain ⟨U1, q1, rfl, hq1, hS1⟩ := hO1.got HMF.out HLF.out; clear hO1) | (go_at_call 37; refine (HFD.out _ hb2).mono ?_; rintro e w3 ⟨rfl, hB3⟩; have hb3 := hb2.trans (hB3.mono hb2.size); have hSs3 := hSs.below hB3; have hS3 := hS2.below hB3; clear hB3))
        go_ret2
        rw [HRV.out]
        exact ⟨_, rfl, H.out.below hb3, hb3⟩
      obtain ⟨k, nk, hwk, hk9, hnk, hnk0, _⟩ := g.walk_yes hwz
      have hck := h.kindCell h9 hnk
      have HCK := Lib.hid (fun W hW => (hck W hW).1)
      have hRv : R = (if k = 0 then (t, 4) else if l = [] then (t, 3) else if (PT.place t l).2 ≠ 0 then (t, (PT.place t l).2) else if (PT.place t f).1 = (PT.place t l).1 ∧ PT.last f = PT.last l then (t, 0) else if PD.has (PT.names t (PT.px (PT.place t l).1)) (PT.last l) = true then (t, 3) else if nk.kind = 2 ∧ PT.inB t 9 (PT.px (PT.place t l).1) k = true then (t, 7) else PT.link3 t (PT.put (PT.take t (PT.px (PT.place t f).1) (PT.last f)) (PT.px (PT.place t l).1) (PT.last l, (k : Int) + 1))) := by
        rw [← HR.out, PT.move2, if_neg (by rw [hwz]; decide), hwk]
        simp only [PT.px_succ, PT.kindAt_at hnk]
        rw [show ((k + 1 : Nat) : Int) = (k : Int) + 1 by omega]
      have hwk0 := hwk
      rw [hwk] at hfd
      rw [show ((k + 1 : Nat) : Int) = (k : Int) + 1 by omega] at hfd
      dsimp only at hfd
      have HFD := Lib.hid hfd
      have hw1 : IntKind.i64.wrap ((k : Int) + 1 - 1) = (k : Int) := by rw [IntKind.wrap_i64]; omega
      clear hfd hck
      by_cases hk0 : k = 0
      · have HRV := Lib.hid (show R = (t, 4) from by rw [hRv, if_pos hk0])
        subst hk0
        have e1 : (((0 : Nat) : Int) + 1 == 1) = true := rfl
        clear hRv h g hnk hwk hwk0 hwz
        go_enter Tryz.func30, Tryz.ntmps30
        go_wp2_with (first | (go_at_call 72; refine (HPB.out _ hB1).mono ?_; rintro e w2 ⟨u2, rfl, hO2, hB2⟩; obtain ⟨U, q, rfl, hq, hSs⟩ := hO2.got HM.out HLE.out; have hb2 := hB1.trans (hB2.mono hB1.size); have hS2 := hS1.below hB2; clear hO2 hB2) | (go_at_call 72; refine HPA.out.mono ?_; rintro e w1 ⟨u1, rfl, hO1, hB1⟩; obtain ⟨U1, q1, rfl, hq1, hS1⟩ := hO1.got HMF.out HLF.out; clear hO1) | (go_at_call 37; refine (HFD.out _ hb2).mono ?_; rintro e w3 ⟨rfl, hB3⟩; have hb3 := hb2.trans (hB3.mono hb2.size); have hSs3 := hSs.below hB3; have hS3 := hS2.below hB3; clear hB3))
        go_ret2
        rw [HRV.out]
        exact ⟨_, rfl, H.out.below hb3, hb3⟩
      rw [if_neg hk0] at hRv
      have e1 : ((k : Int) + 1 == 1) = false := by simp <;> omega
      obtain ⟨d1, n1, nk2, en, hlf, hpf, hd19, hn1, hkn1, hen, hen1, hwk2, hnk2, _, _⟩ := g.walk_last hwz (by rw [hwk]; simp only [PT.px_succ]; exact hk0)
      rw [hpf] at hRv
      clear hwk hwk0 hwk2 hwz hnk2 hen hen1
      rcases Classical.em (l = []) with hl | hl
      · have HRV := Lib.hid (show R = (t, 3) from by rw [hRv, if_pos hl])
        have hM0 : M = 0 := by rw [← HM.out, hl]; rfl
        subst hM0
        clear hRv hl h g hnk hn1 hpf hlf
        go_enter Tryz.func30, Tryz.ntmps30
        go_wp2_with (first | (go_at_call 72; refine (HPB.out _ hB1).mono ?_; rintro e w2 ⟨u2, rfl, hO2, hB2⟩; obtain ⟨U, q, rfl, hq, hSs⟩ := hO2.got HM.out HLE.out; have hb2 := hB1.trans (hB2.mono hB1.size); have hS2 := hS1.below hB2; clear hO2 hB2) | (go_at_call 72; refine HPA.out.mono ?_; rintro e w1 ⟨u1, rfl, hO1, hB1⟩; obtain ⟨U1, q1, rfl, hq1, hS1⟩ := hO1.got HMF.out HLF.out; clear hO1) | (go_at_call 37; refine (HFD.out _ hb2).mono ?_; rintro e w3 ⟨rfl, hB3⟩; have hb3 := hb2.trans (hB3.mono hb2.size); have hSs3 := hSs.below hB3; have hS3 := hS2.below hB3; clear hB3))
        go_ret2
        rw [HRV.out]
        exact ⟨_, rfl, H.out.below hb3, hb3⟩
      rw [if_neg hl] at hRv
      have hM1 : ((M : Int) == 0) = false := by
        have : M ≠ 0 := fun e => hl (List.eq_nil_of_length_eq_zero (by rw [HM.out]; exact e))
        simp <;> omega
      have hpl := fun W (hW : Below w.heap.size w W) U q (hq : M ≤ q) (hu : Ss W (.slice U M q) l) => rplace_any (some ⟨b0, o0, none⟩) U c M q t l W (H.out.below hW) G.out hu HM.out hq hl
      rcases Classical.em ((PT.place t l).2 = 0) with hz | hz
      rotate_left
      · have HRV := Lib.hid (show R = (t, (PT.place t l).2) from by rw [hRv, if_pos hz])
        rw [if_neg hz] at hpl
        have HPL := Lib.hid hpl
        clear hpl hRv h g hnk hn1 hpf hlf
        generalize PT.place t l = p at *
        obtain ⟨pa, pe⟩ := p
        dsimp only at *
        have hz1 : (pe == 0) = false := by simpa using hz
        go_enter Tryz.func30, Tryz.ntmps30
        go_wp2_with (first | (go_at_call 72; refine (HPB.out _ hB1).mono ?_; rintro e w2 ⟨u2, rfl, hO2, hB2⟩; obtain ⟨U, q, rfl, hq, hSs⟩ := hO2.got HM.out HLE.out; have hb2 := hB1.trans (hB2.mono hB1.size); have hS2 := hS1.below hB2; clear hO2 hB2) | (go_at_call 72; refine HPA.out.mono ?_; rintro e w1 ⟨u1, rfl, hO1, hB1⟩; obtain ⟨U1, q1, rfl, hq1, hS1⟩ := hO1.got HMF.out HLF.out; clear hO1) | (go_at_call 37; refine (HFD.out _ hb2).mono ?_; rintro e w3 ⟨rfl, hB3⟩; have hb3 := hb2.trans (hB3.mono hb2.size); have hSs3 := hSs.below hB3; have hS3 := hS2.below hB3; clear hB3) | (go_at_call 73; refine (HPL.out _ hb3 U q hq hSs3).mono ?_; rintro e w4 ⟨rfl, hB4⟩; have hb4 := hb3.trans (hB4.mono hb3.size); have hS4 := hS3.below hB4; clear hB4))
        go_ret2
        rw [HRV.out]
        exact ⟨_, rfl, H.out.below hb4, hb4⟩
      rw [if_neg (by rw [hz]; decide)] at hRv
      rw [if_pos hz] at hpl
      obtain ⟨d, n, hd, _, hd9, hn, hkn, _⟩ := G.out.place_yes hz
      rw [hd] at hpl hRv
      simp only [PT.px_succ] at hRv
      rw [show ((d + 1 : Nat) : Int) = (d : Int) + 1 by omega] at hpl hRv
      rw [show ((d1 + 1 : Nat) : Int) = (d1 : Int) + 1 by omega] at hRv
      dsimp only at hpl
      have hpff := fun W (hW : Below w.heap.size w W) U q (hq : MF ≤ q) (hu : Ss W (.slice U MF q) f) => rplace_any (some ⟨b0, o0, none⟩) U c MF q t f W (H.out.below hW) G.out hu HMF.out hq hlf
      rw [hpf] at hpff
      rw [show ((d1 + 1 : Nat) : Int) = (d1 : Int) + 1 by omega] at hpff
      dsimp only at hpff
      rw [if_pos rfl] at hpff
      have hlx := HLE.out.2 _ (PT.last_mem hl)
      have hnm := fun W (hW : Below w.heap.size w W) => names_ix _ t d W (H.out.below hW) (by omega)
      have hin := fun W (hW : Below w.heap.size w W) => rwithin_nine t g d k n nk hn hkn hnk hnk0 b0 o0 c W (H.out.below hW)
      have htf := PT.take_fit (d := d1) (s := PT.last f) g.fit
      have htk : ∀ W, Below w.heap.size w W → Calls Tryz.prog 83 #[.slice (some ⟨b0, o0, none⟩) 9 c, .int .i64 ((d1 : Int) + 1), .string (PT.last f)] W fun e w' => ∃ v', e = .returned v' ∧ Ts w' v' (PT.take t d1 (PT.last f)) ∧ Below W.heap.size W w' := fun W hW => by
        refine (rttake_any _ t d1 n1 (PT.last f) W (H.out.below hW) hn1 (by omega)).mono ?_
        rintro e w' ⟨v', rfl, hO, hB⟩
        exact ⟨v', rfl, hO.row htf.1, hB⟩
      have HPL := Lib.hid hpl
      have HPF := Lib.hid hpff
      have HNM := Lib.hid hnm
      have HTK := Lib.hid htk
      obtain ⟨nd, hnd⟩ : ∃ nd, (PT.take t d1 (PT.last f))[d]? = some nd := ⟨_, List.getElem?_eq_getElem (by rw [htf.2, h9]; exact hd9)⟩
      generalize PT.take t d1 (PT.last f) = y at *
      generalize PT.last l = x at *
      generalize PT.last f = xf at *
      obtain ⟨m, hm⟩ : ∃ m, PT.names t d = m := ⟨_, rfl⟩
      rw [hm] at hRv HNM
      obtain ⟨ff, hf⟩ : ∃ f, PD.rfind m x = f := ⟨_, rfl⟩
      have HF := Lib.hid hf
      obtain ⟨bb, hbb⟩ : ∃ b, PD.has m x = b := ⟨_, rfl⟩
      rw [hbb] at hRv
      have HBB := Lib.hid hbb
      obtain ⟨ib, hib⟩ : ∃ b, PT.inB t 9 d k = b := ⟨_, rfl⟩
      rw [hib] at hRv hin
      have HIN := Lib.hid hin
      have hkk : nk.kind = 2 ∨ (nk.kind == 2) = false := by
        rcases Classical.em (nk.kind = 2) with e | e
        · exact .inl e
        · right; simpa using e
      generalize nk.kind = kk at *
      clear hpl hnm hz hd hf hm hl hbb h g hpff htk hin hib hnk hn hkn hn1 hkn1 hpf hlf
      by_cases hsame : (d1 : Int) + 1 = (d : Int) + 1 ∧ xf = x
      · have HRV := Lib.hid (show R = (t, 0) from by rw [hRv, if_pos hsame])
        obtain ⟨hs1, hs2⟩ := hsame
        have hdd : d1 = d := by omega
        subst hdd hs2
        have e2 : ((d1 : Int) + 1 == (d1 : Int) + 1) = true := beq_self_eq_true _
        have e3 := seq_yes xf
        clear hRv hs1
        go_enter Tryz.func30, Tryz.ntmps30
        go_wp2_with (first | (go_at_call 72; refine (HPB.out _ hB1).mono ?_; rintro e w2 ⟨u2, rfl, hO2, hB2⟩; obtain ⟨U, q, rfl, hq, hSs⟩ := hO2.got HM.out HLE.out; have hb2 := hB1.trans (hB2.mono hB1.size); have hS2 := hS1.below hB2; clear hO2 hB2) | (go_at_call 72; refine HPA.out.mono ?_; rintro e w1 ⟨u1, rfl, hO1, hB1⟩; obtain ⟨U1, q1, rfl, hq1, hS1⟩ := hO1.got HMF.out HLF.out; clear hO1) | (go_at_call 37; refine (HFD.out _ hb2).mono ?_; rintro e w3 ⟨rfl, hB3⟩; have hb3 := hb2.trans (hB3.mono hb2.size); have hSs3 := hSs.below hB3; have hS3 := hS2.below hB3; clear hB3) | (go_at_call 73; refine (HPF.out _ hb4 U1 q1 hq1 hS4).mono ?_; rintro e w5 ⟨rfl, hB5⟩; have hb5 := hb4.trans (hB5.mono hb4.size); clear hB5) | (go_at_call 73; refine (HPL.out _ hb3 U q hq hSs3).mono ?_; rintro e w4 ⟨rfl, hB4⟩; have hb4 := hb3.trans (hB4.mono hb3.size); have hS4 := hS3.below hB4; clear hB4))
        go_ret2
        rw [HRV.out]
        exact ⟨_, rfl, H.out.below hb5, hb5⟩
      rw [if_neg hsame] at hRv
      have hne : ((d1 : Int) + 1 == (d : Int) + 1) = false ∨ (((d1 : Int) + 1 == (d : Int) + 1) = true ∧ (xf.toList == x.toList) = false) := by
        rcases Classical.em ((d1 : Int) + 1 = (d : Int) + 1) with e | e
        · right
          exact ⟨by rw [e]; exact beq_self_eq_true _, seq_no fun e' => hsame ⟨e, e'⟩⟩
        · left
          simpa using e
      clear hsame
      cases bb with
      | true =>
        have HRV := Lib.hid (show R = (t, 3) from by rw [hRv, if_pos rfl])
        clear hRv
        rcases hne with e2 | ⟨e2, e3⟩
        all_goals
          go_enter Tryz.func30, Tryz.ntmps30
          go_wp2_with (first | (go_at_call 72; refine (HPB.out _ hB1).mono ?_; rintro e w2 ⟨u2, rfl, hO2, hB2⟩; obtain ⟨U, q, rfl, hq, hSs⟩ := hO2.got HM.out HLE.out; have hb2 := hB1.trans (hB2.mono hB1.size); have hS2 := hS1.below hB2; clear hO2 hB2) | (go_at_call 72; refine HPA.out.mono ?_; rintro e w1 ⟨u1, rfl, hO1, hB1⟩; obtain ⟨U1, q1, rfl, hq1, hS1⟩ := hO1.got HMF.out HLF.out; clear hO1) | (go_at_call 37; refine (HFD.out _ hb2).mono ?_; rintro e w3 ⟨rfl, hB3⟩; have hb3 := hb2.trans (hB3.mono hb2.size); have hSs3 := hSs.below hB3; have hS3 := hS2.below hB3; clear hB3) | (go_at_call 73; refine (HPF.out _ hb4 U1 q1 hq1 hS4).mono ?_; rintro e w5 ⟨rfl, hB5⟩; have hb5 := hb4.trans (hB5.mono hb4.size); clear hB5) | (go_at_call 73; refine (HPL.out _ hb3 U q hq hSs3).mono ?_; rintro e w4 ⟨rfl, hB4⟩; have hb4 := hb3.trans (hB4.mono hb3.size); have hS4 := hS3.below hB4; clear hB4) | (go_at_call 75; refine (HNM.out _ hb5).mono ?_; rintro e w6 ⟨v6, rfl, hO6, hF6, hB6⟩; have hb6 := hb5.trans (hB6.mono hb5.size); have hE6 := hO6.row hF6; clear hO6 hF6 hB6) | (go_at_call 74; have hr := rfind_any _ _ x _ hE6; rw [HF.out, HBB.out] at hr; refine hr.mono ?_; rintro e w7 ⟨rfl, hw7⟩; rw [hw7]; have hck := HCK.out _ hb6; clear hw7 hE6 hr))
          go_ret2
          rw [HRV.out]
          exact ⟨_, rfl, H.out.below hb6, hb6⟩
      | false =>
        rw [if_neg (by decide)] at hRv
        have hI : I64 ((k : Int) + 1) := by unfold I64; omega
        by_cases h7 : kk = 2 ∧ ib = true
        · have HRV := Lib.hid (show R = (t, 7) from by rw [hRv, if_pos h7])
          obtain ⟨rfl, rfl⟩ := h7
          clear hRv hkk
          rcases hne with e2 | ⟨e2, e3⟩
          all_goals
            go_enter Tryz.func30, Tryz.ntmps30
            go_wp2_with (first | (go_at_call 72; refine (HPB.out _ hB1).mono ?_; rintro e w2 ⟨u2, rfl, hO2, hB2⟩; obtain ⟨U, q, rfl, hq, hSs⟩ := hO2.got HM.out HLE.out; have hb2 := hB1.trans (hB2.mono hB1.size); have hS2 := hS1.below hB2; clear hO2 hB2) | (go_at_call 72; refine HPA.out.mono ?_; rintro e w1 ⟨u1, rfl, hO1, hB1⟩; obtain ⟨U1, q1, rfl, hq1, hS1⟩ := hO1.got HMF.out HLF.out; clear hO1) | (go_at_call 37; refine (HFD.out _ hb2).mono ?_; rintro e w3 ⟨rfl, hB3⟩; have hb3 := hb2.trans (hB3.mono hb2.size); have hSs3 := hSs.below hB3; have hS3 := hS2.below hB3; clear hB3) | (go_at_call 73; refine (HPF.out _ hb4 U1 q1 hq1 hS4).mono ?_; rintro e w5 ⟨rfl, hB5⟩; have hb5 := hb4.trans (hB5.mono hb4.size); clear hB5) | (go_at_call 73; refine (HPL.out _ hb3 U q hq hSs3).mono ?_; rintro e w4 ⟨rfl, hB4⟩; have hb4 := hb3.trans (hB4.mono hb3.size); have hS4 := hS3.below hB4; clear hB4) | (go_at_call 75; refine (HNM.out _ hb5).mono ?_; rintro e w6 ⟨v6, rfl, hO6, hF6, hB6⟩; have hb6 := hb5.trans (hB6.mono hb5.size); have hE6 := hO6.row hF6; clear hO6 hF6 hB6) | (go_at_call 74; have hr := rfind_any _ _ x _ hE6; rw [HF.out, HBB.out] at hr; refine hr.mono ?_; rintro e w7 ⟨rfl, hw7⟩; rw [hw7]; have hck := HCK.out _ hb6; clear hw7 hE6 hr) | (go_at_call 82; refine (HIN.out _ hb6).mono ?_; rintro e w8 ⟨rfl, hB8⟩; have hb8 := hb6.trans (hB8.mono hb6.size); clear hB8))
            go_ret2
            rw [HRV.out]
            exact ⟨_, rfl, H.out.below hb8, hb8⟩
        rw [if_neg h7] at hRv
        have hk7 : (kk = 2 ∧ ib = false) ∨ (kk == 2) = false := by
          rcases hkk with e | e
          · left
            refine ⟨e, ?_⟩
            cases ib
            · rfl
            · exact absurd ⟨e, rfl⟩ h7
          · exact .inr e
        clear hkk h7
        cases hpt : PT.put y d (x, (k : Int) + 1) with
        | none =>
          have HRV := Lib.hid (show R = (t, 8) from by rw [hRv, hpt]; rfl)
          have HPN := Lib.hid (fun V W (hT : Ts W V y) => rtput_none V y d nd x _ W hT hnd (by omega) (by omega) hI hpt)
          clear hRv hpt hnd
          rcases hk7 with ⟨rfl, rfl⟩ | hkd
          · rcases hne with e2 | ⟨e2, e3⟩
            all_goals
              go_enter Tryz.func30, Tryz.ntmps30
              go_wp2_with (first | (go_at_call 72; refine (HPB.out _ hB1).mono ?_; rintro e w2 ⟨u2, rfl, hO2, hB2⟩; obtain ⟨U, q, rfl, hq, hSs⟩ := hO2.got HM.out HLE.out; have hb2 := hB1.trans (hB2.mono hB1.size); have hS2 := hS1.below hB2; clear hO2 hB2) | (go_at_call 72; refine HPA.out.mono ?_; rintro e w1 ⟨u1, rfl, hO1, hB1⟩; obtain ⟨U1, q1, rfl, hq1, hS1⟩ := hO1.got HMF.out HLF.out; clear hO1) | (go_at_call 37; refine (HFD.out _ hb2).mono ?_; rintro e w3 ⟨rfl, hB3⟩; have hb3 := hb2.trans (hB3.mono hb2.size); have hSs3 := hSs.below hB3; have hS3 := hS2.below hB3; clear hB3) | (go_at_call 73; refine (HPF.out _ hb4 U1 q1 hq1 hS4).mono ?_; rintro e w5 ⟨rfl, hB5⟩; have hb5 := hb4.trans (hB5.mono hb4.size); clear hB5) | (go_at_call 73; refine (HPL.out _ hb3 U q hq hSs3).mono ?_; rintro e w4 ⟨rfl, hB4⟩; have hb4 := hb3.trans (hB4.mono hb3.size); have hS4 := hS3.below hB4; clear hB4) | (go_at_call 75; refine (HNM.out _ hb5).mono ?_; rintro e w6 ⟨v6, rfl, hO6, hF6, hB6⟩; have hb6 := hb5.trans (hB6.mono hb5.size); have hE6 := hO6.row hF6; clear hO6 hF6 hB6) | (go_at_call 74; have hr := rfind_any _ _ x _ hE6; rw [HF.out, HBB.out] at hr; refine hr.mono ?_; rintro e w7 ⟨rfl, hw7⟩; rw [hw7]; have hck := HCK.out _ hb6; clear hw7 hE6 hr) | (go_at_call 82; refine (HIN.out _ hb6).mono ?_; rintro e w8 ⟨rfl, hB8⟩; have hb8 := hb6.trans (hB8.mono hb6.size); clear hB8) | (go_at_call 83; refine (HTK.out _ hb8).mono ?_; rintro e w9 ⟨v9, rfl, hT9, hB9⟩; have hb9 := hb8.trans (hB9.mono hb8.size); clear hB9) | (go_at_call 76; refine (HPN.out v9 w9 hT9).mono ?_; rintro e w10 ⟨rfl, hB10⟩; have hb10 := hb9.trans (hB10.mono hb9.size)))
              go_ret2
              rw [HRV.out]
              exact ⟨_, rfl, H.out.below hb10, hb10⟩
          · rcases hne with e2 | ⟨e2, e3⟩
            all_goals
              go_enter Tryz.func30, Tryz.ntmps30
              go_wp2_with (first | (go_at_call 72; refine (HPB.out _ hB1).mono ?_; rintro e w2 ⟨u2, rfl, hO2, hB2⟩; obtain ⟨U, q, rfl, hq, hSs⟩ := hO2.got HM.out HLE.out; have hb2 := hB1.trans (hB2.mono hB1.size); have hS2 := hS1.below hB2; clear hO2 hB2) | (go_at_call 72; refine HPA.out.mono ?_; rintro e w1 ⟨u1, rfl, hO1, hB1⟩; obtain ⟨U1, q1, rfl, hq1, hS1⟩ := hO1.got HMF.out HLF.out; clear hO1) | (go_at_call 37; refine (HFD.out _ hb2).mono ?_; rintro e w3 ⟨rfl, hB3⟩; have hb3 := hb2.trans (hB3.mono hb2.size); have hSs3 := hSs.below hB3; have hS3 := hS2.below hB3; clear hB3) | (go_at_call 73; refine (HPF.out _ hb4 U1 q1 hq1 hS4).mono ?_; rintro e w5 ⟨rfl, hB5⟩; have hb5 := hb4.trans (hB5.mono hb4.size); clear hB5) | (go_at_call 73; refine (HPL.out _ hb3 U q hq hSs3).mono ?_; rintro e w4 ⟨rfl, hB4⟩; have hb4 := hb3.trans (hB4.mono hb3.size); have hS4 := hS3.below hB4; clear hB4) | (go_at_call 75; refine (HNM.out _ hb5).mono ?_; rintro e w6 ⟨v6, rfl, hO6, hF6, hB6⟩; have hb6 := hb5.trans (hB6.mono hb5.size); have hE6 := hO6.row hF6; clear hO6 hF6 hB6) | (go_at_call 74; have hr := rfind_any _ _ x _ hE6; rw [HF.out, HBB.out] at hr; refine hr.mono ?_; rintro e w7 ⟨rfl, hw7⟩; rw [hw7]; have hck := HCK.out _ hb6; clear hw7 hE6 hr) | (go_at_call 83; refine (HTK.out _ hb6).mono ?_; rintro e w9 ⟨v9, rfl, hT9, hB9⟩; have hb9 := hb6.trans (hB9.mono hb6.size); clear hB9) | (go_at_call 76; refine (HPN.out v9 w9 hT9).mono ?_; rintro e w10 ⟨rfl, hB10⟩; have hb10 := hb9.trans (hB10.mono hb9.size)))
              go_ret2
              rw [HRV.out]
              exact ⟨_, rfl, H.out.below hb10, hb10⟩
        | some z =>
          have HRV := Lib.hid (show R = (z, 0) from by rw [hRv, hpt]; rfl)
          have HPS := Lib.hid (fun V W (hT : Ts W V y) => (rtput_some V y z d nd x _ W hT hnd (by omega) (by omega) hI hpt).mono fun e w' (hh : ∃ v', e = .returned (.tuple #[v', .bool true]) ∧ To 27 w' W.heap.size v' z ∧ Ts w' v' z ∧ Below W.heap.size W w') => (show ∃ v', e = .returned (.tuple #[v', .bool true]) ∧ Ts w' v' z ∧ Below W.heap.size W w' from let ⟨v', h1, _, h3, h4⟩ := hh; ⟨v', h1, h3, h4⟩))
          clear hRv hpt hnd
          rcases hk7 with ⟨rfl, rfl⟩ | hkd
          · rcases hne with e2 | ⟨e2, e3⟩
            all_goals
              go_enter Tryz.func30, Tryz.ntmps30
              go_wp2_with (first | (go_at_call 72; refine (HPB.out _ hB1).mono ?_; rintro e w2 ⟨u2, rfl, hO2, hB2⟩; obtain ⟨U, q, rfl, hq, hSs⟩ := hO2.got HM.out HLE.out; have hb2 := hB1.trans (hB2.mono hB1.size); have hS2 := hS1.below hB2; clear hO2 hB2) | (go_at_call 72; refine HPA.out.mono ?_; rintro e w1 ⟨u1, rfl, hO1, hB1⟩; obtain ⟨U1, q1, rfl, hq1, hS1⟩ := hO1.got HMF.out HLF.out; clear hO1) | (go_at_call 37; refine (HFD.out _ hb2).mono ?_; rintro e w3 ⟨rfl, hB3⟩; have hb3 := hb2.trans (hB3.mono hb2.size); have hSs3 := hSs.below hB3; have hS3 := hS2.below hB3; clear hB3) | (go_at_call 73; refine (HPF.out _ hb4 U1 q1 hq1 hS4).mono ?_; rintro e w5 ⟨rfl, hB5⟩; have hb5 := hb4.trans (hB5.mono hb4.size); clear hB5) | (go_at_call 73; refine (HPL.out _ hb3 U q hq hSs3).mono ?_; rintro e w4 ⟨rfl, hB4⟩; have hb4 := hb3.trans (hB4.mono hb3.size); have hS4 := hS3.below hB4; clear hB4) | (go_at_call 75; refine (HNM.out _ hb5).mono ?_; rintro e w6 ⟨v6, rfl, hO6, hF6, hB6⟩; have hb6 := hb5.trans (hB6.mono hb5.size); have hE6 := hO6.row hF6; clear hO6 hF6 hB6) | (go_at_call 74; have hr := rfind_any _ _ x _ hE6; rw [HF.out, HBB.out] at hr; refine hr.mono ?_; rintro e w7 ⟨rfl, hw7⟩; rw [hw7]; have hck := HCK.out _ hb6; clear hw7 hE6 hr) | (go_at_call 82; refine (HIN.out _ hb6).mono ?_; rintro e w8 ⟨rfl, hB8⟩; have hb8 := hb6.trans (hB8.mono hb6.size); clear hB8) | (go_at_call 83; refine (HTK.out _ hb8).mono ?_; rintro e w9 ⟨v9, rfl, hT9, hB9⟩; have hb9 := hb8.trans (hB9.mono hb8.size); clear hB9) | (go_at_call 76; refine (HPS.out v9 w9 hT9).mono ?_; rintro e w10 ⟨v10, rfl, hT10, hB10⟩; have hb10 := hb9.trans (hB10.mono hb9.size)))
              go_ret2
              rw [HRV.out]
              exact ⟨_, rfl, hT10, hb10⟩
          · rcases hne with e2 | ⟨e2, e3⟩
            all_goals
              go_enter Tryz.func30, Tryz.ntmps30
              go_wp2_with (first | (go_at_call 72; refine (HPB.out _ hB1).mono ?_; rintro e w2 ⟨u2, rfl, hO2, hB2⟩; obtain ⟨U, q, rfl, hq, hSs⟩ := hO2.got HM.out HLE.out; have hb2 := hB1.trans (hB2.mono hB1.size); have hS2 := hS1.below hB2; clear hO2 hB2) | (go_at_call 72; refine HPA.out.mono ?_; rintro e w1 ⟨u1, rfl, hO1, hB1⟩; obtain ⟨U1, q1, rfl, hq1, hS1⟩ := hO1.got HMF.out HLF.out; clear hO1) | (go_at_call 37; refine (HFD.out _ hb2).mono ?_; rintro e w3 ⟨rfl, hB3⟩; have hb3 := hb2.trans (hB3.mono hb2.size); have hSs3 := hSs.below hB3; have hS3 := hS2.below hB3; clear hB3) | (go_at_call 73; refine (HPF.out _ hb4 U1 q1 hq1 hS4).mono ?_; rintro e w5 ⟨rfl, hB5⟩; have hb5 := hb4.trans (hB5.mono hb4.size); clear hB5) | (go_at_call 73; refine (HPL.out _ hb3 U q hq hSs3).mono ?_; rintro e w4 ⟨rfl, hB4⟩; have hb4 := hb3.trans (hB4.mono hb3.size); have hS4 := hS3.below hB4; clear hB4) | (go_at_call 75; refine (HNM.out _ hb5).mono ?_; rintro e w6 ⟨v6, rfl, hO6, hF6, hB6⟩; have hb6 := hb5.trans (hB6.mono hb5.size); have hE6 := hO6.row hF6; clear hO6 hF6 hB6) | (go_at_call 74; have hr := rfind_any _ _ x _ hE6; rw [HF.out, HBB.out] at hr; refine hr.mono ?_; rintro e w7 ⟨rfl, hw7⟩; rw [hw7]; have hck := HCK.out _ hb6; clear hw7 hE6 hr) | (go_at_call 83; refine (HTK.out _ hb6).mono ?_; rintro e w9 ⟨v9, rfl, hT9, hB9⟩; have hb9 := hb6.trans (hB9.mono hb6.size); clear hB9) | (go_at_call 76; refine (HPS.out v9 w9 hT9).mono ?_; rintro e w10 ⟨v10, rfl, hT10, hB10⟩; have hb10 := hb9.trans (hB10.mono hb9.size)))
              go_ret2
              rw [HRV.out]
              exact ⟨_, rfl, hT10, hb10⟩
end Go.Proofs.YtdnobplhfbgbaaaGreatDoor
