/-
  Contract: the document's Link.
-/
import Derived.Test.YtdnobplhfbgbaaaGreatDoorUg
namespace Go.Proofs.YtdnobplhfbgbaaaGreatDoor
open Go.RowKit Go.Joins

/-- What stands of a good tree and a way that is found: the cell of its kind. -/
theorem Ts.kindCell {w : World} {b0 o0 c : Nat} {t : List PT.N} (h : Ts w (.slice (some ⟨b0, o0, none⟩) 9 c) t) (h9 : t.length = 9) {k : Nat} {n : PT.N} (hn : t[k]? = some n) (W : World) (hW : Below w.heap.size w W) : W.cell? ⟨b0, o0 + k * 3, none⟩ = some (.int .i64 n.kind) ∧ W.cell? ⟨b0, o0 + k * 3 + 1, none⟩ = some (.int .i64 n.mode) ∧ W.cell? ⟨b0, o0 + k * 3 + 2, none⟩ = some (.string n.body) := by
  obtain ⟨b1, o1, e, hb, hc⟩ := h.at (by omega)
  injection e with e
  injection e with e1 e2
  subst e1 e2
  obtain ⟨c0, c1, c2⟩ := hc k n hn
  exact ⟨(hW.cell hb).trans c0, (hW.cell hb).trans c1, (hW.cell hb).trans c2⟩
theorem Ts.nine {w : World} {v : Value} {t : List PT.N} (h : Ts w v t) (g : PT.Fine t) : ∃ b0 o0 c, v = .slice (some ⟨b0, o0, none⟩) 9 c := by
  obtain ⟨A, c, rfl⟩ := h.form
  obtain ⟨b0, o0, rfl, _, _⟩ := h.at (by rw [g.len]; decide)
  exact ⟨b0, o0, c, by rw [g.len]⟩
set_option maxRecDepth 100000 in
set_option maxHeartbeats 16000000 in
theorem rlink_any (v : Value) (t : List PT.N) (a b : ByteArray) (o : Bool) (w : World) (h : Ts w v t) (g : PT.Fine t) (ha : a.size ≤ 65535) (hb : b.size ≤ 65535) : Calls Tryz.prog 28 #[v, .string a, .string b, .bool o] w fun e w' => ∃ v', e = .returned (.tuple #[v', .int .i64 (PT.link t (PT.pp o a) (PT.pp o b)).2]) ∧ Ts w' v' (PT.link t (PT.pp o a) (PT.pp o b)).1 ∧ Below w.heap.size w w' := by
  have hpa := rparts_any a o w ha
  have hpb := fun W (_ : Below w.heap.size w W) => rparts_any b o W hb
  have hfine := PT.link_fine g (PT.pp o a) (PT.pp o b)
  have hfd := fun W (hW : Below w.heap.size w W) => rtfind_any v t a o W (h.below hW) g ha
  have hleb := PN.pt_le o b
  obtain ⟨b0, o0, c, rfl⟩ := h.nine g
  have H := Lib.hid h
  have G := Lib.hid g
  have h9 := g.len
  cases hia : PN.is o a with
  | false =>
    rw [PT.pp_no hia, show PT.link t none (PT.pp o b) = (t, 1) from rfl]
    rw [hia] at hpa
    have HPA := Lib.hid hpa
    have HPB := Lib.hid hpb
    clear hpa hpb hfine hfd hia h g hleb h9
    go_enter Tryz.func28, Tryz.ntmps28
    go_wp2_with (first | (go_at_call 72; refine (HPB.out _ hB1).mono ?_; rintro e w2 ⟨u2, rfl, hO2, hB2⟩; have hb2 := hB1.trans (hB2.mono hB1.size)) | (go_at_call 72; refine HPA.out.mono ?_; rintro e w1 ⟨u1, rfl, hO1, hB1⟩; clear hO1))
    go_ret2
    exact ⟨_, rfl, H.out.below hb2, hb2⟩
  | true =>
    rw [hia] at hpa
    rw [PT.pp_yes hia] at hfine hfd ⊢
    generalize PN.pt o a = f at *
    cases hib : PN.is o b with
    | false =>
      rw [PT.pp_no hib, show PT.link t (some f) none = (t, 1) from rfl]
      have HPA := Lib.hid hpa
      have HPB := Lib.hid hpb
      rw [hib] at HPB
      clear hpa hpb hfine hfd hib hia h g hleb h9
      go_enter Tryz.func28, Tryz.ntmps28
      go_wp2_with (first | (go_at_call 72; refine (HPB.out _ hB1).mono ?_; rintro e w2 ⟨u2, rfl, hO2, hB2⟩; have hb2 := hB1.trans (hB2.mono hB1.size)) | (go_at_call 72; refine HPA.out.mono ?_; rintro e w1 ⟨u1, rfl, hO1, hB1⟩; clear hO1))
      go_ret2
      exact ⟨_, rfl, H.out.below hb2, hb2⟩
    | true =>
      rw [hib] at hpb
      rw [PT.pp_yes hib] at hfine ⊢
      generalize PN.pt o b = l at *
      rw [show PT.find t (some f) = PT.walk t 0 f from rfl] at hfd
      rw [show PT.link t (some f) (some l) = PT.link2 t f l from rfl] at hfine ⊢
      obtain ⟨R, hR⟩ : ∃ R, PT.link2 t f l = R := ⟨_, rfl⟩
      rw [hR] at hfine ⊢
      have HR := Lib.hid hR
      generalize hM : l.length = M at *
      have HM := Lib.hid hM
      have HLE := Lib.hid hleb
      have HPA := Lib.hid hpa
      have HPB := Lib.hid hpb
      have HFI := Lib.hid hfine
      clear hpa hpb hib hia hR hM hleb hfine
      rcases Classical.em ((PT.walk t 0 f).2 = 0) with hwz | hwz
      rotate_left
      · have HRV := Lib.hid (show R = (t, (PT.walk t 0 f).2) from by rw [← HR.out]; unfold PT.link2; rw [if_pos hwz])
        generalize PT.walk t 0 f = p at *
        obtain ⟨pa, pe⟩ := p
        dsimp only at *
        have HFD := Lib.hid hfd
        have hz1 : (pe == 0) = false := by simpa using hwz
        clear hfd h g
        go_enter Tryz.func28, Tryz.ntmps28
        go_wp2_with (first | (go_at_call 72; refine (HPB.out _ hB1).mono ?_; rintro e w2 ⟨u2, rfl, hO2, hB2⟩; obtain ⟨U, q, rfl, hq, hSs⟩ := hO2.got HM.out HLE.out; have hb2 := hB1.trans (hB2.mono hB1.size); clear hO2 hB2) | (go_at_call 72; refine HPA.out.mono ?_; rintro e w1 ⟨u1, rfl, hO1, hB1⟩; clear hO1) | (go_at_call 37; refine (HFD.out _ hb2).mono ?_; rintro e w3 ⟨rfl, hB3⟩; have hb3 := hb2.trans (hB3.mono hb2.size); have hSs3 := hSs.below hB3; clear hB3))
        go_ret2
        rw [HRV.out]
        exact ⟨_, rfl, H.out.below hb3, hb3⟩
      obtain ⟨k, nk, hwk, hk9, hnk, hnk0, _⟩ := g.walk_yes hwz
      have hck := h.kindCell h9 hnk
      have HCK := Lib.hid (fun W hW => (hck W hW).1)
      rw [hwk] at hfd
      rw [show ((k + 1 : Nat) : Int) = (k : Int) + 1 by omega] at hfd
      dsimp only at hfd
      have HFD := Lib.hid hfd
      have hw1 : IntKind.i64.wrap ((k : Int) + 1 - 1) = (k : Int) := by rw [IntKind.wrap_i64]; omega
      have hl2 : ∀ X, X = PT.link2 t f l → X = (if nk.kind = 2 then (t, 4) else if l = [] then (t, 3) else if (PT.place t l).2 ≠ 0 then (t, (PT.place t l).2) else if PD.has (PT.names t (PT.px (PT.place t l).1)) (PT.last l) = true then (t, 3) else PT.link3 t (PT.put t (PT.px (PT.place t l).1) (PT.last l, (k : Int) + 1))) := by
        intro X hX
        rw [hX, PT.link2, if_neg (by rw [hwz]; decide), hwk]
        simp only [PT.px_succ, PT.kindAt_at hnk]
        rw [show ((k + 1 : Nat) : Int) = (k : Int) + 1 by omega]
      have hRv := hl2 R HR.out.symm
      clear hfd hck hl2 hwk hwz
      by_cases hk2 : nk.kind = 2
      · have HRV := Lib.hid (show R = (t, 4) from by rw [hRv, if_pos hk2])
        rw [hk2] at HCK
        clear hRv hk2 h g hnk
        go_enter Tryz.func28, Tryz.ntmps28
        go_wp2_with (first | (go_at_call 72; refine (HPB.out _ hB1).mono ?_; rintro e w2 ⟨u2, rfl, hO2, hB2⟩; obtain ⟨U, q, rfl, hq, hSs⟩ := hO2.got HM.out HLE.out; have hb2 := hB1.trans (hB2.mono hB1.size); clear hO2 hB2) | (go_at_call 72; refine HPA.out.mono ?_; rintro e w1 ⟨u1, rfl, hO1, hB1⟩; clear hO1) | (go_at_call 37; refine (HFD.out _ hb2).mono ?_; rintro e w3 ⟨rfl, hB3⟩; have hb3 := hb2.trans (hB3.mono hb2.size); have hSs3 := hSs.below hB3; clear hB3; have hck := HCK.out _ hb3))
        go_ret2
        rw [HRV.out]
        exact ⟨_, rfl, H.out.below hb3, hb3⟩
      rw [if_neg hk2] at hRv
      have hk2d : (nk.kind == 2) = false := by simpa using hk2
      generalize nk.kind = kk at *
      clear hk2 hnk
      rcases Classical.em (l = []) with hl | hl
      · have HRV := Lib.hid (show R = (t, 3) from by rw [hRv, if_pos hl])
        have hM0 : M = 0 := by rw [← HM.out, hl]; rfl
        subst hM0
        clear hRv hl h g
        go_enter Tryz.func28, Tryz.ntmps28
        go_wp2_with (first | (go_at_call 72; refine (HPB.out _ hB1).mono ?_; rintro e w2 ⟨u2, rfl, hO2, hB2⟩; obtain ⟨U, q, rfl, hq, hSs⟩ := hO2.got HM.out HLE.out; have hb2 := hB1.trans (hB2.mono hB1.size); clear hO2 hB2) | (go_at_call 72; refine HPA.out.mono ?_; rintro e w1 ⟨u1, rfl, hO1, hB1⟩; clear hO1) | (go_at_call 37; refine (HFD.out _ hb2).mono ?_; rintro e w3 ⟨rfl, hB3⟩; have hb3 := hb2.trans (hB3.mono hb2.size); have hSs3 := hSs.below hB3; clear hB3; have hck := HCK.out _ hb3))
        go_ret2
        rw [HRV.out]
        exact ⟨_, rfl, H.out.below hb3, hb3⟩
      rw [if_neg hl] at hRv
      have hM1 : ((M : Int) == 0) = false := by
        have : M ≠ 0 := fun e => hl (List.eq_nil_of_length_eq_zero (by rw [HM.out]; exact e))
        simp <;> omega
      have hpl := fun W (hW : Below w.heap.size w W) U q (hq : M ≤ q) (hu : Ss W (.slice U M q) l) => rplace_any (some ⟨b0, o0, none⟩) U c M q t l W (H.out.below hW) G.out hu HM.out hq hl
      rcases Classical.em ((PT.place t l).2 = 0) with hz | hz
      rotate_left
      · have HRV := Lib.hid (show R = (t, (PT.place t l).2) from by rw [hRv, if_pos hz])
        rw [if_neg hz] at hpl
        have HPL := Lib.hid hpl
        clear hpl hRv h g
        generalize PT.place t l = p at *
        obtain ⟨pa, pe⟩ := p
        dsimp only at *
        have hz1 : (pe == 0) = false := by simpa using hz
        go_enter Tryz.func28, Tryz.ntmps28
        go_wp2_with (first | (go_at_call 72; refine (HPB.out _ hB1).mono ?_; rintro e w2 ⟨u2, rfl, hO2, hB2⟩; obtain ⟨U, q, rfl, hq, hSs⟩ := hO2.got HM.out HLE.out; have hb2 := hB1.trans (hB2.mono hB1.size); clear hO2 hB2) | (go_at_call 72; refine HPA.out.mono ?_; rintro e w1 ⟨u1, rfl, hO1, hB1⟩; clear hO1) | (go_at_call 37; refine (HFD.out _ hb2).mono ?_; rintro e w3 ⟨rfl, hB3⟩; have hb3 := hb2.trans (hB3.mono hb2.size); have hSs3 := hSs.below hB3; clear hB3; have hck := HCK.out _ hb3) | (go_at_call 73; refine (HPL.out _ hb3 U q hq hSs3).mono ?_; rintro e w4 ⟨rfl, hB4⟩; have hb4 := hb3.trans (hB4.mono hb3.size); clear hB4))
        go_ret2
        rw [HRV.out]
        exact ⟨_, rfl, H.out.below hb4, hb4⟩
      rw [if_neg (by rw [hz]; decide)] at hRv
      rw [if_pos hz] at hpl
      obtain ⟨d, n, hd, _, hd9, hn, hkn, _⟩ := G.out.place_yes hz
      rw [hd] at hpl hRv
      simp only [PT.px_succ] at hRv
      rw [show ((d + 1 : Nat) : Int) = (d : Int) + 1 by omega] at hpl
      dsimp only at hpl
      have hlx := HLE.out.2 _ (PT.last_mem hl)
      have hnm := fun W (hW : Below w.heap.size w W) => names_ix _ t d W (H.out.below hW) (by omega)
      have HPL := Lib.hid hpl
      have HNM := Lib.hid hnm
      generalize PT.last l = x at *
      obtain ⟨m, hm⟩ : ∃ m, PT.names t d = m := ⟨_, rfl⟩
      rw [hm] at hRv HNM
      obtain ⟨ff, hf⟩ : ∃ f, PD.rfind m x = f := ⟨_, rfl⟩
      have HF := Lib.hid hf
      obtain ⟨bb, hbb⟩ : ∃ b, PD.has m x = b := ⟨_, rfl⟩
      rw [hbb] at hRv
      have HBB := Lib.hid hbb
      clear hpl hnm hz hd hf hm hl hbb h g
      cases bb with
      | true =>
        have HRV := Lib.hid (show R = (t, 3) from by rw [hRv, if_pos rfl])
        clear hRv hn
        go_enter Tryz.func28, Tryz.ntmps28
        go_wp2_with (first | (go_at_call 72; refine (HPB.out _ hB1).mono ?_; rintro e w2 ⟨u2, rfl, hO2, hB2⟩; obtain ⟨U, q, rfl, hq, hSs⟩ := hO2.got HM.out HLE.out; have hb2 := hB1.trans (hB2.mono hB1.size); clear hO2 hB2) | (go_at_call 72; refine HPA.out.mono ?_; rintro e w1 ⟨u1, rfl, hO1, hB1⟩; clear hO1) | (go_at_call 37; refine (HFD.out _ hb2).mono ?_; rintro e w3 ⟨rfl, hB3⟩; have hb3 := hb2.trans (hB3.mono hb2.size); have hSs3 := hSs.below hB3; clear hB3; have hck := HCK.out _ hb3) | (go_at_call 73; refine (HPL.out _ hb3 U q hq hSs3).mono ?_; rintro e w4 ⟨rfl, hB4⟩; have hb4 := hb3.trans (hB4.mono hb3.size); clear hB4) | (go_at_call 75; refine (HNM.out _ hb4).mono ?_; rintro e w5 ⟨v5, rfl, hO5, hF5, hB5⟩; have hb5 := hb4.trans (hB5.mono hb4.size); have hE5 := hO5.row hF5; clear hO5 hF5 hB5) | (go_at_call 74; have hr := rfind_any _ _ x _ hE5; rw [HF.out, HBB.out] at hr; refine hr.mono ?_; rintro e w6 ⟨rfl, hw6⟩; rw [hw6]; clear hw6 hE5 hr))
        go_ret2
        rw [HRV.out]
        exact ⟨_, rfl, H.out.below hb5, hb5⟩
      | false =>
        rw [if_neg (by decide)] at hRv
        have hI : I64 ((k : Int) + 1) := by unfold I64; omega
        cases hpt : PT.put t d (x, (k : Int) + 1) with
        | none =>
          have HRV := Lib.hid (show R = (t, 8) from by rw [hRv, hpt]; rfl)
          have HPN := Lib.hid (fun W (hW : Below w.heap.size w W) => rtput_none _ t d n x _ W (H.out.below hW) hn (by omega) (by omega) hI hpt)
          clear hRv hpt hn
          go_enter Tryz.func28, Tryz.ntmps28
          go_wp2_with (first | (go_at_call 72; refine (HPB.out _ hB1).mono ?_; rintro e w2 ⟨u2, rfl, hO2, hB2⟩; obtain ⟨U, q, rfl, hq, hSs⟩ := hO2.got HM.out HLE.out; have hb2 := hB1.trans (hB2.mono hB1.size); clear hO2 hB2) | (go_at_call 72; refine HPA.out.mono ?_; rintro e w1 ⟨u1, rfl, hO1, hB1⟩; clear hO1) | (go_at_call 37; refine (HFD.out _ hb2).mono ?_; rintro e w3 ⟨rfl, hB3⟩; have hb3 := hb2.trans (hB3.mono hb2.size); have hSs3 := hSs.below hB3; clear hB3; have hck := HCK.out _ hb3) | (go_at_call 73; refine (HPL.out _ hb3 U q hq hSs3).mono ?_; rintro e w4 ⟨rfl, hB4⟩; have hb4 := hb3.trans (hB4.mono hb3.size); clear hB4) | (go_at_call 75; refine (HNM.out _ hb4).mono ?_; rintro e w5 ⟨v5, rfl, hO5, hF5, hB5⟩; have hb5 := hb4.trans (hB5.mono hb4.size); have hE5 := hO5.row hF5; clear hO5 hF5 hB5) | (go_at_call 74; have hr := rfind_any _ _ x _ hE5; rw [HF.out, HBB.out] at hr; refine hr.mono ?_; rintro e w6 ⟨rfl, hw6⟩; rw [hw6]; clear hw6 hE5 hr) | (go_at_call 76; refine (HPN.out _ hb5).mono ?_; rintro e w7 ⟨rfl, hB7⟩))
          go_ret2
          rw [HRV.out]
          exact ⟨_, rfl, H.out.below (hb5.trans (hB7.mono hb5.size)), hb5.trans (hB7.mono hb5.size)⟩
        | some y =>
          have HRV := Lib.hid (show R = (y, 0) from by rw [hRv, hpt]; rfl)
          have HPS := Lib.hid (fun W (hW : Below w.heap.size w W) => rtput_some _ t y d n x _ W (H.out.below hW) hn (by omega) (by omega) hI hpt)
          clear hRv hpt hn
          go_enter Tryz.func28, Tryz.ntmps28
          go_wp2_with (first | (go_at_call 72; refine (HPB.out _ hB1).mono ?_; rintro e w2 ⟨u2, rfl, hO2, hB2⟩; obtain ⟨U, q, rfl, hq, hSs⟩ := hO2.got HM.out HLE.out; have hb2 := hB1.trans (hB2.mono hB1.size); clear hO2 hB2) | (go_at_call 72; refine HPA.out.mono ?_; rintro e w1 ⟨u1, rfl, hO1, hB1⟩; clear hO1) | (go_at_call 37; refine (HFD.out _ hb2).mono ?_; rintro e w3 ⟨rfl, hB3⟩; have hb3 := hb2.trans (hB3.mono hb2.size); have hSs3 := hSs.below hB3; clear hB3; have hck := HCK.out _ hb3) | (go_at_call 73; refine (HPL.out _ hb3 U q hq hSs3).mono ?_; rintro e w4 ⟨rfl, hB4⟩; have hb4 := hb3.trans (hB4.mono hb3.size); clear hB4) | (go_at_call 75; refine (HNM.out _ hb4).mono ?_; rintro e w5 ⟨v5, rfl, hO5, hF5, hB5⟩; have hb5 := hb4.trans (hB5.mono hb4.size); have hE5 := hO5.row hF5; clear hO5 hF5 hB5) | (go_at_call 74; have hr := rfind_any _ _ x _ hE5; rw [HF.out, HBB.out] at hr; refine hr.mono ?_; rintro e w6 ⟨rfl, hw6⟩; rw [hw6]; clear hw6 hE5 hr) | (go_at_call 76; refine (HPS.out _ hb5).mono ?_; rintro e w7 ⟨v7, rfl, hO7, hT7, hB7⟩))
          go_ret2
          rw [HRV.out]
          exact ⟨_, rfl, hT7, hb5.trans (hB7.mono hb5.size)⟩
end Go.Proofs.YtdnobplhfbgbaaaGreatDoor
