/-
  Contracts: the document's Drop, within.
-/
import Derived.Test.YtdnobplhfbgbaaaGreatDoorUh
namespace Go.Proofs.YtdnobplhfbgbaaaGreatDoor
open Go.RowKit Go.Joins

theorem body_empty (s : ByteArray) : s.toList.isEmpty = decide (s = { data := #[] }) := by
  have h := seq_dec s { data := #[] }
  rw [← h]
  cases s.toList <;> rfl
set_option maxRecDepth 100000 in
set_option maxHeartbeats 16000000 in
theorem rdrop_any (v : Value) (t : List PT.N) (s : ByteArray) (o : Bool) (w : World) (h : Ts w v t) (g : PT.Fine t) (hs : s.size ≤ 65535) : Calls Tryz.prog 32 #[v, .string s, .bool o] w fun e w' => ∃ v', e = .returned (.tuple #[v', .int .i64 (PT.drop t (PT.pp o s)).2]) ∧ Ts w' v' (PT.drop t (PT.pp o s)).1 ∧ Below w.heap.size w w' := by
  have hpb := fun W (_ : Below w.heap.size w W) => rparts_any s o W hs
  have hfine := PT.drop_fine g (PT.pp o s)
  have hfd := rtfind_any v t s o w h g hs
  have hleb := PN.pt_le o s
  obtain ⟨b0, o0, c, rfl⟩ := h.nine g
  have H := Lib.hid h
  have G := Lib.hid g
  have h9 := g.len
  obtain ⟨R, hR⟩ : ∃ R, PT.drop t (PT.pp o s) = R := ⟨_, rfl⟩
  rw [hR] at hfine ⊢
  rcases Classical.em ((PT.find t (PT.pp o s)).2 = 0) with hfz | hfz
  rotate_left
  · have HRV := Lib.hid (show R = (t, (PT.find t (PT.pp o s)).2) from by
      rw [← hR]
      cases hi : PN.is o s with
      | false => rw [PT.pp_no hi]; rfl
      | true =>
        rw [PT.pp_yes hi] at hfz ⊢
        show PT.drop2 t _ = _
        rw [PT.drop2, if_pos (show (PT.walk t 0 (PN.pt o s)).2 ≠ 0 from hfz)]
        rfl)
    generalize PT.find t (PT.pp o s) = p at *
    obtain ⟨pa, pe⟩ := p
    dsimp only at *
    have HFD := Lib.hid hfd
    have hz1 : (pe == 0) = false := by simpa using hfz
    clear hfd h g hR hfine hpb hleb
    go_enter Tryz.func32, Tryz.ntmps32
    go_wp2_with (first | (go_at_call 37; refine HFD.out.mono ?_; rintro e w1 ⟨rfl, hB1⟩))
    go_ret2
    rw [HRV.out]
    exact ⟨_, rfl, H.out.below hB1, hB1⟩
  cases hi : PN.is o s with
  | false =>
    rw [PT.pp_no hi] at hfz
    cases hfz
  | true =>
  rw [PT.pp_yes hi] at hfz hfd hR
  rw [hi] at hpb
  generalize PN.pt o s = l at *
  rw [show PT.find t (some l) = PT.walk t 0 l from rfl] at hfd hfz
  have hR2 : PT.drop2 t l = R := hR
  generalize hM : l.length = M at *
  have HM := Lib.hid hM
  have HLE := Lib.hid hleb
  have HPB := Lib.hid hpb
  have HFI := Lib.hid hfine
  obtain ⟨k, nk, hwk, hk9, hnk, hnk0, _⟩ := g.walk_yes hfz
  have hck := h.kindCell h9 hnk
  rw [hwk] at hfd
  rw [show ((k + 1 : Nat) : Int) = (k : Int) + 1 by omega] at hfd
  dsimp only at hfd
  have HFD := Lib.hid hfd
  have hw1 : IntKind.i64.wrap ((k : Int) + 1 - 1) = (k : Int) := by rw [IntKind.wrap_i64]; omega
  have hRv : R = (if k = 0 then (t, 4) else if nk.kind = 2 ∧ nk.body ≠ { data := #[] } then (t, 6) else if PT.named (PT.take t (PT.px (PT.place t l).1) (PT.last l)) k = 0 then ((PT.take t (PT.px (PT.place t l).1) (PT.last l)).set k PT.zero, 0) else (PT.take t (PT.px (PT.place t l).1) (PT.last l), 0)) := by
    rw [← hR2, PT.drop2, if_neg (by rw [hfz]; decide), hwk]
    simp only [PT.px_succ, PT.kindAt_at hnk, PT.bodyAt_at hnk]
  clear hfd hR hR2 hpb hi hM hleb hfine
  by_cases hk0 : k = 0
  · have HRV := Lib.hid (show R = (t, 4) from by rw [hRv, if_pos hk0])
    subst hk0
    have e1 : (((0 : Nat) : Int) + 1 == 1) = true := rfl
    clear hRv h g hnk hck hwk hfz
    go_enter Tryz.func32, Tryz.ntmps32
    go_wp2_with (first | (go_at_call 37; refine HFD.out.mono ?_; rintro e w1 ⟨rfl, hB1⟩))
    go_ret2
    rw [HRV.out]
    exact ⟨_, rfl, H.out.below hB1, hB1⟩
  rw [if_neg hk0] at hRv
  have e1 : ((k : Int) + 1 == 1) = false := by simp <;> omega
  by_cases h6 : nk.kind = 2 ∧ nk.body ≠ { data := #[] }
  · have HRV := Lib.hid (show R = (t, 6) from by rw [hRv, if_pos h6])
    have hbe : nk.body.toList.isEmpty = false := by rw [body_empty]; exact decide_eq_false h6.2
    have hk2 : (nk.kind == 2) = true := by rw [h6.1]; rfl
    have HCK := Lib.hid (fun W hW => And.intro (hck W hW).1 (hck W hW).2.2)
    obtain ⟨kd, md, bd⟩ := nk
    dsimp only at hbe hk2 HCK
    clear hRv h g hnk hck hwk hfz h6
    go_enter Tryz.func32, Tryz.ntmps32
    go_wp2_with (first | (go_at_call 37; refine HFD.out.mono ?_; rintro e w1 ⟨rfl, hB1⟩; obtain ⟨hck, hcb⟩ := HCK.out _ hB1))
    go_ret2
    rw [HRV.out]
    exact ⟨_, rfl, H.out.below hB1, hB1⟩
  rw [if_neg h6] at hRv
  obtain ⟨d, n, nk2, en, hl, hpl2, hd9, hn, hk, he, he1, hwk2, hnk2, _, _⟩ := g.walk_last hfz (by rw [hwk]; simp only [PT.px_succ]; exact hk0)
  rw [hpl2] at hRv
  simp only [PT.px_succ] at hRv
  have hpl := fun W (hW : Below w.heap.size w W) U q (hq : M ≤ q) (hu : Ss W (.slice U M q) l) => rplace_any (some ⟨b0, o0, none⟩) U c M q t l W (H.out.below hW) G.out hu HM.out hq hl
  rw [hpl2] at hpl
  rw [show ((d + 1 : Nat) : Int) = (d : Int) + 1 by omega] at hpl
  dsimp only at hpl
  rw [if_pos rfl] at hpl
  have HPL := Lib.hid hpl
  have htf := PT.take_fit (d := d) (s := PT.last l) g.fit
  have htk : ∀ W, Below w.heap.size w W → Calls Tryz.prog 83 #[.slice (some ⟨b0, o0, none⟩) 9 c, .int .i64 ((d : Int) + 1), .string (PT.last l)] W fun e w' => ∃ v', e = .returned v' ∧ Ts w' v' (PT.take t d (PT.last l)) ∧ Below W.heap.size W w' := fun W hW => by
    refine (rttake_any _ t d n (PT.last l) W (H.out.below hW) hn (by omega)).mono ?_
    rintro e w' ⟨v', rfl, hO, hB⟩
    exact ⟨v', rfl, hO.row htf.1, hB⟩
  have HTK := Lib.hid htk
  have HKL := Lib.hid (show k < (PT.take t d (PT.last l)).length from by rw [htf.2, h9]; exact hk9)
  have hnb := PT.linksI_named (PT.take t d (PT.last l)) (k := k) (by omega)
  rw [show ((k + 1 : Nat) : Int) = (k : Int) + 1 by omega] at hnb
  generalize PT.take t d (PT.last l) = y at *
  generalize PT.last l = x at *
  obtain ⟨nb, hnbe⟩ : ∃ nb, PT.named y k = nb := ⟨_, rfl⟩
  rw [hnbe] at hRv hnb
  have HNB := Lib.hid hnb
  have hcnd : ((nk.kind == 2) = false ∨ ((nk.kind == 2) = true ∧ nk.body.toList.isEmpty = true)) := by
    rcases Classical.em (nk.kind = 2) with h2 | h2
    · right
      refine ⟨by rw [h2]; rfl, ?_⟩
      rw [body_empty]
      exact decide_eq_true (Classical.not_not.1 fun e => h6 ⟨h2, e⟩)
    · left
      simpa using h2
  have HCK := Lib.hid (fun W hW => And.intro (hck W hW).1 (hck W hW).2.2)
  obtain ⟨kd, md, bd⟩ := nk
  dsimp only at hcnd HCK
  clear hck hnk hwk hfz h6 hpl hpl2 hn he hwk2 hnk2 htk htf hnbe hnb h g hl he1
  by_cases hn0 : nb = 0
  · have HRV := Lib.hid (show R = (y.set k PT.zero, 0) from by rw [hRv, if_pos hn0])
    subst hn0
    have hff := HFI.out
    rw [HRV.out] at hff
    have HFF := Lib.hid hff.fit
    clear hRv hff
    rcases hcnd with hc1 | ⟨hc1, hc2⟩
    all_goals
      go_enter Tryz.func32, Tryz.ntmps32
      go_wp2_with (first | (go_at_call 37; refine HFD.out.mono ?_; rintro e w1 ⟨rfl, hB1⟩; obtain ⟨hck, hcb⟩ := HCK.out _ hB1) | (go_at_call 72; refine (HPB.out _ hB1).mono ?_; rintro e w2 ⟨u2, rfl, hO2, hB2⟩; obtain ⟨U, q, rfl, hq, hSs⟩ := hO2.got HM.out HLE.out; have hb2 := hB1.trans (hB2.mono hB1.size); clear hO2 hB2) | (go_at_call 73; refine (HPL.out _ hb2 U q hq hSs).mono ?_; rintro e w3 ⟨rfl, hB3⟩; have hb3 := hb2.trans (hB3.mono hb2.size); clear hB3) | (go_at_call 83; refine (HTK.out _ hb3).mono ?_; rintro e w4 ⟨v4, rfl, hT4, hB4⟩; have hb4 := hb3.trans (hB4.mono hb3.size); clear hB4) | (go_at_call 38; have hlk := rlinks_any v4 _ ((k : Int) + 1) _ hT4; rw [HNB.out] at hlk; refine hlk.mono ?_; rintro e w5 ⟨rfl, hB5⟩; have hb5 := hb4.trans (hB5.mono hb4.size); have hT5 := hT4.below hB5) | (go_at_call 77; refine (with_ix v4 _ k PT.zero w5 hT5 HKL.out).mono ?_; rintro e w6 ⟨v6, rfl, hO6, hB6⟩))
      go_ret2
      rw [HRV.out]
      exact ⟨_, rfl, hO6.row HFF.out, hb5.trans (hB6.mono hb5.size)⟩
  · have HRV := Lib.hid (show R = (y, 0) from by rw [hRv, if_neg hn0])
    have hnz : ((nb : Int) == 0) = false := by simp <;> omega
    clear hRv
    rcases hcnd with hc1 | ⟨hc1, hc2⟩
    all_goals
      go_enter Tryz.func32, Tryz.ntmps32
      go_wp2_with (first | (go_at_call 37; refine HFD.out.mono ?_; rintro e w1 ⟨rfl, hB1⟩; obtain ⟨hck, hcb⟩ := HCK.out _ hB1) | (go_at_call 72; refine (HPB.out _ hB1).mono ?_; rintro e w2 ⟨u2, rfl, hO2, hB2⟩; obtain ⟨U, q, rfl, hq, hSs⟩ := hO2.got HM.out HLE.out; have hb2 := hB1.trans (hB2.mono hB1.size); clear hO2 hB2) | (go_at_call 73; refine (HPL.out _ hb2 U q hq hSs).mono ?_; rintro e w3 ⟨rfl, hB3⟩; have hb3 := hb2.trans (hB3.mono hb2.size); clear hB3) | (go_at_call 83; refine (HTK.out _ hb3).mono ?_; rintro e w4 ⟨v4, rfl, hT4, hB4⟩; have hb4 := hb3.trans (hB4.mono hb3.size); clear hB4) | (go_at_call 38; have hlk := rlinks_any v4 _ ((k : Int) + 1) _ hT4; rw [HNB.out] at hlk; refine hlk.mono ?_; rintro e w5 ⟨rfl, hB5⟩; have hb5 := hb4.trans (hB5.mono hb4.size); have hT5 := hT4.below hB5))
      go_ret2
      rw [HRV.out]
      exact ⟨_, rfl, hT5, hb5⟩
theorem PT.any_snoc {l : List E} {P : E → Bool} {j : Nat} {x : E} (h : l[j]? = some x) (hf : (l.take j).any P = false) : (l.take (j + 1)).any P = P x := by
  rw [List.take_add_one, h, List.any_append, hf]
  simp
theorem PT.any_at {l : List E} {P : E → Bool} {j : Nat} {x : E} (h : l[j]? = some x) (hp : P x = true) : l.any P = true := List.any_eq_true.2 ⟨x, List.mem_of_getElem? h, hp⟩
set_option maxRecDepth 100000 in
set_option maxHeartbeats 16000000 in
theorem rwithin_any (t : List PT.N) (g : PT.Fine t) (d : Nat) (hd : d < 9) : ∀ (f : Nat) (l : List Nat) (k : Nat) (b0 o0 c : Nat) (w : World), PT.Chain t 0 l k → l.length + f = 9 → k < 9 → Ts w (.slice (some ⟨b0, o0, none⟩) 9 c) t → Calls Tryz.prog 82 #[.slice (some ⟨b0, o0, none⟩) 9 c, .int .i64 ((d : Int) + 1), .int .i64 ((k : Int) + 1)] w fun e w' => e = .returned (.bool (PT.inB t f d k)) ∧ Below w.heap.size w w'
  | 0, l, k, b0, o0, c, w, hc, hl, _, _ => by
    have := g.depth hc
    omega
  | f + 1, l, k, b0, o0, c, w, hc, hl, hk9, h => by
    have hB : PT.inB t (f + 1) d k = (decide (d = k) || (PT.names t k).any fun e => decide (PT.kindAt t (PT.ix e) = 2) && PT.inB t f d (PT.ix e)) := rfl
    by_cases hdk : d = k
    · rw [hB, decide_eq_true hdk, Bool.true_or]
      subst hdk
      have e1 : ((d : Int) + 1 == (d : Int) + 1) = true := beq_self_eq_true _
      clear hB h hc
      go_enter Tryz.func82, Tryz.ntmps82
      go_wp2
      go_ret
      exact ⟨rfl, Below.refl _ _⟩
    · have e1 : ((d : Int) + 1 == (k : Int) + 1) = false := by simp <;> omega
      rw [hB, decide_eq_false hdk, Bool.false_or]
      have hnm := names_ix _ t k w h (by omega)
      have hih : ∀ e ∈ PT.names t k, ∃ n, t[PT.ix e]? = some n ∧ e.2 = (PT.ix e : Int) + 1 ∧ PT.ix e < 9 ∧ ∀ W, Below w.heap.size w W → Calls Tryz.prog 82 #[.slice (some ⟨b0, o0, none⟩) 9 c, .int .i64 ((d : Int) + 1), .int .i64 ((PT.ix e : Int) + 1)] W fun e' w' => e' = .returned (.bool (PT.inB t f d (PT.ix e))) ∧ Below W.heap.size W w' := fun e he => by
        obtain ⟨n, hn, _⟩ := g.there k e he
        refine ⟨n, hn, ?_, PT.ix_lt he, fun W hW => ?_⟩
        · have := PT.ix_int he
          omega
        · exact rwithin_any t g d hd f (k :: l) (PT.ix e) b0 o0 c W (.step hc he) (by simp; omega) (PT.ix_lt he) (h.below hW)
      have h9 := g.len
      generalize PT.names t k = m at *
      obtain ⟨P, hP⟩ : ∃ P : E → Bool, P = fun e => decide (PT.kindAt t (PT.ix e) = 2) && PT.inB t f d (PT.ix e) := ⟨_, rfl⟩
      rw [← hP]
      obtain ⟨A, hA⟩ : ∃ A, m.any P = A := ⟨_, rfl⟩
      rw [hA]
      have HA := Lib.hid hA
      have HIH := Lib.hid hih
      have HH := Lib.hid h
      have HP := Lib.hid (fun e => congrFun hP e)
      have HC := Lib.hid (fun (k : Nat) n (hn : t[k]? = some n) W (hW : Below w.heap.size w W) => (h.kindCell h9 hn W hW).1)
      have HKA := Lib.hid (fun (k : Nat) n (hn : t[k]? = some n) => PT.kindAt_at hn)
      clear hih h hA hB hP hc g h9
      go_enter Tryz.func82, Tryz.ntmps82
      go_wp2_with (go_at_call 75; refine hnm.mono ?_; rintro e w1 ⟨v1, rfl, hO1, hF1, hB1⟩)
      have hE1 := hO1.row hF1
      obtain ⟨Am, cm, rfl⟩ := hE1.form
      have hm := hE1.2.2
      generalize hM : m.length = M at *
      have HM := Lib.hid hM
      have HE := Lib.hid hE1
      clear hO1 hF1 hE1 hnm hM
      go_loopw [8] (fun i wr => ∃ j : Nat, j ≤ M ∧ i = .int .i64 (j : Int) ∧ (m.take j).any P = false ∧ Below w1.heap.size w1 wr) (fun i _ => M - (intOf i).toNat)
      case atStart => exact ⟨0, Nat.zero_le _, rfl, rfl, Below.refl _ _⟩
      case round =>
        obtain ⟨j, hj, rfl, hno, hB⟩ := hrel
        have hbw := hB1.trans (hB.mono hB1.size)
        by_cases hlt : j < M
        · obtain ⟨b1, o1, rfl, hb1, hcell⟩ := (HE.out.below hB).at (by rw [HM.out]; omega)
          obtain ⟨x, hx⟩ : ∃ x, m[j]? = some x := ⟨_, List.getElem?_eq_getElem (by rw [HM.out]; omega)⟩
          obtain ⟨g0, g1⟩ := hcell j x hx
          have hg1 := fun W (hW : Below wr.heap.size wr W) => (hW.cell (p := ⟨b1, o1 + j * 2 + 1, none⟩) hb1).trans g1
          obtain ⟨n, hn, hz, hi9, hcl⟩ := HIH.out x (List.mem_of_getElem? hx)
          have hck := HC.out _ n hn wr hbw
          have hpx := HP.out x
          rw [HKA.out _ n hn] at hpx
          have hsn := PT.any_snoc (P := P) hx hno
          have hat := PT.any_at (P := P) hx
          rw [HA.out] at hat
          have hc2 := hcl wr hbw
          rw [hz] at g1
          generalize PT.ix x = i at *
          have hw1 : IntKind.i64.wrap ((i : Int) + 1 - 1) = (i : Int) := by rw [IntKind.wrap_i64]; omega
          have hle : decide ((i : Int) + 1 ≤ 9) = true := by simp <;> omega
          obtain ⟨s, z⟩ := x
          dsimp only at g0 hz
          by_cases hk2 : n.kind = 2
          · rw [decide_eq_true hk2, Bool.true_and] at hpx
            rw [hk2] at hck
            obtain ⟨bb, hbb⟩ : ∃ bb, PT.inB t f d i = bb := ⟨_, rfl⟩
            rw [hbb] at hpx hc2
            rw [hpx] at hsn hat
            have HSN := Lib.hid hsn
            have HAT := Lib.hid hat
            clear hcell hx hg1 hn hpx hsn hat hcl hno hbb hk2 hz
            cases bb with
            | true =>
              have hAt := HAT.out rfl
              subst hAt
              go_wp2_with (go_at_call 82; refine hc2.mono ?_; rintro e w2 ⟨rfl, hB2⟩)
              go_ret
              exact ⟨rfl, hbw.trans (hB2.mono hbw.size)⟩
            | false =>
              go_wp2_with (go_at_call 82; refine hc2.mono ?_; rintro e w2 ⟨rfl, hB2⟩)
              go_roundw
              case rel => exact ⟨j + 1, by omega, by go_num, HSN.out, hB.trans (hB2.mono hB.size)⟩
              case measure => simp [intOf]; omega
          · have hk2d : (n.kind == 2) = false := by simpa using hk2
            rw [decide_eq_false hk2, Bool.false_and] at hpx
            rw [hpx] at hsn
            have HSN := Lib.hid hsn
            generalize n.kind = kk at *
            clear hcell hx hg1 hn hpx hsn hat hcl hno hk2 hz hc2
            go_wp2
            go_roundw
            case rel => exact ⟨j + 1, by omega, by go_num, HSN.out, hB⟩
            case measure => simp [intOf]; omega
        · have hAf : A = false := by
            rw [← HA.out]
            rw [List.take_of_length_le (by rw [HM.out]; omega)] at hno
            exact hno
          subst hAf
          clear hno HA
          go_wp2
          go_ret
          exact ⟨rfl, hbw⟩
/-- Whether a folder lies in what is there. -/
theorem rwithin_nine (t : List PT.N) (g : PT.Fine t) (d k : Nat) (n nk : PT.N) (hn : t[d]? = some n) (hd2 : n.kind = 2) (hk : t[k]? = some nk) (hk0 : nk.kind ≠ 0) (b0 o0 c : Nat) (w : World) (h : Ts w (.slice (some ⟨b0, o0, none⟩) 9 c) t) : Calls Tryz.prog 82 #[.slice (some ⟨b0, o0, none⟩) 9 c, .int .i64 ((d : Int) + 1), .int .i64 ((k : Int) + 1)] w fun e w' => e = .returned (.bool (PT.inB t 9 d k)) ∧ Below w.heap.size w w' := by
  obtain ⟨l, hl⟩ := g.chain_of hk hk0
  have hlen := g.depth hl
  have hd9 : d < 9 := by have := (List.getElem?_eq_some_iff.1 hn).1; rw [g.len] at this; exact this
  have hk9 : k < 9 := by have := (List.getElem?_eq_some_iff.1 hk).1; rw [g.len] at this; exact this
  have hd : PT.kindAt t d = 2 := by rw [PT.kindAt_at hn]; exact hd2
  have hsame : PT.inB t (9 - l.length) d k = PT.inB t 9 d k := by
    have h1 := g.inB_iff hd (9 - l.length) l k hl (by omega)
    have h2 := g.inB_iff hd 9 l k hl (by omega)
    cases ha : PT.inB t (9 - l.length) d k <;> cases hb : PT.inB t 9 d k
    · rfl
    · rw [h1.2 (h2.1 hb)] at ha; cases ha
    · rw [h2.2 (h1.1 ha)] at hb; cases hb
    · rfl
  rw [← hsame]
  exact rwithin_any t g d hd9 (9 - l.length) l k b0 o0 c w hl (by omega) hk9 h
end Go.Proofs.YtdnobplhfbgbaaaGreatDoor
