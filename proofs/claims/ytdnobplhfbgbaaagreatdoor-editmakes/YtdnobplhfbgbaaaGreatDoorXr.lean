/-
  Contract: drop of edit.
-/
import Derived.Test.YtdnobplhfbgbaaaGreatDoorXq
import Derived.Test.YtdnobplhfbgbaaaGreatDoorMVa
namespace Go.Proofs.YtdnobplhfbgbaaaGreatDoor
open Go.RowKit Go.Joins

namespace PT
theorem body_ents {n : N} (hk : n.kind = 2) (hs : shape n) : n.body = { data := #[] } ↔ ents n = [] := by
  obtain ⟨h, _⟩ := folder_took hk hs
  constructor
  · intro e
    rw [e, nil_took] at h
    injection h with h
    exact h.symm
  · intro e
    have := PD.put_took h
    rw [e] at this
    rw [← this]
    rfl
/-- What is found, and is not the root, has its place. -/
theorem plc_of {t : List N} (g : Fine t) {l : List ByteArray} {k : Nat} (hw : walk t 0 l = (((k + 1 : Nat) : Int), 0)) (hk : 0 < k) : ∃ (d : Nat) (n : N) (e : E), plc t l = ((d : Int) + 1, last l, 0) ∧ place t l = (((d + 1 : Nat) : Int), 0) ∧ l ≠ [] ∧ d < 9 ∧ t[d]? = some n ∧ n.kind = 2 ∧ e ∈ ents n ∧ e.1 = last l ∧ ix e = k := by
  obtain ⟨d, n, nk, e, hl, hp, hd9, hn, hk2, he, he1, hw2, _⟩ := g.walk_last (by rw [hw]) (by rw [hw]; simp only [px_succ]; omega)
  rw [hw] at hw2
  injection hw2 with hw2 _
  refine ⟨d, n, e, ?_, hp, hl, hd9, hn, hk2, he, he1, by omega⟩
  rw [plc, if_neg hl, hp]
  simp only [ne_eq, not_true, if_false]
  rw [show ((d + 1 : Nat) : Int) = (d : Int) + 1 by omega]
end PT
set_option maxRecDepth 100000 in
set_option maxHeartbeats 4000000 in
theorem edrop_no (g0 c base : Nat) (t : List PT.N) (o : Bool) (s : ByteArray) (w : World) (hml : Ml w) (hto : To 27 w base (.slice (some ⟨g0, 0, none⟩) 9 c) t) (g : PT.Fine t) (hs : s.size ≤ 65535) (er : Int) (hz : er ≠ 0) (hf : (PT.find t (PT.pp o s)).2 = er) :
    Calls Tryz.prog 85 #[.agg #[.slice (some ⟨g0, 0, none⟩) 9 c, .bool o], .string s] w fun e w' => e = .returned (.int .i64 er) ∧ To 27 w' base (.slice (some ⟨g0, 0, none⟩) 9 c) t ∧ Nw g0 w w' := by
  have hb1 := al w (.cells #[.slice (some ⟨g0, 0, none⟩) 9 c, .bool o] 97)
  have hx1 := Bx.new w 97 #[.slice (some ⟨g0, 0, none⟩) 9 c, .bool o]
  have hz1 : (w.alloc (.cells #[.slice (some ⟨g0, 0, none⟩) 9 c, .bool o] 97)).heap.size = w.heap.size + 1 := by simp
  have hml1 := hml.below hb1
  have hto1 := hto.on hb1
  have hfit := g.fit
  have h9 := g.len
  have hts1 := hto1.row hfit
  have hg0 : g0 < w.heap.size := by obtain ⟨cur, hbr, _⟩ := hto.box (by decide); exact hbr.lt
  have hfi := efind_no (some ⟨g0, 0, none⟩) c t o s er _ hml1 hts1 g hs hf hz
  simp only [fz, fv, PT.zero] at hfi
  have HFI := Lib.hid hfi
  have hqb : (er == 0) = false := by simpa using hz
  clear hz hml hto g hf hfi
  go_enter Tryz.func85, Tryz.ntmps85
  go_upto_region 1 with fail
  generalize hw1 : w.alloc (.cells #[.slice (some ⟨g0, 0, none⟩) 9 c, .bool o] 97) = w1 at *
  generalize hgx : w.heap.size = g1 at *
  have HB1 := Lib.hid hb1
  have HX1 := Lib.hid hx1
  have HT := Lib.hid hts1
  have HTO := Lib.hid hto1
  have HML := Lib.hid hml1
  have HGX := Lib.hid hgx
  have HFIT := Lib.hid hfit
  have H9 := Lib.hid h9
  have hz1' : g1 < w1.heap.size := by omega
  obtain ⟨c0, c1⟩ := hx1.work
  clear hb1 hx1 hts1 hto1 hml1 hw1 hgx hfit h9
  go_wp2_with (go_at_call 131; go_loud (refine HFI.out.mono ?_; rintro e w3 ⟨rfl, hB3⟩; have hB4 := hB3.alloc hB3.size (.cells #[.int .i64 0, .string { data := #[] }, .int .i64 0, .int .i64 0, .string { data := #[] }, .int .i64 0, .slice none 0 0] 153)))
  go_ret
  have hgx := HGX.out
  subst hgx
  have hb4 := HB1.out.trans (hB4.mono (by omega))
  exact ⟨rfl, HTO.out.on hB4, Nw.of hb4⟩
set_option maxRecDepth 100000 in
set_option maxHeartbeats 8000000 in
theorem edrop_yes (g0 c base : Nat) (t : List PT.N) (o : Bool) (s : ByteArray) (w : World) (hml : Ml w) (hto : To 27 w base (.slice (some ⟨g0, 0, none⟩) 9 c) t) (g : PT.Fine t) (hs : s.size ≤ 65535) (l : List ByteArray) (his : PN.is o s = true) (hl : PN.pt o s = l) (k : Nat) (n : PT.N) (hwk : PT.walk t 0 l = (((k + 1 : Nat) : Int), 0)) (hn : t[k]? = some n) :
    Calls Tryz.prog 85 #[.agg #[.slice (some ⟨g0, 0, none⟩) 9 c, .bool o], .string s] w fun e w' => ∃ t', e = .returned (.int .i64 (PT.drop2 t l).2) ∧ To 27 w' base (.slice (some ⟨g0, 0, none⟩) 9 c) t' ∧ ((PT.drop2 t l).2 = 0 → t' = (PT.drop2 t l).1) ∧ t'.length = 9 ∧ FitN t' ∧ Nw g0 w w' := by
  have hb1 := al w (.cells #[.slice (some ⟨g0, 0, none⟩) 9 c, .bool o] 97)
  have hx1 := Bx.new w 97 #[.slice (some ⟨g0, 0, none⟩) 9 c, .bool o]
  have hz1 : (w.alloc (.cells #[.slice (some ⟨g0, 0, none⟩) 9 c, .bool o] 97)).heap.size = w.heap.size + 1 := by simp
  have hml1 := hml.below hb1
  have hto1 := hto.on hb1
  have hfit := g.fit
  have h9 := g.len
  have hts1 := hto1.row hfit
  have hg0 : g0 < w.heap.size := by obtain ⟨cur, hbr, _⟩ := hto.box (by decide); exact hbr.lt
  have hfi := efind_yes (some ⟨g0, 0, none⟩) c t o s l k n _ hml1 hts1 g hs his hl hwk hn
  obtain ⟨⟨q1, q2, q3⟩, hq⟩ : ∃ q, PT.plc t l = q := ⟨_, rfl⟩
  rw [hq] at hfi
  simp only [fv] at hfi
  have HFI := Lib.hid hfi
  obtain ⟨⟨x, er⟩, hx⟩ : ∃ x, PT.drop2 t l = x := ⟨_, rfl⟩
  rw [hx]
  dsimp only
  have hk9 : k < 9 := by have := (List.getElem?_eq_some_iff.1 hn).1; omega
  have hfo := efolder_any n
  have hna := enames_any n
  unfold nodeV at hfo hna
  by_cases hk0 : k = 0
  · subst hk0
    have hd : PT.drop2 t l = (t, 4) := by
      unfold PT.drop2
      rw [hwk]
      simp only [PT.px_succ]
      rw [if_neg (by simp)]
      simp
    have e := hx.symm.trans hd
    injection e with e1 e2
    subst e1 e2
    clear hml hto g his hl hwk hn hq hx hd hfi hfo hna
    go_enter Tryz.func85, Tryz.ntmps85
    go_upto_region 1 with fail
    generalize hw1 : w.alloc (.cells #[.slice (some ⟨g0, 0, none⟩) 9 c, .bool o] 97) = w1 at *
    generalize hgx : w.heap.size = g1 at *
    have HB1 := Lib.hid hb1
    have HX1 := Lib.hid hx1
    have HT := Lib.hid hts1
    have HTO := Lib.hid hto1
    have HML := Lib.hid hml1
    have HGX := Lib.hid hgx
    have HFIT := Lib.hid hfit
    have H9 := Lib.hid h9
    have hz1' : g1 < w1.heap.size := by omega
    obtain ⟨c0, c1⟩ := hx1.work
    clear hb1 hx1 hts1 hto1 hml1 hw1 hgx hfit h9
    go_wp2_with (go_at_call 131; go_loud (refine HFI.out.mono ?_; rintro e w3 ⟨U, M, d, rfl, hM, hd, hs3, hU, hB3⟩; have hB4 := hB3.alloc hB3.size (.cells #[.int .i64 q1, .string q2, .int .i64 n.kind, .int .i64 n.mode, .string n.body, .int .i64 (((0 : Nat) : Int) + 1), .slice U M d] 153); have hF := Bx.new w3 153 #[.int .i64 q1, .string q2, .int .i64 n.kind, .int .i64 n.mode, .string n.body, .int .i64 (((0 : Nat) : Int) + 1), .slice U M d]; obtain ⟨⟨b0, b1, b2, b3, b4, b5, b6⟩, _⟩ := hF.found; have hz3 : (w3.alloc (.cells #[.int .i64 q1, .string q2, .int .i64 n.kind, .int .i64 n.mode, .string n.body, .int .i64 (((0 : Nat) : Int) + 1), .slice U M d] 153)).heap.size = w3.heap.size + 1 := (by simp); have HF := Lib.hid hF; have hs3z := hB3.size; clear c0 c1; obtain ⟨c0, c1⟩ := (HX1.out.on hB4).work))
    go_ret
    have hgx := HGX.out
    subst hgx
    exact ⟨_, rfl, HTO.out.on hB4, fun h => (by cases h), H9.out, HFIT.out, Nw.of (HB1.out.trans (hB4.mono (by omega)))⟩
  obtain ⟨dd, nn, en, hpl, hpp, hlne, hd9, hnn, hnn2, hen, hen1, hix⟩ := PT.plc_of g hwk (by omega)
  have e := hq.symm.trans hpl
  injection e with e1 e2
  injection e2 with e2 e3
  subst e1 e2 e3
  have hki : ((k : Int) + 1 == 1) = false := by simp; omega
  have hta := fun W (h : To 27 W base (.slice (some ⟨g0, 0, none⟩) 9 c) t) => etake_any g0 c base t o dd nn (PT.last l) W h hfit h9 hnn hnn2
  have HTA := Lib.hid hta
  have HT1 := Lib.hid (PT.take_fit (t := t) (d := dd) (s := PT.last l) hfit)
  have hli := fun W (h : Ts W (.slice (some ⟨g0, 0, none⟩) 9 c) (PT.take t dd (PT.last l))) => tlinksI_any (.slice (some ⟨g0, 0, none⟩) 9 c) _ ((k : Int) + 1) W h
  have hlk : PT.linksI (PT.take t dd (PT.last l)) ((k : Int) + 1) = PT.named (PT.take t dd (PT.last l)) k := by
    have := PT.linksI_named (PT.take t dd (PT.last l)) (k := k) (by omega)
    rw [show ((k + 1 : Nat) : Int) = (k : Int) + 1 by omega] at this
    exact this
  rw [hlk] at hli
  have hdr : PT.drop2 t l = if n.kind = 2 ∧ n.body ≠ { data := #[] } then (t, 6) else if PT.named (PT.take t dd (PT.last l)) k = 0 then ((PT.take t dd (PT.last l)).set k PT.zero, 0) else (PT.take t dd (PT.last l), 0) := by
    unfold PT.drop2
    rw [hwk, hpp]
    simp only [PT.px_succ]
    rw [if_neg (by simp), if_neg hk0, PT.kindAt_at hn]
    simp only [PT.bodyAt, hn]
  have hw1 : IntKind.i64.wrap ((k : Int) + 1 - 1) = (k : Int) := by rw [IntKind.wrap_i64]; omega
  obtain ⟨nm, hnm⟩ : ∃ nm, PT.named (PT.take t dd (PT.last l)) k = nm := ⟨_, rfl⟩
  rw [hnm] at hli hdr
  have HLI := Lib.hid hli
  by_cases hk2 : n.kind = 2
  · have htl := PT.tl_ents hk2
    rw [htl] at hna
    have HNA := Lib.hid hna
    have hbe := PT.body_ents hk2 (g.shape k n hn)
    rw [show decide (n.kind = 2) = true by simp [hk2]] at hfo
    have HFO := Lib.hid hfo
    by_cases hb : n.body = { data := #[] }
    · have hem := hbe.1 hb
      have hlen0 : (PT.ents n).length = 0 := by rw [hem]; rfl
      rw [if_neg (fun h => h.2 hb)] at hdr
      have e := hx.symm.trans hdr
      obtain ⟨L0, hL0⟩ : ∃ L0, (PT.ents n).length = L0 := ⟨_, rfl⟩
      rw [hL0] at hlen0
      subst hlen0
      simp only [Eo, hL0] at HNA
      have hgt : decide (((0 : Nat) : Int) > 0) = false := by decide
      by_cases hz : nm = 0
      · rw [if_pos hz] at e
        injection e with e1 e2
        subst e1 e2 hz
        clear hml hto g his hl hwk hn hq hx hdr hfi hfo hna htl hbe hb hem hpl hpp hlne hnn hnn2 hen hen1 hix hta hli hlk hnm hk2 hk0 hL0
        go_enter Tryz.func85, Tryz.ntmps85
        go_upto_region 1 with fail
        generalize hw1 : w.alloc (.cells #[.slice (some ⟨g0, 0, none⟩) 9 c, .bool o] 97) = w1 at *
        generalize hgx : w.heap.size = g1 at *
        have HB1 := Lib.hid hb1
        have HX1 := Lib.hid hx1
        have HT := Lib.hid hts1
        have HTO := Lib.hid hto1
        have HML := Lib.hid hml1
        have HGX := Lib.hid hgx
        have HFIT := Lib.hid hfit
        have H9 := Lib.hid h9
        have hz1' : g1 < w1.heap.size := by omega
        obtain ⟨c0, c1⟩ := hx1.work
        clear hb1 hx1 hts1 hto1 hml1 hw1 hgx hfit h9
        go_wp2_with (first | (go_at_call 18; go_loud (refine (HLI.out _ (hO6.row HT1.out.1)).mono ?_; rintro e w7 ⟨rfl, hB9⟩; have hF7 := hF6.on hB9; clear b0 b1 b2 b3 b4 b5 b6; obtain ⟨⟨b0, b1, b2, b3, b4, b5, b6⟩, _⟩ := hF7.found; clear c0 c1; obtain ⟨c0, c1⟩ := (((HX1.out.on hB8).nw hN6 (by omega)).on hB9).work; have hO7 := hO6.on hB9; obtain ⟨cur, hbr, hge, hsz, hnc⟩ := hO7.box (by decide); have e0 := (hbr.cell (k * 3)).trans (Array.getElem?_eq_getElem (by omega)); have e1 := (hbr.cell (k * 3 + 1)).trans (Array.getElem?_eq_getElem (by omega)); have e2 := (hbr.cell (k * 3 + 2)).trans (Array.getElem?_eq_getElem (by omega)); have f0 := hbr.frozen (k * 3); have f1 := hbr.frozen (k * 3 + 1); have f2 := hbr.frozen (k * 3 + 2))) | (go_at_call 129; go_loud (refine (HTA.out _ (HTO.out.on hB8)).mono ?_; rintro e w6 ⟨rfl, hO6, hN6⟩; have hF6 := hF5.nw hN6 (by omega); clear b0 b1 b2 b3 b4 b5 b6; obtain ⟨⟨b0, b1, b2, b3, b4, b5, b6⟩, _⟩ := hF6.found; clear c0 c1; obtain ⟨c0, c1⟩ := ((HX1.out.on hB8).nw hN6 (by omega)).work)) | (go_at_call 132; go_loud (refine (HNA.out _).mono ?_; rintro e w5 ⟨v5, rfl, hO5, hF5, hB7⟩; obtain ⟨A5, c5, rfl⟩ := own_form hO5; have hB8 := hB6.trans (hB7.mono hB6.size); have hF5 := hF4.on hB7; clear b0 b1 b2 b3 b4 b5 b6; obtain ⟨⟨b0, b1, b2, b3, b4, b5, b6⟩, _⟩ := hF5.found; clear c0 c1; obtain ⟨c0, c1⟩ := (HX1.out.on hB8).work)) | (go_at_call 125; go_loud (refine (HFO.out _).mono ?_; rintro e w4 ⟨rfl, hB5⟩; have hF4 := HF.out.on hB5; clear b0 b1 b2 b3 b4 b5 b6; obtain ⟨⟨b0, b1, b2, b3, b4, b5, b6⟩, _⟩ := hF4.found; have hB6 := hB4.trans (hB5.mono hB4.size); clear c0 c1; obtain ⟨c0, c1⟩ := (HX1.out.on hB6).work)) | (go_at_call 131; go_loud (refine HFI.out.mono ?_; rintro e w3 ⟨U, M, d, rfl, hM, hd, hs3, hU, hB3⟩; have hB4 := hB3.alloc hB3.size (.cells #[.int .i64 ((dd : Int) + 1), .string (PT.last l), .int .i64 n.kind, .int .i64 n.mode, .string n.body, .int .i64 ((k : Int) + 1), .slice U M d] 153); have hF := Bx.new w3 153 #[.int .i64 ((dd : Int) + 1), .string (PT.last l), .int .i64 n.kind, .int .i64 n.mode, .string n.body, .int .i64 ((k : Int) + 1), .slice U M d]; obtain ⟨⟨b0, b1, b2, b3, b4, b5, b6⟩, _⟩ := hF.found; have hz3 : (w3.alloc (.cells #[.int .i64 ((dd : Int) + 1), .string (PT.last l), .int .i64 n.kind, .int .i64 n.mode, .string n.body, .int .i64 ((k : Int) + 1), .slice U M d] 153)).heap.size = w3.heap.size + 1 := (by simp); have HF := Lib.hid hF; have hs3z := hB3.size; clear c0 c1; obtain ⟨c0, c1⟩ := (HX1.out.on hB4).work)))
        go_ret
        have hgx := HGX.out
        subst hgx
        have hbA := HB1.out.trans (hB8.mono (by omega))
        have hO9 := hO7.set (k := k) (HT1.out.2.trans H9.out) hk9 PT.zero
        refine ⟨_, rfl, hO9, fun _ => rfl, by rw [List.length_set]; exact HT1.out.2.trans H9.out, PT.fitN_set HT1.out.1 ⟨(by unfold I64; decide), (by unfold I64; decide), (by decide)⟩, ?_⟩
        exact (((((Nw.of hbA).trans hN6).trans (Nw.of hB9)).trans Nw.cell).trans Nw.cell).trans Nw.cell
      · rw [if_neg hz] at e
        injection e with e1 e2
        subst e1 e2
        have hzb : ((nm : Int) == 0) = false := by simp; omega
        clear hml hto g his hl hwk hn hq hx hdr hfi hfo hna htl hbe hb hem hpl hpp hlne hnn hnn2 hen hen1 hix hta hli hlk hnm hk2 hk0 hL0 hz
        go_enter Tryz.func85, Tryz.ntmps85
        go_upto_region 1 with fail
        generalize hw1 : w.alloc (.cells #[.slice (some ⟨g0, 0, none⟩) 9 c, .bool o] 97) = w1 at *
        generalize hgx : w.heap.size = g1 at *
        have HB1 := Lib.hid hb1
        have HX1 := Lib.hid hx1
        have HT := Lib.hid hts1
        have HTO := Lib.hid hto1
        have HML := Lib.hid hml1
        have HGX := Lib.hid hgx
        have HFIT := Lib.hid hfit
        have H9 := Lib.hid h9
        have hz1' : g1 < w1.heap.size := by omega
        obtain ⟨c0, c1⟩ := hx1.work
        clear hb1 hx1 hts1 hto1 hml1 hw1 hgx hfit h9
        go_wp2_with (first | (go_at_call 18; go_loud (refine (HLI.out _ (hO6.row HT1.out.1)).mono ?_; rintro e w7 ⟨rfl, hB9⟩; have hF7 := hF6.on hB9; clear b0 b1 b2 b3 b4 b5 b6; obtain ⟨⟨b0, b1, b2, b3, b4, b5, b6⟩, _⟩ := hF7.found; clear c0 c1; obtain ⟨c0, c1⟩ := (((HX1.out.on hB8).nw hN6 (by omega)).on hB9).work; have hO7 := hO6.on hB9; obtain ⟨cur, hbr, hge, hsz, hnc⟩ := hO7.box (by decide); have e0 := (hbr.cell (k * 3)).trans (Array.getElem?_eq_getElem (by omega)); have e1 := (hbr.cell (k * 3 + 1)).trans (Array.getElem?_eq_getElem (by omega)); have e2 := (hbr.cell (k * 3 + 2)).trans (Array.getElem?_eq_getElem (by omega)); have f0 := hbr.frozen (k * 3); have f1 := hbr.frozen (k * 3 + 1); have f2 := hbr.frozen (k * 3 + 2))) | (go_at_call 129; go_loud (refine (HTA.out _ (HTO.out.on hB8)).mono ?_; rintro e w6 ⟨rfl, hO6, hN6⟩; have hF6 := hF5.nw hN6 (by omega); clear b0 b1 b2 b3 b4 b5 b6; obtain ⟨⟨b0, b1, b2, b3, b4, b5, b6⟩, _⟩ := hF6.found; clear c0 c1; obtain ⟨c0, c1⟩ := ((HX1.out.on hB8).nw hN6 (by omega)).work)) | (go_at_call 132; go_loud (refine (HNA.out _).mono ?_; rintro e w5 ⟨v5, rfl, hO5, hF5, hB7⟩; obtain ⟨A5, c5, rfl⟩ := own_form hO5; have hB8 := hB6.trans (hB7.mono hB6.size); have hF5 := hF4.on hB7; clear b0 b1 b2 b3 b4 b5 b6; obtain ⟨⟨b0, b1, b2, b3, b4, b5, b6⟩, _⟩ := hF5.found; clear c0 c1; obtain ⟨c0, c1⟩ := (HX1.out.on hB8).work)) | (go_at_call 125; go_loud (refine (HFO.out _).mono ?_; rintro e w4 ⟨rfl, hB5⟩; have hF4 := HF.out.on hB5; clear b0 b1 b2 b3 b4 b5 b6; obtain ⟨⟨b0, b1, b2, b3, b4, b5, b6⟩, _⟩ := hF4.found; have hB6 := hB4.trans (hB5.mono hB4.size); clear c0 c1; obtain ⟨c0, c1⟩ := (HX1.out.on hB6).work)) | (go_at_call 131; go_loud (refine HFI.out.mono ?_; rintro e w3 ⟨U, M, d, rfl, hM, hd, hs3, hU, hB3⟩; have hB4 := hB3.alloc hB3.size (.cells #[.int .i64 ((dd : Int) + 1), .string (PT.last l), .int .i64 n.kind, .int .i64 n.mode, .string n.body, .int .i64 ((k : Int) + 1), .slice U M d] 153); have hF := Bx.new w3 153 #[.int .i64 ((dd : Int) + 1), .string (PT.last l), .int .i64 n.kind, .int .i64 n.mode, .string n.body, .int .i64 ((k : Int) + 1), .slice U M d]; obtain ⟨⟨b0, b1, b2, b3, b4, b5, b6⟩, _⟩ := hF.found; have hz3 : (w3.alloc (.cells #[.int .i64 ((dd : Int) + 1), .string (PT.last l), .int .i64 n.kind, .int .i64 n.mode, .string n.body, .int .i64 ((k : Int) + 1), .slice U M d] 153)).heap.size = w3.heap.size + 1 := (by simp); have HF := Lib.hid hF; have hs3z := hB3.size; clear c0 c1; obtain ⟨c0, c1⟩ := (HX1.out.on hB4).work)))
        go_ret
        have hgx := HGX.out
        subst hgx
        have hbA := HB1.out.trans (hB8.mono (by omega))
        exact ⟨_, rfl, hO7, fun _ => rfl, HT1.out.2.trans H9.out, HT1.out.1, ((Nw.of hbA).trans hN6).trans (Nw.of hB9)⟩
    · have hem : ¬ PT.ents n = [] := fun e => hb (hbe.2 e)
      rw [if_pos ⟨hk2, hb⟩] at hdr
      have e := hx.symm.trans hdr
      injection e with e1 e2
      subst e1 e2
      obtain ⟨L0, hL0⟩ : ∃ L0, (PT.ents n).length = L0 + 1 := ⟨(PT.ents n).length - 1, by
        have : (PT.ents n).length ≠ 0 := fun e => hem (List.eq_nil_of_length_eq_zero e)
        omega⟩
      simp only [Eo, hL0] at HNA
      have hgt : decide (((L0 + 1 : Nat) : Int) > 0) = true := by first | (simp; done) | (simp; omega)
      clear hml hto g his hl hwk hn hq hx hdr hfi hfo hna htl hbe hb hem hpl hpp hlne hnn hnn2 hen hen1 hix hta hli hlk hnm hk2 hk0 hL0
      go_enter Tryz.func85, Tryz.ntmps85
      go_upto_region 1 with fail
      generalize hw1 : w.alloc (.cells #[.slice (some ⟨g0, 0, none⟩) 9 c, .bool o] 97) = w1 at *
      generalize hgx : w.heap.size = g1 at *
      have HB1 := Lib.hid hb1
      have HX1 := Lib.hid hx1
      have HT := Lib.hid hts1
      have HTO := Lib.hid hto1
      have HML := Lib.hid hml1
      have HGX := Lib.hid hgx
      have HFIT := Lib.hid hfit
      have H9 := Lib.hid h9
      have hz1' : g1 < w1.heap.size := by omega
      obtain ⟨c0, c1⟩ := hx1.work
      clear hb1 hx1 hts1 hto1 hml1 hw1 hgx hfit h9
      go_wp2_with (first | (go_at_call 132; go_loud (refine (HNA.out _).mono ?_; rintro e w5 ⟨v5, rfl, hO5, hF5, hB7⟩; obtain ⟨A5, c5, rfl⟩ := own_form hO5; have hB8 := hB6.trans (hB7.mono hB6.size); have hF5 := hF4.on hB7; clear b0 b1 b2 b3 b4 b5 b6; obtain ⟨⟨b0, b1, b2, b3, b4, b5, b6⟩, _⟩ := hF5.found; clear c0 c1; obtain ⟨c0, c1⟩ := (HX1.out.on hB8).work)) | (go_at_call 125; go_loud (refine (HFO.out _).mono ?_; rintro e w4 ⟨rfl, hB5⟩; have hF4 := HF.out.on hB5; clear b0 b1 b2 b3 b4 b5 b6; obtain ⟨⟨b0, b1, b2, b3, b4, b5, b6⟩, _⟩ := hF4.found; have hB6 := hB4.trans (hB5.mono hB4.size); clear c0 c1; obtain ⟨c0, c1⟩ := (HX1.out.on hB6).work)) | (go_at_call 131; go_loud (refine HFI.out.mono ?_; rintro e w3 ⟨U, M, d, rfl, hM, hd, hs3, hU, hB3⟩; have hB4 := hB3.alloc hB3.size (.cells #[.int .i64 ((dd : Int) + 1), .string (PT.last l), .int .i64 n.kind, .int .i64 n.mode, .string n.body, .int .i64 ((k : Int) + 1), .slice U M d] 153); have hF := Bx.new w3 153 #[.int .i64 ((dd : Int) + 1), .string (PT.last l), .int .i64 n.kind, .int .i64 n.mode, .string n.body, .int .i64 ((k : Int) + 1), .slice U M d]; obtain ⟨⟨b0, b1, b2, b3, b4, b5, b6⟩, _⟩ := hF.found; have hz3 : (w3.alloc (.cells #[.int .i64 ((dd : Int) + 1), .string (PT.last l), .int .i64 n.kind, .int .i64 n.mode, .string n.body, .int .i64 ((k : Int) + 1), .slice U M d] 153)).heap.size = w3.heap.size + 1 := (by simp); have HF := Lib.hid hF; have hs3z := hB3.size; clear c0 c1; obtain ⟨c0, c1⟩ := (HX1.out.on hB4).work)))
      go_ret
      have hgx := HGX.out
      subst hgx
      exact ⟨_, rfl, HTO.out.on hB8, fun h => (by cases h), H9.out, HFIT.out, Nw.of (HB1.out.trans (hB8.mono (by omega)))⟩
  · rw [show decide (n.kind = 2) = false by simp [hk2]] at hfo
    have HFO := Lib.hid hfo
    rw [if_neg (fun h => hk2 h.1)] at hdr
    have e := hx.symm.trans hdr
    by_cases hz : nm = 0
    · rw [if_pos hz] at e
      injection e with e1 e2
      subst e1 e2 hz
      clear hml hto g his hl hwk hn hq hx hdr hfi hfo hna hpl hpp hlne hnn hnn2 hen hen1 hix hta hli hlk hnm hk2 hk0
      go_enter Tryz.func85, Tryz.ntmps85
      go_upto_region 1 with fail
      generalize hw1 : w.alloc (.cells #[.slice (some ⟨g0, 0, none⟩) 9 c, .bool o] 97) = w1 at *
      generalize hgx : w.heap.size = g1 at *
      have HB1 := Lib.hid hb1
      have HX1 := Lib.hid hx1
      have HT := Lib.hid hts1
      have HTO := Lib.hid hto1
      have HML := Lib.hid hml1
      have HGX := Lib.hid hgx
      have HFIT := Lib.hid hfit
      have H9 := Lib.hid h9
      have hz1' : g1 < w1.heap.size := by omega
      obtain ⟨c0, c1⟩ := hx1.work
      clear hb1 hx1 hts1 hto1 hml1 hw1 hgx hfit h9
      go_wp2_with (first | (go_at_call 18; go_loud (refine (HLI.out _ (hO6.row HT1.out.1)).mono ?_; rintro e w7 ⟨rfl, hB9⟩; have hF7 := hF6.on hB9; clear b0 b1 b2 b3 b4 b5 b6; obtain ⟨⟨b0, b1, b2, b3, b4, b5, b6⟩, _⟩ := hF7.found; clear c0 c1; obtain ⟨c0, c1⟩ := (((HX1.out.on hB6).nw hN6 (by omega)).on hB9).work; have hO7 := hO6.on hB9; obtain ⟨cur, hbr, hge, hsz, hnc⟩ := hO7.box (by decide); have e0 := (hbr.cell (k * 3)).trans (Array.getElem?_eq_getElem (by omega)); have e1 := (hbr.cell (k * 3 + 1)).trans (Array.getElem?_eq_getElem (by omega)); have e2 := (hbr.cell (k * 3 + 2)).trans (Array.getElem?_eq_getElem (by omega)); have f0 := hbr.frozen (k * 3); have f1 := hbr.frozen (k * 3 + 1); have f2 := hbr.frozen (k * 3 + 2))) | (go_at_call 129; go_loud (refine (HTA.out _ (HTO.out.on hB6)).mono ?_; rintro e w6 ⟨rfl, hO6, hN6⟩; have hF6 := hF4.nw hN6 (by omega); clear b0 b1 b2 b3 b4 b5 b6; obtain ⟨⟨b0, b1, b2, b3, b4, b5, b6⟩, _⟩ := hF6.found; clear c0 c1; obtain ⟨c0, c1⟩ := ((HX1.out.on hB6).nw hN6 (by omega)).work)) | (go_at_call 125; go_loud (refine (HFO.out _).mono ?_; rintro e w4 ⟨rfl, hB5⟩; have hF4 := HF.out.on hB5; clear b0 b1 b2 b3 b4 b5 b6; obtain ⟨⟨b0, b1, b2, b3, b4, b5, b6⟩, _⟩ := hF4.found; have hB6 := hB4.trans (hB5.mono hB4.size); clear c0 c1; obtain ⟨c0, c1⟩ := (HX1.out.on hB6).work)) | (go_at_call 131; go_loud (refine HFI.out.mono ?_; rintro e w3 ⟨U, M, d, rfl, hM, hd, hs3, hU, hB3⟩; have hB4 := hB3.alloc hB3.size (.cells #[.int .i64 ((dd : Int) + 1), .string (PT.last l), .int .i64 n.kind, .int .i64 n.mode, .string n.body, .int .i64 ((k : Int) + 1), .slice U M d] 153); have hF := Bx.new w3 153 #[.int .i64 ((dd : Int) + 1), .string (PT.last l), .int .i64 n.kind, .int .i64 n.mode, .string n.body, .int .i64 ((k : Int) + 1), .slice U M d]; obtain ⟨⟨b0, b1, b2, b3, b4, b5, b6⟩, _⟩ := hF.found; have hz3 : (w3.alloc (.cells #[.int .i64 ((dd : Int) + 1), .string (PT.last l), .int .i64 n.kind, .int .i64 n.mode, .string n.body, .int .i64 ((k : Int) + 1), .slice U M d] 153)).heap.size = w3.heap.size + 1 := (by simp); have HF := Lib.hid hF; have hs3z := hB3.size; clear c0 c1; obtain ⟨c0, c1⟩ := (HX1.out.on hB4).work)))
      go_ret
      have hgx := HGX.out
      subst hgx
      have hbA := HB1.out.trans (hB6.mono (by omega))
      have hO9 := hO7.set (k := k) (HT1.out.2.trans H9.out) hk9 PT.zero
      refine ⟨_, rfl, hO9, fun _ => rfl, by rw [List.length_set]; exact HT1.out.2.trans H9.out, PT.fitN_set HT1.out.1 ⟨(by unfold I64; decide), (by unfold I64; decide), (by decide)⟩, ?_⟩
      exact (((((Nw.of hbA).trans hN6).trans (Nw.of hB9)).trans Nw.cell).trans Nw.cell).trans Nw.cell
    · rw [if_neg hz] at e
      injection e with e1 e2
      subst e1 e2
      have hzb : ((nm : Int) == 0) = false := by simp; omega
      clear hml hto g his hl hwk hn hq hx hdr hfi hfo hna hpl hpp hlne hnn hnn2 hen hen1 hix hta hli hlk hnm hk2 hk0 hz
      go_enter Tryz.func85, Tryz.ntmps85
      go_upto_region 1 with fail
      generalize hw1 : w.alloc (.cells #[.slice (some ⟨g0, 0, none⟩) 9 c, .bool o] 97) = w1 at *
      generalize hgx : w.heap.size = g1 at *
      have HB1 := Lib.hid hb1
      have HX1 := Lib.hid hx1
      have HT := Lib.hid hts1
      have HTO := Lib.hid hto1
      have HML := Lib.hid hml1
      have HGX := Lib.hid hgx
      have HFIT := Lib.hid hfit
      have H9 := Lib.hid h9
      have hz1' : g1 < w1.heap.size := by omega
      obtain ⟨c0, c1⟩ := hx1.work
      clear hb1 hx1 hts1 hto1 hml1 hw1 hgx hfit h9
      go_wp2_with (first | (go_at_call 18; go_loud (refine (HLI.out _ (hO6.row HT1.out.1)).mono ?_; rintro e w7 ⟨rfl, hB9⟩; have hF7 := hF6.on hB9; clear b0 b1 b2 b3 b4 b5 b6; obtain ⟨⟨b0, b1, b2, b3, b4, b5, b6⟩, _⟩ := hF7.found; clear c0 c1; obtain ⟨c0, c1⟩ := (((HX1.out.on hB6).nw hN6 (by omega)).on hB9).work; have hO7 := hO6.on hB9; obtain ⟨cur, hbr, hge, hsz, hnc⟩ := hO7.box (by decide); have e0 := (hbr.cell (k * 3)).trans (Array.getElem?_eq_getElem (by omega)); have e1 := (hbr.cell (k * 3 + 1)).trans (Array.getElem?_eq_getElem (by omega)); have e2 := (hbr.cell (k * 3 + 2)).trans (Array.getElem?_eq_getElem (by omega)); have f0 := hbr.frozen (k * 3); have f1 := hbr.frozen (k * 3 + 1); have f2 := hbr.frozen (k * 3 + 2))) | (go_at_call 129; go_loud (refine (HTA.out _ (HTO.out.on hB6)).mono ?_; rintro e w6 ⟨rfl, hO6, hN6⟩; have hF6 := hF4.nw hN6 (by omega); clear b0 b1 b2 b3 b4 b5 b6; obtain ⟨⟨b0, b1, b2, b3, b4, b5, b6⟩, _⟩ := hF6.found; clear c0 c1; obtain ⟨c0, c1⟩ := ((HX1.out.on hB6).nw hN6 (by omega)).work)) | (go_at_call 125; go_loud (refine (HFO.out _).mono ?_; rintro e w4 ⟨rfl, hB5⟩; have hF4 := HF.out.on hB5; clear b0 b1 b2 b3 b4 b5 b6; obtain ⟨⟨b0, b1, b2, b3, b4, b5, b6⟩, _⟩ := hF4.found; have hB6 := hB4.trans (hB5.mono hB4.size); clear c0 c1; obtain ⟨c0, c1⟩ := (HX1.out.on hB6).work)) | (go_at_call 131; go_loud (refine HFI.out.mono ?_; rintro e w3 ⟨U, M, d, rfl, hM, hd, hs3, hU, hB3⟩; have hB4 := hB3.alloc hB3.size (.cells #[.int .i64 ((dd : Int) + 1), .string (PT.last l), .int .i64 n.kind, .int .i64 n.mode, .string n.body, .int .i64 ((k : Int) + 1), .slice U M d] 153); have hF := Bx.new w3 153 #[.int .i64 ((dd : Int) + 1), .string (PT.last l), .int .i64 n.kind, .int .i64 n.mode, .string n.body, .int .i64 ((k : Int) + 1), .slice U M d]; obtain ⟨⟨b0, b1, b2, b3, b4, b5, b6⟩, _⟩ := hF.found; have hz3 : (w3.alloc (.cells #[.int .i64 ((dd : Int) + 1), .string (PT.last l), .int .i64 n.kind, .int .i64 n.mode, .string n.body, .int .i64 ((k : Int) + 1), .slice U M d] 153)).heap.size = w3.heap.size + 1 := (by simp); have HF := Lib.hid hF; have hs3z := hB3.size; clear c0 c1; obtain ⟨c0, c1⟩ := (HX1.out.on hB4).work)))
      go_ret
      have hgx := HGX.out
      subst hgx
      have hbA := HB1.out.trans (hB6.mono (by omega))
      exact ⟨_, rfl, hO7, fun _ => rfl, HT1.out.2.trans H9.out, HT1.out.1, ((Nw.of hbA).trans hN6).trans (Nw.of hB9)⟩
theorem edrop_any (g0 c base : Nat) (t : List PT.N) (o : Bool) (s : ByteArray) (w : World) (hml : Ml w) (hto : To 27 w base (.slice (some ⟨g0, 0, none⟩) 9 c) t) (g : PT.Fine t) (hs : s.size ≤ 65535) : Calls Tryz.prog 85 #[.agg #[.slice (some ⟨g0, 0, none⟩) 9 c, .bool o], .string s] w fun e w' => ∃ t', e = .returned (.int .i64 (PT.drop t (PT.pp o s)).2) ∧ To 27 w' base (.slice (some ⟨g0, 0, none⟩) 9 c) t' ∧ ((PT.drop t (PT.pp o s)).2 = 0 → t' = (PT.drop t (PT.pp o s)).1) ∧ t'.length = 9 ∧ FitN t' ∧ Nw g0 w w' := by
  by_cases hf : (PT.find t (PT.pp o s)).2 = 0
  · cases his : PN.is o s with
    | false => rw [PT.pp_no his] at hf; cases hf
    | true =>
      rw [PT.pp_yes his] at hf
      obtain ⟨k, n, hwk, _, hn, _, _⟩ := g.walk_yes (show (PT.walk t 0 (PN.pt o s)).2 = 0 from hf)
      rw [PT.pp_yes his]
      exact edrop_yes g0 c base t o s w hml hto g hs _ his rfl k n hwk hn
  · have hd : PT.drop t (PT.pp o s) = (t, (PT.find t (PT.pp o s)).2) := by
      cases hp : PT.pp o s with
      | none => rfl
      | some f =>
        rw [hp] at hf
        show PT.drop2 t f = _
        unfold PT.drop2
        rw [if_pos (show (PT.walk t 0 f).2 ≠ 0 from hf)]
        rfl
    rw [hd]
    refine (edrop_no g0 c base t o s w hml hto g hs _ hf rfl).mono ?_
    rintro e w' ⟨rfl, h1, h2⟩
    exact ⟨t, rfl, h1, fun h => absurd h hf, g.len, g.fit, h2⟩
end Go.Proofs.YtdnobplhfbgbaaaGreatDoor
