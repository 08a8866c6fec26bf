/-
  Contract: link of edit.
-/
import Derived.Test.YtdnobplhfbgbaaaGreatDoorMXm
import Derived.Test.YtdnobplhfbgbaaaGreatDoorUg
namespace Go.Proofs.YtdnobplhfbgbaaaGreatDoor
open Go.RowKit Go.Joins

namespace PT
theorem link_no2 (t : List N) (p : Option (List ByteArray)) : link t p none = (t, 1) := by cases p <;> rfl
/-- Link, by the place where no name stands yet. -/
theorem link2_fre {t : List N} {f l : List ByteArray} {k : Nat} (hw : walk t 0 f = (((k + 1 : Nat) : Int), 0)) (hk : kindAt t k ≠ 2) : link2 t f l = if (fre t l).2.2 ≠ 0 then (t, (fre t l).2.2) else link3 t (put t (px (fre t l).1) ((fre t l).2.1, ((k + 1 : Nat) : Int))) := by
  unfold link2 fre plc
  rw [hw]
  simp only [px_succ]
  rw [if_neg (by simp), if_neg hk]
  by_cases h1 : l = []
  · rw [if_pos h1, if_pos h1]; simp
  · rw [if_neg h1, if_neg h1]
    by_cases h2 : (place t l).2 ≠ 0
    · rw [if_pos h2, if_pos h2]; simp [h2]
    · rw [if_neg h2, if_neg h2]
      by_cases h3 : PD.has (names t (px (place t l).1)) (last l) = true
      · simp [h3]
      · simp [h3]
theorem fre_yes {t : List N} (g : Fine t) {l : List ByteArray} {r1 : Int} {r2 : ByteArray} (h : fre t l = (r1, r2, 0)) : ∃ (d : Nat) (n : N), r1 = (d : Int) + 1 ∧ d < 9 ∧ t[d]? = some n ∧ n.kind = 2 ∧ PD.has (ents n) r2 = false ∧ r2 = last l ∧ l ≠ [] := by
  unfold fre at h
  by_cases h1 : (plc t l).2.2 ≠ 0
  · rw [if_pos h1] at h
    injection h with _ h
    injection h with _ h
    exact absurd h h1
  rw [if_neg h1] at h
  by_cases h2 : PD.has (names t (px (plc t l).1)) (plc t l).2.1 = true
  · rw [if_pos h2] at h; cases h
  rw [if_neg h2] at h
  obtain ⟨k, n, hq, hk9, hn, hk2⟩ := plc_at g h
  rw [h] at h2
  simp only at h2
  rw [hq, show px ((k : Int) + 1) = k by unfold px; omega, names_at hn] at h2
  unfold plc at h
  by_cases h3 : l = []
  · rw [if_pos h3] at h; cases h
  rw [if_neg h3] at h
  by_cases h4 : (place t l).2 ≠ 0
  · rw [if_pos h4] at h
    injection h with _ h
    injection h with _ h
    exact absurd h h4
  rw [if_neg h4] at h
  injection h with _ h
  injection h with h5 _
  exact ⟨k, n, hq, hk9, hn, hk2, by simpa using h2, h5.symm, h3⟩
theorem link3_len {t : List N} {p : Option (List N)} (hp : ∀ x, p = some x → FitN x ∧ x.length = t.length) (hf : FitN t) : FitN (link3 t p).1 ∧ (link3 t p).1.length = t.length := by
  cases p with
  | none => exact ⟨hf, rfl⟩
  | some x => exact hp x rfl
theorem last_small {o : Bool} {l : List ByteArray} (hl : l ≠ []) (h : ∀ x ∈ l, PN.ok o x.data.toList = true) : (last l).size ≤ 6 := by
  have := PN.own_pos (PN.ok_own (h _ (last_mem hl)))
  show (last l).data.size ≤ 6
  rw [← Array.length_toList]
  exact this.2
end PT
set_option maxRecDepth 100000 in
set_option maxHeartbeats 4000000 in
theorem elink_bad (g0 c base : Nat) (t : List PT.N) (o : Bool) (s1 s2 : ByteArray) (w : World) (hml : Ml w) (hto : To 27 w base (.slice (some ⟨g0, 0, none⟩) 9 c) t) (g : PT.Fine t) (_ : s1.size ≤ 65535) (_ : s2.size ≤ 65535) (er : Int) (hz : er ≠ 0) (hb : ∀ W, Ml W → Ts W (.slice (some ⟨g0, 0, none⟩) 9 c) t → Calls Tryz.prog 124 #[.agg #[.slice (some ⟨g0, 0, none⟩) 9 c, .bool o], .string s1, .string s2] W fun e w' => ∃ L, e = .returned (.tuple #[fz, L, .int .i64 er]) ∧ Below W.heap.size W w') :
    Calls Tryz.prog 79 #[.agg #[.slice (some ⟨g0, 0, none⟩) 9 c, .bool o], .string s1, .string s2] w fun e w' => e = .returned (.int .i64 er) ∧ To 27 w' base (.slice (some ⟨g0, 0, none⟩) 9 c) t ∧ Nw g0 w w' := by
  have hb1 := al w (.cells #[.slice (some ⟨g0, 0, none⟩) 9 c, .bool o] 97)
  have hx1 := Bx.new w 97 #[.slice (some ⟨g0, 0, none⟩) 9 c, .bool o]
  have hz1 : (w.alloc (.cells #[.slice (some ⟨g0, 0, none⟩) 9 c, .bool o] 97)).heap.size = w.heap.size + 1 := by simp
  have hml1 := hml.below hb1
  have hto1 := hto.on hb1
  have hfit := g.fit
  have h9 := g.len
  have hts1 := hto1.row hfit
  simp only [fz, fv, PT.zero] at hb
  have HBO := Lib.hid (hb _ hml1 hts1)
  have hqb : (er == 0) = false := by simpa using hz
  clear hz1 hb hz hml hto
  go_enter Tryz.func79, Tryz.ntmps79
  go_upto_region 1 with fail
  generalize hw1 : w.alloc (.cells #[.slice (some ⟨g0, 0, none⟩) 9 c, .bool o] 97) = w1 at *
  generalize hgx : w.heap.size = g1 at *
  have HB1 := Lib.hid hb1
  have HX1 := Lib.hid hx1
  have HT := Lib.hid hts1
  have HTO := Lib.hid hto1
  have HML := Lib.hid hml1
  have HGX := Lib.hid hgx
  have HFIT := Lib.hid hfit
  have H9 := Lib.hid h9
  obtain ⟨c0, c1⟩ := hx1.work
  clear hb1 hx1 hts1 hto1 hml1 hw1 hgx hfit h9
  go_wp2_with (go_at_call 124; go_loud (refine HBO.out.mono ?_; rintro e w3 ⟨L, rfl, hB3⟩; have hB4 := hB3.alloc hB3.size (.cells #[.int .i64 0, .string { data := #[] }, .int .i64 0, .int .i64 0, .string { data := #[] }, .int .i64 0, .slice none 0 0] 153)))
  go_ret
  have hgx := HGX.out
  subst hgx
  have hb4 := HB1.out.trans (hB4.mono HB1.out.size)
  exact ⟨rfl, HTO.out.on hB4, Nw.of hb4⟩
set_option maxRecDepth 100000 in
set_option maxHeartbeats 8000000 in
theorem elink_yes (g0 c base : Nat) (t : List PT.N) (o : Bool) (s1 s2 : ByteArray) (w : World) (hml : Ml w) (hto : To 27 w base (.slice (some ⟨g0, 0, none⟩) 9 c) t) (g : PT.Fine t) (hs1 : s1.size ≤ 65535) (hs2 : s2.size ≤ 65535) (l1 l2 : List ByteArray) (his1 : PN.is o s1 = true) (hl1 : PN.pt o s1 = l1) (his2 : PN.is o s2 = true) (hl2 : PN.pt o s2 = l2) (k : Nat) (n : PT.N) (hwk : PT.walk t 0 l1 = (((k + 1 : Nat) : Int), 0)) (hn : t[k]? = some n) :
    Calls Tryz.prog 79 #[.agg #[.slice (some ⟨g0, 0, none⟩) 9 c, .bool o], .string s1, .string s2] w fun e w' => ∃ t', e = .returned (.int .i64 (PT.link2 t l1 l2).2) ∧ To 27 w' base (.slice (some ⟨g0, 0, none⟩) 9 c) t' ∧ ((PT.link2 t l1 l2).2 = 0 → t' = (PT.link2 t l1 l2).1) ∧ t'.length = 9 ∧ FitN t' ∧ Nw g0 w w' := by
  have hb1 := al w (.cells #[.slice (some ⟨g0, 0, none⟩) 9 c, .bool o] 97)
  have hx1 := Bx.new w 97 #[.slice (some ⟨g0, 0, none⟩) 9 c, .bool o]
  have hz1 : (w.alloc (.cells #[.slice (some ⟨g0, 0, none⟩) 9 c, .bool o] 97)).heap.size = w.heap.size + 1 := by simp
  have hml1 := hml.below hb1
  have hto1 := hto.on hb1
  have hfit := g.fit
  have h9 := g.len
  have hts1 := hto1.row hfit
  have hbo := eboth_yes (some ⟨g0, 0, none⟩) c t o s1 s2 _ hml1 hts1 g hs1 hs2 l1 l2 his1 hl1 his2 hl2 k n hwk hn
  obtain ⟨_, h82, hok2⟩ := PN.is_some his2
  rw [hl2] at h82 hok2
  obtain ⟨⟨q1, q2, q3⟩, hq⟩ : ∃ q, PT.plc t l1 = q := ⟨_, rfl⟩
  rw [hq] at hbo
  simp only [fv] at hbo
  have HBO := Lib.hid hbo
  obtain ⟨⟨x, er⟩, hx⟩ : ∃ x, PT.link2 t l1 l2 = x := ⟨_, rfl⟩
  rw [hx]
  dsimp only
  have hk9 : k < 9 := by have := (List.getElem?_eq_some_iff.1 hn).1; omega
  have hfo := efolder_any n
  unfold nodeV at hfo
  by_cases hk2 : n.kind = 2
  · have hlk : PT.link2 t l1 l2 = (t, 4) := by
      unfold PT.link2
      rw [hwk]
      simp only [PT.px_succ]
      rw [if_neg (by simp), if_pos (by rw [PT.kindAt_at hn]; exact hk2)]
    have e := hx.symm.trans hlk
    injection e with e1 e2
    subst e1 e2
    rw [show decide (n.kind = 2) = true by simp [hk2]] at hfo
    have HFO := Lib.hid hfo
    clear hz1 hml hto hbo hq hwk hn hx hlk hfo his1 hl1 his2 hl2 h82 hok2 g hk2
    go_enter Tryz.func79, Tryz.ntmps79
    go_upto_region 1 with fail
    generalize hw1 : w.alloc (.cells #[.slice (some ⟨g0, 0, none⟩) 9 c, .bool o] 97) = w1 at *
    generalize hgx : w.heap.size = g1 at *
    have HB1 := Lib.hid hb1
    have HX1 := Lib.hid hx1
    have HT := Lib.hid hts1
    have HTO := Lib.hid hto1
    have HML := Lib.hid hml1
    have HGX := Lib.hid hgx
    have HFIT := Lib.hid hfit
    have H9 := Lib.hid h9
    obtain ⟨c0, c1⟩ := hx1.work
    clear hb1 hx1 hts1 hto1 hml1 hw1 hgx hfit h9
    go_wp2_with (first | (go_at_call 125; go_loud (refine (HFO.out _).mono ?_; rintro e w4 ⟨rfl, hB5⟩)) | (go_at_call 124; go_loud (refine HBO.out.mono ?_; rintro e w3 ⟨U, M, d, U2, M2, d2, rfl, ⟨hM, hd, hs3⟩, ⟨hM2, hd2, hs23⟩, hB3⟩; have hB4 := hB3.alloc hB3.size (.cells #[.int .i64 q1, .string q2, .int .i64 n.kind, .int .i64 n.mode, .string n.body, .int .i64 ((k : Int) + 1), .slice U M d] 153); have hF := Bx.new w3 153 #[.int .i64 q1, .string q2, .int .i64 n.kind, .int .i64 n.mode, .string n.body, .int .i64 ((k : Int) + 1), .slice U M d]; obtain ⟨⟨b0, b1, b2, b3, b4, b5, b6⟩, _⟩ := hF.found; have hz3 : (w3.alloc (.cells #[.int .i64 q1, .string q2, .int .i64 n.kind, .int .i64 n.mode, .string n.body, .int .i64 ((k : Int) + 1), .slice U M d] 153)).heap.size = w3.heap.size + 1 := (by simp))))
    go_ret
    have hgx := HGX.out
    subst hgx
    have hB6 := hB4.trans (hB5.mono hB4.size)
    have hb6 := HB1.out.trans (hB6.mono HB1.out.size)
    exact ⟨_, rfl, HTO.out.on hB6, fun h => (by cases h), H9.out, HFIT.out, Nw.of hb6⟩
  · rw [show decide (n.kind = 2) = false by simp [hk2]] at hfo
    have HFO := Lib.hid hfo
    have hlk := PT.link2_fre (l := l2) hwk (by rw [PT.kindAt_at hn]; exact hk2)
    obtain ⟨⟨r1, r2, r3⟩, hr⟩ : ∃ r, PT.fre t l2 = r := ⟨_, rfl⟩
    have hfr := fun U2 M2 d2 W (hm : Ml W) (h : Ts W (.slice (some ⟨g0, 0, none⟩) 9 c) t) (hs : Ss W (.slice U2 M2 d2) l2) (hM : l2.length = M2) (hd : M2 ≤ d2) => efree_any (some ⟨g0, 0, none⟩) U2 c M2 d2 t l2 o W hm h g hs hM hd (by omega) hok2
    rw [hr] at hfr hlk
    dsimp only at hfr hlk
    have HFR := Lib.hid hfr
    by_cases h3 : r3 = 0
    · subst h3
      rw [if_neg (by simp)] at hlk
      obtain ⟨dd, n2, hr1, hd9, hn2, hk22, hno, hr2, hlne⟩ := PT.fre_yes g hr
      subst hr1
      have hsz2 := PT.last_small hlne hok2
      rw [← hr2] at hsz2
      rw [show PT.px ((dd : Int) + 1) = dd by unfold PT.px; omega] at hlk
      have hpu := fun W (h : To 27 W base (.slice (some ⟨g0, 0, none⟩) 9 c) t) => eput_any g0 c base t o dd n2 r2 ((k : Int) + 1) W h hfit h9 hn2 hk22 hno ⟨by omega, by unfold I64; omega⟩
      rw [show ((k + 1 : Nat) : Int) = (k : Int) + 1 by omega] at hlk
      rw [← hlk, hx] at hpu
      dsimp only at hpu
      have HPU := Lib.hid hpu
      have hln := PT.link3_len (t := t) (p := PT.put t dd (r2, (k : Int) + 1)) (fun x hx => PT.put_fit hfit hx) hfit
      rw [← hlk, hx] at hln
      dsimp only at hln
      have HLN := Lib.hid hln
      clear hz1 hml hto hbo hq hwk hn hx hlk hfo his1 hl1 his2 hl2 h82 hok2 g hk2 hfr hr hn2 hk22 hno hr2 hlne hpu hln
      go_enter Tryz.func79, Tryz.ntmps79
      go_upto_region 1 with fail
      generalize hw1 : w.alloc (.cells #[.slice (some ⟨g0, 0, none⟩) 9 c, .bool o] 97) = w1 at *
      generalize hgx : w.heap.size = g1 at *
      have HB1 := Lib.hid hb1
      have HX1 := Lib.hid hx1
      have HT := Lib.hid hts1
      have HTO := Lib.hid hto1
      have HML := Lib.hid hml1
      have HGX := Lib.hid hgx
      have HFIT := Lib.hid hfit
      have H9 := Lib.hid h9
      obtain ⟨c0, c1⟩ := hx1.work
      clear hb1 hx1 hts1 hto1 hml1 hw1 hgx hfit h9
      go_wp2_with (first | (go_at_call 119; go_loud (refine (HPU.out _ (HTO.out.on hB8)).mono ?_; rintro e w6 ⟨rfl, hO6, hN6⟩)) | (go_at_call 117; go_loud (refine (HFR.out U2 M2 d2 _ (HML.out.below hB6) (HT.out.below hB6) ((hs23.below (al _ _)).below hB5) hM2 hd2).mono ?_; rintro e w5 ⟨rfl, hB7⟩; have hB7' := hB6.trans (hB7.mono hB6.size); have hB8 := hB7'.alloc hB7'.size (.cells #[.int .i64 ((dd : Int) + 1), .string r2] 144); obtain ⟨p0, p1⟩ := (Bx.new w5 144 #[.int .i64 ((dd : Int) + 1), .string r2]).place; clear c0 c1; obtain ⟨c0, c1⟩ := (HX1.out.on hB8).work; have b5' := ((hB5.trans (hB7.mono hB5.size)).alloc (by have := hB7.size; have := hB5.size; omega) (.cells #[.int .i64 ((dd : Int) + 1), .string r2] 144)).cell (p := ⟨w3.heap.size, 5, none⟩) (by simp); have b5'' := b5'.trans b5)) | (go_at_call 125; go_loud (refine (HFO.out _).mono ?_; rintro e w4 ⟨rfl, hB5⟩; have hB6 := hB4.trans (hB5.mono hB4.size); clear c0 c1; obtain ⟨c0, c1⟩ := (HX1.out.on hB6).work)) | (go_at_call 124; go_loud (refine HBO.out.mono ?_; rintro e w3 ⟨U, M, d, U2, M2, d2, rfl, ⟨hM, hd, hs3⟩, ⟨hM2, hd2, hs23⟩, hB3⟩; have hB4 := hB3.alloc hB3.size (.cells #[.int .i64 q1, .string q2, .int .i64 n.kind, .int .i64 n.mode, .string n.body, .int .i64 ((k : Int) + 1), .slice U M d] 153); have hF := Bx.new w3 153 #[.int .i64 q1, .string q2, .int .i64 n.kind, .int .i64 n.mode, .string n.body, .int .i64 ((k : Int) + 1), .slice U M d]; obtain ⟨⟨b0, b1, b2, b3, b4, b5, b6⟩, _⟩ := hF.found; have hz3 : (w3.alloc (.cells #[.int .i64 q1, .string q2, .int .i64 n.kind, .int .i64 n.mode, .string n.body, .int .i64 ((k : Int) + 1), .slice U M d] 153)).heap.size = w3.heap.size + 1 := (by simp))))
      go_ret
      have hgx := HGX.out
      subst hgx
      have hb8 := HB1.out.trans (hB8.mono HB1.out.size)
      exact ⟨_, rfl, hO6, fun _ => rfl, HLN.out.2.trans H9.out, HLN.out.1, (Nw.of hb8).trans hN6⟩
    · rw [if_pos h3] at hlk
      have e := hx.symm.trans hlk
      injection e with e1 e2
      subst e1 e2
      have hqb : (er == 0) = false := by simpa using h3
      clear hz1 hml hto hbo hq hwk hn hx hlk hfo his1 hl1 his2 hl2 h82 hok2 g hk2 hfr hr
      go_enter Tryz.func79, Tryz.ntmps79
      go_upto_region 1 with fail
      generalize hw1 : w.alloc (.cells #[.slice (some ⟨g0, 0, none⟩) 9 c, .bool o] 97) = w1 at *
      generalize hgx : w.heap.size = g1 at *
      have HB1 := Lib.hid hb1
      have HX1 := Lib.hid hx1
      have HT := Lib.hid hts1
      have HTO := Lib.hid hto1
      have HML := Lib.hid hml1
      have HGX := Lib.hid hgx
      have HFIT := Lib.hid hfit
      have H9 := Lib.hid h9
      obtain ⟨c0, c1⟩ := hx1.work
      clear hb1 hx1 hts1 hto1 hml1 hw1 hgx hfit h9
      go_wp2_with (first | (go_at_call 117; go_loud (refine (HFR.out U2 M2 d2 _ (HML.out.below hB6) (HT.out.below hB6) ((hs23.below (al _ _)).below hB5) hM2 hd2).mono ?_; rintro e w5 ⟨rfl, hB7⟩; have hB7' := hB6.trans (hB7.mono hB6.size); have hB8 := hB7'.alloc hB7'.size (.cells #[.int .i64 r1, .string r2] 144))) | (go_at_call 125; go_loud (refine (HFO.out _).mono ?_; rintro e w4 ⟨rfl, hB5⟩; have hB6 := hB4.trans (hB5.mono hB4.size); clear c0 c1; obtain ⟨c0, c1⟩ := (HX1.out.on hB6).work)) | (go_at_call 124; go_loud (refine HBO.out.mono ?_; rintro e w3 ⟨U, M, d, U2, M2, d2, rfl, ⟨hM, hd, hs3⟩, ⟨hM2, hd2, hs23⟩, hB3⟩; have hB4 := hB3.alloc hB3.size (.cells #[.int .i64 q1, .string q2, .int .i64 n.kind, .int .i64 n.mode, .string n.body, .int .i64 ((k : Int) + 1), .slice U M d] 153); have hF := Bx.new w3 153 #[.int .i64 q1, .string q2, .int .i64 n.kind, .int .i64 n.mode, .string n.body, .int .i64 ((k : Int) + 1), .slice U M d]; obtain ⟨⟨b0, b1, b2, b3, b4, b5, b6⟩, _⟩ := hF.found; have hz3 : (w3.alloc (.cells #[.int .i64 q1, .string q2, .int .i64 n.kind, .int .i64 n.mode, .string n.body, .int .i64 ((k : Int) + 1), .slice U M d] 153)).heap.size = w3.heap.size + 1 := (by simp))))
      go_ret
      have hgx := HGX.out
      subst hgx
      have hb8 := HB1.out.trans (hB8.mono HB1.out.size)
      exact ⟨_, rfl, HTO.out.on hB8, fun h => absurd h h3, H9.out, HFIT.out, Nw.of hb8⟩
theorem elink_any (g0 c base : Nat) (t : List PT.N) (o : Bool) (s1 s2 : ByteArray) (w : World) (hml : Ml w) (hto : To 27 w base (.slice (some ⟨g0, 0, none⟩) 9 c) t) (g : PT.Fine t) (hs1 : s1.size ≤ 65535) (hs2 : s2.size ≤ 65535) :
    Calls Tryz.prog 79 #[.agg #[.slice (some ⟨g0, 0, none⟩) 9 c, .bool o], .string s1, .string s2] w fun e w' => ∃ t', e = .returned (.int .i64 (PT.link t (PT.pp o s1) (PT.pp o s2)).2) ∧ To 27 w' base (.slice (some ⟨g0, 0, none⟩) 9 c) t' ∧ ((PT.link t (PT.pp o s1) (PT.pp o s2)).2 = 0 → t' = (PT.link t (PT.pp o s1) (PT.pp o s2)).1) ∧ t'.length = 9 ∧ FitN t' ∧ Nw g0 w w' := by
  have hall : ∀ er, er ≠ 0 → PT.link t (PT.pp o s1) (PT.pp o s2) = (t, er) → (∀ W, Ml W → Ts W (.slice (some ⟨g0, 0, none⟩) 9 c) t → Calls Tryz.prog 124 #[.agg #[.slice (some ⟨g0, 0, none⟩) 9 c, .bool o], .string s1, .string s2] W fun e w' => ∃ L, e = .returned (.tuple #[fz, L, .int .i64 er]) ∧ Below W.heap.size W w') → Calls Tryz.prog 79 #[.agg #[.slice (some ⟨g0, 0, none⟩) 9 c, .bool o], .string s1, .string s2] w fun e w' => ∃ t', e = .returned (.int .i64 (PT.link t (PT.pp o s1) (PT.pp o s2)).2) ∧ To 27 w' base (.slice (some ⟨g0, 0, none⟩) 9 c) t' ∧ ((PT.link t (PT.pp o s1) (PT.pp o s2)).2 = 0 → t' = (PT.link t (PT.pp o s1) (PT.pp o s2)).1) ∧ t'.length = 9 ∧ FitN t' ∧ Nw g0 w w' := by
    intro er hz hl hb
    rw [hl]
    refine (elink_bad g0 c base t o s1 s2 w hml hto g hs1 hs2 er hz hb).mono ?_
    rintro e w' ⟨rfl, h1, h2⟩
    exact ⟨t, rfl, h1, fun h => absurd h hz, g.len, g.fit, h2⟩
  cases his2 : PN.is o s2 with
  | false =>
    refine hall 1 (by decide) (by rw [PT.pp_no his2, PT.link_no2]) fun W hm h => eboth_bad _ c t o s1 s2 W hm h g hs1 hs2 his2
  | true =>
    by_cases hf : (PT.find t (PT.pp o s1)).2 = 0
    · cases his1 : PN.is o s1 with
      | false => rw [PT.pp_no his1] at hf; cases hf
      | true =>
        rw [PT.pp_yes his1] at hf
        obtain ⟨k, n, hwk, _, hn, _, _⟩ := g.walk_yes (show (PT.walk t 0 (PN.pt o s1)).2 = 0 from hf)
        rw [PT.pp_yes his1, PT.pp_yes his2]
        exact elink_yes g0 c base t o s1 s2 w hml hto g hs1 hs2 _ _ his1 rfl his2 rfl k n hwk hn
    · refine hall _ hf ?_ fun W hm h => eboth_no _ c t o s1 s2 W hm h g hs1 hs2 _ his2 rfl _ rfl hf
      rw [PT.pp_yes his2]
      cases hp : PT.pp o s1 with
      | none => rfl
      | some f =>
        rw [hp] at hf
        show PT.link2 t f _ = _
        unfold PT.link2
        rw [if_pos (show (PT.walk t 0 f).2 ≠ 0 from hf)]
        rfl
end Go.Proofs.YtdnobplhfbgbaaaGreatDoor
