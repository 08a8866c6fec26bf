/-
  Contract: move of edit.
-/
import Derived.Test.YtdnobplhfbgbaaaGreatDoorXr
import Derived.Test.YtdnobplhfbgbaaaGreatDoorMXm
namespace Go.Proofs.YtdnobplhfbgbaaaGreatDoor
open Go.RowKit Go.Joins

namespace PT
/-- Move, by the places. -/
theorem move2_plc {t : List N} {f l : List ByteArray} {k d : Nat} (hw : walk t 0 f = (((k + 1 : Nat) : Int), 0)) (hk : 0 < k) (hp : place t f = (((d + 1 : Nat) : Int), 0)) : move2 t f l = if (plc t l).2.2 ≠ 0 then (t, (plc t l).2.2) else if (d : Int) + 1 = (plc t l).1 ∧ last f = (plc t l).2.1 then (t, 0) else if PD.has (names t (px (plc t l).1)) (plc t l).2.1 = true then (t, 3) else if kindAt t k = 2 ∧ inB t 9 (px (plc t l).1) k = true then (t, 7) else link3 t (put (take t d (last f)) (px (plc t l).1) ((plc t l).2.1, ((k + 1 : Nat) : Int))) := by
  unfold move2 plc
  rw [hw, hp]
  simp only [px_succ]
  rw [if_neg (by simp), if_neg (by omega)]
  by_cases h1 : l = []
  · rw [if_pos h1, if_pos h1]; simp
  · rw [if_neg h1, if_neg h1]
    by_cases h2 : (place t l).2 ≠ 0
    · rw [if_pos h2, if_pos h2]; simp [h2]
    · rw [if_neg h2, if_neg h2]
      simp only [ne_eq, not_true, if_false]
      rw [show ((d + 1 : Nat) : Int) = (d : Int) + 1 by omega]
theorem plc_yes2 {t : List N} (g : Fine t) {l : List ByteArray} {r1 : Int} {r2 : ByteArray} (h : plc t l = (r1, r2, 0)) : ∃ (d : Nat) (n : N), r1 = (d : Int) + 1 ∧ d < 9 ∧ t[d]? = some n ∧ n.kind = 2 ∧ r2 = last l ∧ l ≠ [] ∧ place t l = (((d + 1 : Nat) : Int), 0) := by
  unfold plc at h
  by_cases h3 : l = []
  · rw [if_pos h3] at h; cases h
  rw [if_neg h3] at h
  by_cases h4 : (place t l).2 ≠ 0
  · rw [if_pos h4] at h
    injection h with _ h
    injection h with _ h
    exact absurd h h4
  rw [if_neg h4] at h
  obtain ⟨k, n, hp, _, hk9, hn, hk, _⟩ := g.place_yes (Classical.not_not.1 h4)
  rw [hp] at h
  injection h with h1 h
  injection h with h5 _
  exact ⟨k, n, by omega, hk9, hn, hk, h5.symm, h3, hp⟩
/-- The other folder, behind a name's going. -/
theorem take_to {t : List N} (g : Fine t) {d d2 : Nat} {n n2 : N} {e : E} {r : ByteArray} (hn : t[d]? = some n) (he : e ∈ ents n) (hn2 : t[d2]? = some n2) (hk2 : n2.kind = 2) (hno : PD.has (ents n2) r = false) : ∃ m : N, (take t d e.1)[d2]? = some m ∧ m.kind = 2 ∧ PD.has (ents m) r = false := by
  obtain ⟨n', h3, h4, h5, hkn⟩ := take_at g hn he
  have hlt := (List.getElem?_eq_some_iff.1 hn).1
  rw [h3]
  rcases Classical.em (d = d2) with hdd | hdd
  · subst hdd
    refine ⟨n', List.getElem?_set_self hlt, h4.kind, ?_⟩
    rw [hn] at hn2
    injection hn2 with hn2
    subst hn2
    rw [PD.has, List.any_eq_false] at hno ⊢
    exact fun z hz => hno z ((h4.mem z).2 (.inr hz))
  · exact ⟨n2, by rw [List.getElem?_set_ne hdd]; exact hn2, hk2, hno⟩
end PT
set_option maxRecDepth 100000 in
set_option maxHeartbeats 4000000 in
theorem emove_bad (g0 c base : Nat) (t : List PT.N) (o : Bool) (s1 s2 : ByteArray) (w : World) (hml : Ml w) (hto : To 27 w base (.slice (some ⟨g0, 0, none⟩) 9 c) t) (g : PT.Fine t) (_ : s1.size ≤ 65535) (_ : s2.size ≤ 65535) (er : Int) (hz : er ≠ 0) (hb : ∀ W, Ml W → Ts W (.slice (some ⟨g0, 0, none⟩) 9 c) t → Calls Tryz.prog 124 #[.agg #[.slice (some ⟨g0, 0, none⟩) 9 c, .bool o], .string s1, .string s2] W fun e w' => ∃ L, e = .returned (.tuple #[fz, L, .int .i64 er]) ∧ Below W.heap.size W w') :
    Calls Tryz.prog 81 #[.agg #[.slice (some ⟨g0, 0, none⟩) 9 c, .bool o], .string s1, .string s2] w fun e w' => e = .returned (.int .i64 er) ∧ To 27 w' base (.slice (some ⟨g0, 0, none⟩) 9 c) t ∧ Nw g0 w w' := by
  have hb1 := al w (.cells #[.slice (some ⟨g0, 0, none⟩) 9 c, .bool o] 97)
  have hx1 := Bx.new w 97 #[.slice (some ⟨g0, 0, none⟩) 9 c, .bool o]
  have hz1 : (w.alloc (.cells #[.slice (some ⟨g0, 0, none⟩) 9 c, .bool o] 97)).heap.size = w.heap.size + 1 := by simp
  have hml1 := hml.below hb1
  have hto1 := hto.on hb1
  have hfit := g.fit
  have h9 := g.len
  have hts1 := hto1.row hfit
  simp only [fz, fv, PT.zero] at hb
  have HBO := Lib.hid (hb _ hml1 hts1)
  have hqb : (er == 0) = false := by simpa using hz
  clear hz1 hb hz hml hto
  go_enter Tryz.func81, Tryz.ntmps81
  go_upto_region 1 with fail
  generalize hw1 : w.alloc (.cells #[.slice (some ⟨g0, 0, none⟩) 9 c, .bool o] 97) = w1 at *
  generalize hgx : w.heap.size = g1 at *
  have HB1 := Lib.hid hb1
  have HX1 := Lib.hid hx1
  have HT := Lib.hid hts1
  have HTO := Lib.hid hto1
  have HML := Lib.hid hml1
  have HGX := Lib.hid hgx
  have HFIT := Lib.hid hfit
  have H9 := Lib.hid h9
  obtain ⟨c0, c1⟩ := hx1.work
  clear hb1 hx1 hts1 hto1 hml1 hw1 hgx hfit h9
  go_wp2_with (go_at_call 124; go_loud (refine HBO.out.mono ?_; rintro e w3 ⟨L, rfl, hB3⟩; have hB4 := hB3.alloc hB3.size (.cells #[.int .i64 0, .string { data := #[] }, .int .i64 0, .int .i64 0, .string { data := #[] }, .int .i64 0, .slice none 0 0] 153)))
  go_ret
  have hgx := HGX.out
  subst hgx
  have hb4 := HB1.out.trans (hB4.mono HB1.out.size)
  exact ⟨rfl, HTO.out.on hB4, Nw.of hb4⟩
set_option maxRecDepth 100000 in
set_option maxHeartbeats 16000000 in
theorem emove_yes (g0 c base : Nat) (t : List PT.N) (o : Bool) (s1 s2 : ByteArray) (w : World) (hml : Ml w) (hto : To 27 w base (.slice (some ⟨g0, 0, none⟩) 9 c) t) (g : PT.Fine t) (hs1 : s1.size ≤ 65535) (hs2 : s2.size ≤ 65535) (l1 l2 : List ByteArray) (his1 : PN.is o s1 = true) (hl1 : PN.pt o s1 = l1) (his2 : PN.is o s2 = true) (hl2 : PN.pt o s2 = l2) (k : Nat) (n : PT.N) (hwk : PT.walk t 0 l1 = (((k + 1 : Nat) : Int), 0)) (hn : t[k]? = some n) :
    Calls Tryz.prog 81 #[.agg #[.slice (some ⟨g0, 0, none⟩) 9 c, .bool o], .string s1, .string s2] w fun e w' => ∃ t', e = .returned (.int .i64 (PT.move2 t l1 l2).2) ∧ To 27 w' base (.slice (some ⟨g0, 0, none⟩) 9 c) t' ∧ ((PT.move2 t l1 l2).2 = 0 → t' = (PT.move2 t l1 l2).1) ∧ t'.length = 9 ∧ FitN t' ∧ Nw g0 w w' := by
  have hb1 := al w (.cells #[.slice (some ⟨g0, 0, none⟩) 9 c, .bool o] 97)
  have hx1 := Bx.new w 97 #[.slice (some ⟨g0, 0, none⟩) 9 c, .bool o]
  have hz1 : (w.alloc (.cells #[.slice (some ⟨g0, 0, none⟩) 9 c, .bool o] 97)).heap.size = w.heap.size + 1 := by simp
  have hml1 := hml.below hb1
  have hto1 := hto.on hb1
  have hfit := g.fit
  have h9 := g.len
  have hts1 := hto1.row hfit
  have hg0 : g0 < w.heap.size := by obtain ⟨cur, hbr, _⟩ := hto.box (by decide); exact hbr.lt
  have hbo := eboth_yes (some ⟨g0, 0, none⟩) c t o s1 s2 _ hml1 hts1 g hs1 hs2 l1 l2 his1 hl1 his2 hl2 k n hwk hn
  obtain ⟨_, h82, hok2⟩ := PN.is_some his2
  rw [hl2] at h82 hok2
  obtain ⟨⟨q1, q2, q3⟩, hq⟩ : ∃ q, PT.plc t l1 = q := ⟨_, rfl⟩
  rw [hq] at hbo
  simp only [fv] at hbo
  have hbok := hq
  have HBO := Lib.hid hbo
  obtain ⟨⟨x, er⟩, hx⟩ : ∃ x, PT.move2 t l1 l2 = x := ⟨_, rfl⟩
  rw [hx]
  dsimp only
  have hk9 : k < 9 := by have := (List.getElem?_eq_some_iff.1 hn).1; omega
  by_cases hk0 : k = 0
  · subst hk0
    have hd : PT.move2 t l1 l2 = (t, 4) := by
      unfold PT.move2
      rw [hwk]
      simp only [PT.px_succ]
      rw [if_neg (by simp)]
      simp
    have e := hx.symm.trans hd
    injection e with e1 e2
    subst e1 e2
    clear hml hto g his1 hl1 his2 hl2 hwk hn hq hx hbo hbok h82 hok2 hd
    go_enter Tryz.func81, Tryz.ntmps81
    go_upto_region 1 with fail
    generalize hw1 : w.alloc (.cells #[.slice (some ⟨g0, 0, none⟩) 9 c, .bool o] 97) = w1 at *
    generalize hgx : w.heap.size = g1 at *
    have HB1 := Lib.hid hb1
    have HX1 := Lib.hid hx1
    have HT := Lib.hid hts1
    have HTO := Lib.hid hto1
    have HML := Lib.hid hml1
    have HGX := Lib.hid hgx
    have HFIT := Lib.hid hfit
    have H9 := Lib.hid h9
    have hz1' : g1 < w1.heap.size := by omega
    obtain ⟨c0, c1⟩ := hx1.work
    clear hb1 hx1 hts1 hto1 hml1 hw1 hgx hfit h9
    go_wp2_with (first | (go_at_call 124; go_loud (refine HBO.out.mono ?_; rintro e w3 ⟨U, M, d, U2, M2, d2, rfl, ⟨hM, hd, hs3⟩, ⟨hM2, hd2, hs23⟩, hB3⟩; have hB4 := hB3.alloc hB3.size (.cells #[.int .i64 q1, .string q2, .int .i64 n.kind, .int .i64 n.mode, .string n.body, .int .i64 (((0 : Nat) : Int) + 1), .slice U M d] 153); have hF := Bx.new w3 153 #[.int .i64 q1, .string q2, .int .i64 n.kind, .int .i64 n.mode, .string n.body, .int .i64 (((0 : Nat) : Int) + 1), .slice U M d]; obtain ⟨⟨b0, b1, b2, b3, b4, b5, b6⟩, _⟩ := hF.found; have hz3 : (w3.alloc (.cells #[.int .i64 q1, .string q2, .int .i64 n.kind, .int .i64 n.mode, .string n.body, .int .i64 (((0 : Nat) : Int) + 1), .slice U M d] 153)).heap.size = w3.heap.size + 1 := (by simp); have HF := Lib.hid hF; have hs3z := hB3.size; clear c0 c1; obtain ⟨c0, c1⟩ := (HX1.out.on hB4).work)))
    go_ret
    have hgx := HGX.out
    subst hgx
    exact ⟨_, rfl, HTO.out.on hB4, fun h => (by cases h), H9.out, HFIT.out, Nw.of (HB1.out.trans (hB4.mono (by omega)))⟩
  obtain ⟨dd, nn, en, hpl, hpp, hlne, hd9, hnn, hnn2, hen, hen1, hix⟩ := PT.plc_of g hwk (by omega)
  have e := hq.symm.trans hpl
  injection e with e1 e2
  injection e2 with e2 e3
  subst e1 e2 e3
  have hki : ((k : Int) + 1 == 1) = false := by simp; omega
  have hmv := PT.move2_plc (l := l2) hwk (by omega) hpp
  obtain ⟨⟨r1, r2, r3⟩, hr⟩ : ∃ r, PT.plc t l2 = r := ⟨_, rfl⟩
  have hplr := fun U2 M2 d2 W (hm : Ml W) (h : Ts W (.slice (some ⟨g0, 0, none⟩) 9 c) t) (hs : Ss W (.slice U2 M2 d2) l2) (hM : l2.length = M2) (hd : M2 ≤ d2) => eplace_any (some ⟨g0, 0, none⟩) U2 c M2 d2 t l2 o W hm h g hs hM hd (by omega) hok2
  rw [hr] at hmv hplr
  dsimp only at hmv hplr
  have HPL := Lib.hid hplr
  have hpl2 := hpp
  by_cases h3 : r3 = 0
  rotate_left
  · rw [if_pos h3] at hmv
    have e := hx.symm.trans hmv
    injection e with e1 e2
    subst e1 e2
    have hqb : (er == 0) = false := by simpa using h3
    clear hml hto g his1 hl1 his2 hl2 hwk hn hq hx hbo hbok h82 hok2 hpl hpp hlne hnn hnn2 hen hen1 hix hmv hplr hpl2 hr hk0
    go_enter Tryz.func81, Tryz.ntmps81
    go_upto_region 1 with fail
    generalize hw1 : w.alloc (.cells #[.slice (some ⟨g0, 0, none⟩) 9 c, .bool o] 97) = w1 at *
    generalize hgx : w.heap.size = g1 at *
    have HB1 := Lib.hid hb1
    have HX1 := Lib.hid hx1
    have HT := Lib.hid hts1
    have HTO := Lib.hid hto1
    have HML := Lib.hid hml1
    have HGX := Lib.hid hgx
    have HFIT := Lib.hid hfit
    have H9 := Lib.hid h9
    have hz1' : g1 < w1.heap.size := by omega
    obtain ⟨c0, c1⟩ := hx1.work
    clear hb1 hx1 hts1 hto1 hml1 hw1 hgx hfit h9
    go_wp2_with (first | (go_at_call 126; go_loud (refine (HPL.out U2 M2 d2 _ (HML.out.below hB4) (HT.out.below hB4) (hs23.below (al _ _)) hM2 hd2).mono ?_; rintro e w4 ⟨rfl, hB5⟩; have hs4z := hB5.size; rw [hz3] at hs4z; have hB6 := hB4.trans (hB5.mono hB4.size); have hB7 := hB6.alloc hB6.size (.cells #[.int .i64 r1, .string r2] 144); have hF7 := (HF.out.on hB5).alloc (.cells #[.int .i64 r1, .string r2] 144); clear b0 b1 b2 b3 b4 b5 b6; obtain ⟨⟨b0, b1, b2, b3, b4, b5, b6⟩, _⟩ := hF7.found; have hP := Bx.new w4 144 #[.int .i64 r1, .string r2]; obtain ⟨p0, p1⟩ := hP.place; have HP := Lib.hid hP; have hz4 : (w4.alloc (.cells #[.int .i64 r1, .string r2] 144)).heap.size = w4.heap.size + 1 := (by simp); clear c0 c1; obtain ⟨c0, c1⟩ := (HX1.out.on hB7).work; have hs37 := ((hs3.below (al _ _)).below hB5).below (al w4 (.cells #[.int .i64 r1, .string r2] 144)); have hs27 := ((hs23.below (al _ _)).below hB5).below (al w4 (.cells #[.int .i64 r1, .string r2] 144)))) | (go_at_call 124; go_loud (refine HBO.out.mono ?_; rintro e w3 ⟨U, M, d, U2, M2, d2, rfl, ⟨hM, hd, hs3⟩, ⟨hM2, hd2, hs23⟩, hB3⟩; have hB4 := hB3.alloc hB3.size (.cells #[.int .i64 ((dd : Int) + 1), .string (PT.last l1), .int .i64 n.kind, .int .i64 n.mode, .string n.body, .int .i64 ((k : Int) + 1), .slice U M d] 153); have hF := Bx.new w3 153 #[.int .i64 ((dd : Int) + 1), .string (PT.last l1), .int .i64 n.kind, .int .i64 n.mode, .string n.body, .int .i64 ((k : Int) + 1), .slice U M d]; obtain ⟨⟨b0, b1, b2, b3, b4, b5, b6⟩, _⟩ := hF.found; have hz3 : (w3.alloc (.cells #[.int .i64 ((dd : Int) + 1), .string (PT.last l1), .int .i64 n.kind, .int .i64 n.mode, .string n.body, .int .i64 ((k : Int) + 1), .slice U M d] 153)).heap.size = w3.heap.size + 1 := (by simp); have HF := Lib.hid hF; have hs3z := hB3.size; clear c0 c1; obtain ⟨c0, c1⟩ := (HX1.out.on hB4).work)))
    go_ret
    have hgx := HGX.out
    subst hgx
    exact ⟨_, rfl, HTO.out.on hB7, fun h => absurd h h3, H9.out, HFIT.out, Nw.of (HB1.out.trans (hB7.mono (by omega)))⟩
  subst h3
  rw [if_neg (by simp)] at hmv
  obtain ⟨dd2, n2, hr1, hdd9, hn2, hk22, hr2, hl2ne, hp2⟩ := PT.plc_yes2 g hr
  subst hr1
  have hsz2 := PT.last_small hl2ne hok2
  rw [← hr2] at hsz2
  by_cases hdd : dd2 = dd
  · by_cases hrr : r2 = PT.last l1
    · rw [if_pos ⟨by omega, hrr.symm⟩] at hmv
      have e := hx.symm.trans hmv
      injection e with e1 e2
      subst e1 e2 hrr
      subst hdd
      have hsq := seq_yes (PT.last l1)
      clear hml hto g his1 hl1 his2 hl2 hwk hn hq hx hbo hbok h82 hok2 hpl hpp hlne hnn hnn2 hen hen1 hix hmv hplr hpl2 hr hk0 hn2 hk22 hl2ne hp2 hr2
      go_enter Tryz.func81, Tryz.ntmps81
      go_upto_region 1 with fail
      generalize hw1 : w.alloc (.cells #[.slice (some ⟨g0, 0, none⟩) 9 c, .bool o] 97) = w1 at *
      generalize hgx : w.heap.size = g1 at *
      have HB1 := Lib.hid hb1
      have HX1 := Lib.hid hx1
      have HT := Lib.hid hts1
      have HTO := Lib.hid hto1
      have HML := Lib.hid hml1
      have HGX := Lib.hid hgx
      have HFIT := Lib.hid hfit
      have H9 := Lib.hid h9
      have hz1' : g1 < w1.heap.size := by omega
      obtain ⟨c0, c1⟩ := hx1.work
      clear hb1 hx1 hts1 hto1 hml1 hw1 hgx hfit h9
      go_wp2_with (first | (go_at_call 126; go_loud (refine (HPL.out U2 M2 d2 _ (HML.out.below hB4) (HT.out.below hB4) (hs23.below (al _ _)) hM2 hd2).mono ?_; rintro e w4 ⟨rfl, hB5⟩; have hs4z := hB5.size; rw [hz3] at hs4z; have hB6 := hB4.trans (hB5.mono hB4.size); have hB7 := hB6.alloc hB6.size (.cells #[.int .i64 ((dd2 : Int) + 1), .string (PT.last l1)] 144); have hF7 := (HF.out.on hB5).alloc (.cells #[.int .i64 ((dd2 : Int) + 1), .string (PT.last l1)] 144); clear b0 b1 b2 b3 b4 b5 b6; obtain ⟨⟨b0, b1, b2, b3, b4, b5, b6⟩, _⟩ := hF7.found; have hP := Bx.new w4 144 #[.int .i64 ((dd2 : Int) + 1), .string (PT.last l1)]; obtain ⟨p0, p1⟩ := hP.place; have HP := Lib.hid hP; have hz4 : (w4.alloc (.cells #[.int .i64 ((dd2 : Int) + 1), .string (PT.last l1)] 144)).heap.size = w4.heap.size + 1 := (by simp); clear c0 c1; obtain ⟨c0, c1⟩ := (HX1.out.on hB7).work; have hs37 := ((hs3.below (al _ _)).below hB5).below (al w4 (.cells #[.int .i64 ((dd2 : Int) + 1), .string (PT.last l1)] 144)); have hs27 := ((hs23.below (al _ _)).below hB5).below (al w4 (.cells #[.int .i64 ((dd2 : Int) + 1), .string (PT.last l1)] 144)))) | (go_at_call 124; go_loud (refine HBO.out.mono ?_; rintro e w3 ⟨U, M, d, U2, M2, d2, rfl, ⟨hM, hd, hs3⟩, ⟨hM2, hd2, hs23⟩, hB3⟩; have hB4 := hB3.alloc hB3.size (.cells #[.int .i64 ((dd2 : Int) + 1), .string (PT.last l1), .int .i64 n.kind, .int .i64 n.mode, .string n.body, .int .i64 ((k : Int) + 1), .slice U M d] 153); have hF := Bx.new w3 153 #[.int .i64 ((dd2 : Int) + 1), .string (PT.last l1), .int .i64 n.kind, .int .i64 n.mode, .string n.body, .int .i64 ((k : Int) + 1), .slice U M d]; obtain ⟨⟨b0, b1, b2, b3, b4, b5, b6⟩, _⟩ := hF.found; have hz3 : (w3.alloc (.cells #[.int .i64 ((dd2 : Int) + 1), .string (PT.last l1), .int .i64 n.kind, .int .i64 n.mode, .string n.body, .int .i64 ((k : Int) + 1), .slice U M d] 153)).heap.size = w3.heap.size + 1 := (by simp); have HF := Lib.hid hF; have hs3z := hB3.size; clear c0 c1; obtain ⟨c0, c1⟩ := (HX1.out.on hB4).work)))
      go_ret
      have hgx := HGX.out
      subst hgx
      exact ⟨_, rfl, HTO.out.on hB7, fun h => rfl, H9.out, HFIT.out, Nw.of (HB1.out.trans (hB7.mono (by omega)))⟩
    · have hne : ¬ ((dd : Int) + 1 = (dd2 : Int) + 1 ∧ PT.last l1 = r2) := fun h => hrr h.2.symm
      have hbeg := g.begins (f := l1) (l := l2) (by rw [hwk]) (by rw [hwk]; simp only [PT.px_succ]; omega) hl2ne (by rw [hp2]) (by rw [hpp, hp2, ← hr2]; intro h; exact hne ⟨by have := h.1; omega, h.2⟩)
      rw [hwk, hp2] at hbeg
      simp only [PT.px_succ] at hbeg
      have hsq := seq_no hrr
      have hdq : ((dd2 : Int) + 1 == (dd : Int) + 1) = true := by simp; omega

      have hmv2 := hmv
      rw [if_neg hne] at hmv2
      obtain ⟨b, hb⟩ : ∃ b, PD.has (PT.ents n2) r2 = b := ⟨_, rfl⟩
      have htk := fun W (h : Ts W (.slice (some ⟨g0, 0, none⟩) 9 c) t) => etaken_any (some ⟨g0, 0, none⟩) c t o dd2 n2 r2 W h h9 hn2 hk22
      rw [hb] at htk
      rw [show PT.px ((dd2 : Int) + 1) = dd2 by unfold PT.px; omega, PT.names_at hn2, hb] at hmv2
      have HTK := Lib.hid htk
      cases b with
      | true =>
        rw [if_pos rfl] at hmv2
        have e := hx.symm.trans hmv2
        injection e with e1 e2
        subst e1 e2
        clear hml hto g his1 hl1 his2 hl2 hwk hn hq hx hbo hbok h82 hok2 hpl hpp hlne hnn hnn2 hen hen1 hix hmv hplr hpl2 hr hk0 hr2 hdd hrr hne hn2 hk22 hl2ne hp2 hbeg htk hb hmv2
        go_enter Tryz.func81, Tryz.ntmps81
        go_upto_region 1 with fail
        generalize hw1 : w.alloc (.cells #[.slice (some ⟨g0, 0, none⟩) 9 c, .bool o] 97) = w1 at *
        generalize hgx : w.heap.size = g1 at *
        have HB1 := Lib.hid hb1
        have HX1 := Lib.hid hx1
        have HT := Lib.hid hts1
        have HTO := Lib.hid hto1
        have HML := Lib.hid hml1
        have HGX := Lib.hid hgx
        have HFIT := Lib.hid hfit
        have H9 := Lib.hid h9
        have hz1' : g1 < w1.heap.size := by omega
        obtain ⟨c0, c1⟩ := hx1.work
        clear hb1 hx1 hts1 hto1 hml1 hw1 hgx hfit h9
        go_wp2_with (first | (go_at_call 127; go_loud (refine (HTK.out _ (HT.out.below hB7)).mono ?_; rintro e w5 ⟨rfl, hB8⟩; have hB9 := hB7.trans (hB8.mono hB7.size); have hF9 := hF7.on hB8; clear b0 b1 b2 b3 b4 b5 b6; obtain ⟨⟨b0, b1, b2, b3, b4, b5, b6⟩, _⟩ := hF9.found; have hP9 := HP.out.on hB8; clear p0 p1; obtain ⟨p0, p1⟩ := (hP9).place; clear c0 c1; obtain ⟨c0, c1⟩ := (HX1.out.on hB9).work; have hs39 := hs37.below hB8; have hs29 := hs27.below hB8; have hs5z := hB8.size; rw [hz4] at hs5z)) | (go_at_call 126; go_loud (refine (HPL.out U2 M2 d2 _ (HML.out.below hB4) (HT.out.below hB4) (hs23.below (al _ _)) hM2 hd2).mono ?_; rintro e w4 ⟨rfl, hB5⟩; have hs4z := hB5.size; rw [hz3] at hs4z; have hB6 := hB4.trans (hB5.mono hB4.size); have hB7 := hB6.alloc hB6.size (.cells #[.int .i64 ((dd2 : Int) + 1), .string r2] 144); have hF7 := (HF.out.on hB5).alloc (.cells #[.int .i64 ((dd2 : Int) + 1), .string r2] 144); clear b0 b1 b2 b3 b4 b5 b6; obtain ⟨⟨b0, b1, b2, b3, b4, b5, b6⟩, _⟩ := hF7.found; have hP := Bx.new w4 144 #[.int .i64 ((dd2 : Int) + 1), .string r2]; obtain ⟨p0, p1⟩ := hP.place; have HP := Lib.hid hP; have hz4 : (w4.alloc (.cells #[.int .i64 ((dd2 : Int) + 1), .string r2] 144)).heap.size = w4.heap.size + 1 := (by simp); clear c0 c1; obtain ⟨c0, c1⟩ := (HX1.out.on hB7).work; have hs37 := ((hs3.below (al _ _)).below hB5).below (al w4 (.cells #[.int .i64 ((dd2 : Int) + 1), .string r2] 144)); have hs27 := ((hs23.below (al _ _)).below hB5).below (al w4 (.cells #[.int .i64 ((dd2 : Int) + 1), .string r2] 144)))) | (go_at_call 124; go_loud (refine HBO.out.mono ?_; rintro e w3 ⟨U, M, d, U2, M2, d2, rfl, ⟨hM, hd, hs3⟩, ⟨hM2, hd2, hs23⟩, hB3⟩; have hB4 := hB3.alloc hB3.size (.cells #[.int .i64 ((dd : Int) + 1), .string (PT.last l1), .int .i64 n.kind, .int .i64 n.mode, .string n.body, .int .i64 ((k : Int) + 1), .slice U M d] 153); have hF := Bx.new w3 153 #[.int .i64 ((dd : Int) + 1), .string (PT.last l1), .int .i64 n.kind, .int .i64 n.mode, .string n.body, .int .i64 ((k : Int) + 1), .slice U M d]; obtain ⟨⟨b0, b1, b2, b3, b4, b5, b6⟩, _⟩ := hF.found; have hz3 : (w3.alloc (.cells #[.int .i64 ((dd : Int) + 1), .string (PT.last l1), .int .i64 n.kind, .int .i64 n.mode, .string n.body, .int .i64 ((k : Int) + 1), .slice U M d] 153)).heap.size = w3.heap.size + 1 := (by simp); have HF := Lib.hid hF; have hs3z := hB3.size; clear c0 c1; obtain ⟨c0, c1⟩ := (HX1.out.on hB4).work)))
        go_ret
        have hgx := HGX.out
        subst hgx
        exact ⟨_, rfl, HTO.out.on hB9, fun h => (by cases h), H9.out, HFIT.out, Nw.of (HB1.out.trans (hB9.mono (by omega)))⟩
      | false =>
        rw [if_neg (by decide)] at hmv2
        obtain ⟨bb, hbb⟩ : ∃ bb, decide (l2.take l1.length = l1) = bb := ⟨_, rfl⟩
        have hbg := fun U U' M M' d d' W (h : Ss W (.slice U M d) l2) (h' : Ss W (.slice U' M' d') l1) (hM : l2.length = M) (hM' : l1.length = M') (hd : M ≤ d) => ebegins_any U U' M M' d d' l2 l1 W h h' hM hM' hd
        rw [hbb] at hbg
        have HBG := Lib.hid hbg
        cases bb with
        | true =>
          rw [if_pos (hbeg.1 (of_decide_eq_true hbb))] at hmv2
          have e := hx.symm.trans hmv2
          injection e with e1 e2
          subst e1 e2
          clear hml hto g his1 hl1 his2 hl2 hwk hn hq hx hbo hbok h82 hok2 hpl hpp hlne hnn hnn2 hen hen1 hix hmv hplr hpl2 hr hk0 hr2 hdd hrr hne hn2 hk22 hl2ne hp2 hbeg htk hb hmv2 hbb hbg
          go_enter Tryz.func81, Tryz.ntmps81
          go_upto_region 1 with fail
          generalize hw1 : w.alloc (.cells #[.slice (some ⟨g0, 0, none⟩) 9 c, .bool o] 97) = w1 at *
          generalize hgx : w.heap.size = g1 at *
          have HB1 := Lib.hid hb1
          have HX1 := Lib.hid hx1
          have HT := Lib.hid hts1
          have HTO := Lib.hid hto1
          have HML := Lib.hid hml1
          have HGX := Lib.hid hgx
          have HFIT := Lib.hid hfit
          have H9 := Lib.hid h9
          have hz1' : g1 < w1.heap.size := by omega
          obtain ⟨c0, c1⟩ := hx1.work
          clear hb1 hx1 hts1 hto1 hml1 hw1 hgx hfit h9
          go_wp2_with (first | (go_at_call 128; go_loud (refine (HBG.out U2 U M2 M d2 d _ hs29 hs39 hM2 hM hd2).mono ?_; rintro e w6 ⟨rfl, hB10⟩; have hB11 := hB9.trans (hB10.mono hB9.size); have hF11 := hF9.on hB10; clear b0 b1 b2 b3 b4 b5 b6; obtain ⟨⟨b0, b1, b2, b3, b4, b5, b6⟩, _⟩ := hF11.found; have hP11 := hP9.on hB10; clear p0 p1; obtain ⟨p0, p1⟩ := (hP11).place; clear c0 c1; obtain ⟨c0, c1⟩ := (HX1.out.on hB11).work)) | (go_at_call 127; go_loud (refine (HTK.out _ (HT.out.below hB7)).mono ?_; rintro e w5 ⟨rfl, hB8⟩; have hB9 := hB7.trans (hB8.mono hB7.size); have hF9 := hF7.on hB8; clear b0 b1 b2 b3 b4 b5 b6; obtain ⟨⟨b0, b1, b2, b3, b4, b5, b6⟩, _⟩ := hF9.found; have hP9 := HP.out.on hB8; clear p0 p1; obtain ⟨p0, p1⟩ := (hP9).place; clear c0 c1; obtain ⟨c0, c1⟩ := (HX1.out.on hB9).work; have hs39 := hs37.below hB8; have hs29 := hs27.below hB8; have hs5z := hB8.size; rw [hz4] at hs5z)) | (go_at_call 126; go_loud (refine (HPL.out U2 M2 d2 _ (HML.out.below hB4) (HT.out.below hB4) (hs23.below (al _ _)) hM2 hd2).mono ?_; rintro e w4 ⟨rfl, hB5⟩; have hs4z := hB5.size; rw [hz3] at hs4z; have hB6 := hB4.trans (hB5.mono hB4.size); have hB7 := hB6.alloc hB6.size (.cells #[.int .i64 ((dd2 : Int) + 1), .string r2] 144); have hF7 := (HF.out.on hB5).alloc (.cells #[.int .i64 ((dd2 : Int) + 1), .string r2] 144); clear b0 b1 b2 b3 b4 b5 b6; obtain ⟨⟨b0, b1, b2, b3, b4, b5, b6⟩, _⟩ := hF7.found; have hP := Bx.new w4 144 #[.int .i64 ((dd2 : Int) + 1), .string r2]; obtain ⟨p0, p1⟩ := hP.place; have HP := Lib.hid hP; have hz4 : (w4.alloc (.cells #[.int .i64 ((dd2 : Int) + 1), .string r2] 144)).heap.size = w4.heap.size + 1 := (by simp); clear c0 c1; obtain ⟨c0, c1⟩ := (HX1.out.on hB7).work; have hs37 := ((hs3.below (al _ _)).below hB5).below (al w4 (.cells #[.int .i64 ((dd2 : Int) + 1), .string r2] 144)); have hs27 := ((hs23.below (al _ _)).below hB5).below (al w4 (.cells #[.int .i64 ((dd2 : Int) + 1), .string r2] 144)))) | (go_at_call 124; go_loud (refine HBO.out.mono ?_; rintro e w3 ⟨U, M, d, U2, M2, d2, rfl, ⟨hM, hd, hs3⟩, ⟨hM2, hd2, hs23⟩, hB3⟩; have hB4 := hB3.alloc hB3.size (.cells #[.int .i64 ((dd : Int) + 1), .string (PT.last l1), .int .i64 n.kind, .int .i64 n.mode, .string n.body, .int .i64 ((k : Int) + 1), .slice U M d] 153); have hF := Bx.new w3 153 #[.int .i64 ((dd : Int) + 1), .string (PT.last l1), .int .i64 n.kind, .int .i64 n.mode, .string n.body, .int .i64 ((k : Int) + 1), .slice U M d]; obtain ⟨⟨b0, b1, b2, b3, b4, b5, b6⟩, _⟩ := hF.found; have hz3 : (w3.alloc (.cells #[.int .i64 ((dd : Int) + 1), .string (PT.last l1), .int .i64 n.kind, .int .i64 n.mode, .string n.body, .int .i64 ((k : Int) + 1), .slice U M d] 153)).heap.size = w3.heap.size + 1 := (by simp); have HF := Lib.hid hF; have hs3z := hB3.size; clear c0 c1; obtain ⟨c0, c1⟩ := (HX1.out.on hB4).work)))
          go_ret
          have hgx := HGX.out
          subst hgx
          exact ⟨_, rfl, HTO.out.on hB11, fun h => (by cases h), H9.out, HFIT.out, Nw.of (HB1.out.trans (hB11.mono (by omega)))⟩
        | false =>
          rw [if_neg (fun h => by have := hbeg.2 h; rw [decide_eq_true this] at hbb; cases hbb)] at hmv2
          obtain ⟨m2, hm2, hm22, hmno⟩ := PT.take_to (r := r2) g hnn hen hn2 hk22 hb
          rw [hen1] at hm2
          have hta := fun W (h : To 27 W base (.slice (some ⟨g0, 0, none⟩) 9 c) t) => etake_any g0 c base t o dd nn (PT.last l1) W h hfit h9 hnn hnn2
          have htf := PT.take_fit (t := t) (d := dd) (s := PT.last l1) hfit
          obtain ⟨t1, ht1⟩ : ∃ t1, PT.take t dd (PT.last l1) = t1 := ⟨_, rfl⟩
          rw [ht1] at hta htf hm2 hmv2
          have hpu := fun W (h : To 27 W base (.slice (some ⟨g0, 0, none⟩) 9 c) t1) => eput_any g0 c base t1 o dd2 m2 r2 ((k : Int) + 1) W h htf.1 (htf.2.trans h9) hm2 hm22 hmno ⟨by omega, by unfold I64; omega⟩
          rw [show ((k + 1 : Nat) : Int) = (k : Int) + 1 by omega] at hmv2
          have HTA := Lib.hid hta
          have HTF := Lib.hid htf
          have hpf := fun y (h : PT.put t1 dd2 (r2, (k : Int) + 1) = some y) => PT.put_fit htf.1 h
          cases hpt : PT.put t1 dd2 (r2, (k : Int) + 1) with
          | none =>
            rw [hpt] at hpu hmv2
            dsimp only [PT.link3] at hpu hmv2
            have e := hx.symm.trans hmv2
            injection e with e1 e2
            subst e1 e2
            have HPU := Lib.hid hpu
            clear hml hto g his1 hl1 his2 hl2 hwk hn hq hx hbo hbok h82 hok2 hpl hpp hlne hnn hnn2 hen hen1 hix hmv hplr hpl2 hr hk0 hr2 hdd hrr hne hn2 hk22 hl2ne hp2 hbeg htk hb hmv2 hbb hbg hm2 hm22 hmno hta htf ht1 hpu hpt hpf
            go_enter Tryz.func81, Tryz.ntmps81
            go_upto_region 1 with fail
            generalize hw1 : w.alloc (.cells #[.slice (some ⟨g0, 0, none⟩) 9 c, .bool o] 97) = w1 at *
            generalize hgx : w.heap.size = g1 at *
            have HB1 := Lib.hid hb1
            have HX1 := Lib.hid hx1
            have HT := Lib.hid hts1
            have HTO := Lib.hid hto1
            have HML := Lib.hid hml1
            have HGX := Lib.hid hgx
            have HFIT := Lib.hid hfit
            have H9 := Lib.hid h9
            have hz1' : g1 < w1.heap.size := by omega
            obtain ⟨c0, c1⟩ := hx1.work
            clear hb1 hx1 hts1 hto1 hml1 hw1 hgx hfit h9
            go_wp2_with (first | (go_at_call 119; go_loud (refine (HPU.out _ hO7).mono ?_; rintro e w8 ⟨rfl, hO8, hN8⟩)) | (go_at_call 129; go_loud (refine (HTA.out _ (HTO.out.on hB11)).mono ?_; rintro e w7 ⟨rfl, hO7, hN7⟩; have hF12 := hF11.nw hN7 (by omega); clear b0 b1 b2 b3 b4 b5 b6; obtain ⟨⟨b0, b1, b2, b3, b4, b5, b6⟩, _⟩ := hF12.found; have hP12 := hP11.nw hN7 (by omega); clear p0 p1; obtain ⟨p0, p1⟩ := (hP12).place; clear c0 c1; obtain ⟨c0, c1⟩ := ((HX1.out.on hB11).nw hN7 (by omega)).work)) | (go_at_call 128; go_loud (refine (HBG.out U2 U M2 M d2 d _ hs29 hs39 hM2 hM hd2).mono ?_; rintro e w6 ⟨rfl, hB10⟩; have hB11 := hB9.trans (hB10.mono hB9.size); have hF11 := hF9.on hB10; clear b0 b1 b2 b3 b4 b5 b6; obtain ⟨⟨b0, b1, b2, b3, b4, b5, b6⟩, _⟩ := hF11.found; have hP11 := hP9.on hB10; clear p0 p1; obtain ⟨p0, p1⟩ := (hP11).place; clear c0 c1; obtain ⟨c0, c1⟩ := (HX1.out.on hB11).work)) | (go_at_call 127; go_loud (refine (HTK.out _ (HT.out.below hB7)).mono ?_; rintro e w5 ⟨rfl, hB8⟩; have hB9 := hB7.trans (hB8.mono hB7.size); have hF9 := hF7.on hB8; clear b0 b1 b2 b3 b4 b5 b6; obtain ⟨⟨b0, b1, b2, b3, b4, b5, b6⟩, _⟩ := hF9.found; have hP9 := HP.out.on hB8; clear p0 p1; obtain ⟨p0, p1⟩ := (hP9).place; clear c0 c1; obtain ⟨c0, c1⟩ := (HX1.out.on hB9).work; have hs39 := hs37.below hB8; have hs29 := hs27.below hB8; have hs5z := hB8.size; rw [hz4] at hs5z)) | (go_at_call 126; go_loud (refine (HPL.out U2 M2 d2 _ (HML.out.below hB4) (HT.out.below hB4) (hs23.below (al _ _)) hM2 hd2).mono ?_; rintro e w4 ⟨rfl, hB5⟩; have hs4z := hB5.size; rw [hz3] at hs4z; have hB6 := hB4.trans (hB5.mono hB4.size); have hB7 := hB6.alloc hB6.size (.cells #[.int .i64 ((dd2 : Int) + 1), .string r2] 144); have hF7 := (HF.out.on hB5).alloc (.cells #[.int .i64 ((dd2 : Int) + 1), .string r2] 144); clear b0 b1 b2 b3 b4 b5 b6; obtain ⟨⟨b0, b1, b2, b3, b4, b5, b6⟩, _⟩ := hF7.found; have hP := Bx.new w4 144 #[.int .i64 ((dd2 : Int) + 1), .string r2]; obtain ⟨p0, p1⟩ := hP.place; have HP := Lib.hid hP; have hz4 : (w4.alloc (.cells #[.int .i64 ((dd2 : Int) + 1), .string r2] 144)).heap.size = w4.heap.size + 1 := (by simp); clear c0 c1; obtain ⟨c0, c1⟩ := (HX1.out.on hB7).work; have hs37 := ((hs3.below (al _ _)).below hB5).below (al w4 (.cells #[.int .i64 ((dd2 : Int) + 1), .string r2] 144)); have hs27 := ((hs23.below (al _ _)).below hB5).below (al w4 (.cells #[.int .i64 ((dd2 : Int) + 1), .string r2] 144)))) | (go_at_call 124; go_loud (refine HBO.out.mono ?_; rintro e w3 ⟨U, M, d, U2, M2, d2, rfl, ⟨hM, hd, hs3⟩, ⟨hM2, hd2, hs23⟩, hB3⟩; have hB4 := hB3.alloc hB3.size (.cells #[.int .i64 ((dd : Int) + 1), .string (PT.last l1), .int .i64 n.kind, .int .i64 n.mode, .string n.body, .int .i64 ((k : Int) + 1), .slice U M d] 153); have hF := Bx.new w3 153 #[.int .i64 ((dd : Int) + 1), .string (PT.last l1), .int .i64 n.kind, .int .i64 n.mode, .string n.body, .int .i64 ((k : Int) + 1), .slice U M d]; obtain ⟨⟨b0, b1, b2, b3, b4, b5, b6⟩, _⟩ := hF.found; have hz3 : (w3.alloc (.cells #[.int .i64 ((dd : Int) + 1), .string (PT.last l1), .int .i64 n.kind, .int .i64 n.mode, .string n.body, .int .i64 ((k : Int) + 1), .slice U M d] 153)).heap.size = w3.heap.size + 1 := (by simp); have HF := Lib.hid hF; have hs3z := hB3.size; clear c0 c1; obtain ⟨c0, c1⟩ := (HX1.out.on hB4).work)))
            go_ret
            have hgx := HGX.out
            subst hgx
            exact ⟨_, rfl, hO8, fun h => (by cases h), HTF.out.2.trans H9.out, HTF.out.1, ((Nw.of (HB1.out.trans (hB11.mono (by omega)))).trans hN7).trans hN8⟩
          | some y =>
            have hyf := hpf y hpt
            rw [hpt] at hpu hmv2
            dsimp only [PT.link3] at hpu hmv2
            have e := hx.symm.trans hmv2
            injection e with e1 e2
            subst e1 e2
            have HPU := Lib.hid hpu
            have HYF := Lib.hid hyf
            clear hml hto g his1 hl1 his2 hl2 hwk hn hq hx hbo hbok h82 hok2 hpl hpp hlne hnn hnn2 hen hen1 hix hmv hplr hpl2 hr hk0 hr2 hdd hrr hne hn2 hk22 hl2ne hp2 hbeg htk hb hmv2 hbb hbg hm2 hm22 hmno hta htf ht1 hpu hpt hpf hyf
            go_enter Tryz.func81, Tryz.ntmps81
            go_upto_region 1 with fail
            generalize hw1 : w.alloc (.cells #[.slice (some ⟨g0, 0, none⟩) 9 c, .bool o] 97) = w1 at *
            generalize hgx : w.heap.size = g1 at *
            have HB1 := Lib.hid hb1
            have HX1 := Lib.hid hx1
            have HT := Lib.hid hts1
            have HTO := Lib.hid hto1
            have HML := Lib.hid hml1
            have HGX := Lib.hid hgx
            have HFIT := Lib.hid hfit
            have H9 := Lib.hid h9
            have hz1' : g1 < w1.heap.size := by omega
            obtain ⟨c0, c1⟩ := hx1.work
            clear hb1 hx1 hts1 hto1 hml1 hw1 hgx hfit h9
            go_wp2_with (first | (go_at_call 119; go_loud (refine (HPU.out _ hO7).mono ?_; rintro e w8 ⟨rfl, hO8, hN8⟩)) | (go_at_call 129; go_loud (refine (HTA.out _ (HTO.out.on hB11)).mono ?_; rintro e w7 ⟨rfl, hO7, hN7⟩; have hF12 := hF11.nw hN7 (by omega); clear b0 b1 b2 b3 b4 b5 b6; obtain ⟨⟨b0, b1, b2, b3, b4, b5, b6⟩, _⟩ := hF12.found; have hP12 := hP11.nw hN7 (by omega); clear p0 p1; obtain ⟨p0, p1⟩ := (hP12).place; clear c0 c1; obtain ⟨c0, c1⟩ := ((HX1.out.on hB11).nw hN7 (by omega)).work)) | (go_at_call 128; go_loud (refine (HBG.out U2 U M2 M d2 d _ hs29 hs39 hM2 hM hd2).mono ?_; rintro e w6 ⟨rfl, hB10⟩; have hB11 := hB9.trans (hB10.mono hB9.size); have hF11 := hF9.on hB10; clear b0 b1 b2 b3 b4 b5 b6; obtain ⟨⟨b0, b1, b2, b3, b4, b5, b6⟩, _⟩ := hF11.found; have hP11 := hP9.on hB10; clear p0 p1; obtain ⟨p0, p1⟩ := (hP11).place; clear c0 c1; obtain ⟨c0, c1⟩ := (HX1.out.on hB11).work)) | (go_at_call 127; go_loud (refine (HTK.out _ (HT.out.below hB7)).mono ?_; rintro e w5 ⟨rfl, hB8⟩; have hB9 := hB7.trans (hB8.mono hB7.size); have hF9 := hF7.on hB8; clear b0 b1 b2 b3 b4 b5 b6; obtain ⟨⟨b0, b1, b2, b3, b4, b5, b6⟩, _⟩ := hF9.found; have hP9 := HP.out.on hB8; clear p0 p1; obtain ⟨p0, p1⟩ := (hP9).place; clear c0 c1; obtain ⟨c0, c1⟩ := (HX1.out.on hB9).work; have hs39 := hs37.below hB8; have hs29 := hs27.below hB8; have hs5z := hB8.size; rw [hz4] at hs5z)) | (go_at_call 126; go_loud (refine (HPL.out U2 M2 d2 _ (HML.out.below hB4) (HT.out.below hB4) (hs23.below (al _ _)) hM2 hd2).mono ?_; rintro e w4 ⟨rfl, hB5⟩; have hs4z := hB5.size; rw [hz3] at hs4z; have hB6 := hB4.trans (hB5.mono hB4.size); have hB7 := hB6.alloc hB6.size (.cells #[.int .i64 ((dd2 : Int) + 1), .string r2] 144); have hF7 := (HF.out.on hB5).alloc (.cells #[.int .i64 ((dd2 : Int) + 1), .string r2] 144); clear b0 b1 b2 b3 b4 b5 b6; obtain ⟨⟨b0, b1, b2, b3, b4, b5, b6⟩, _⟩ := hF7.found; have hP := Bx.new w4 144 #[.int .i64 ((dd2 : Int) + 1), .string r2]; obtain ⟨p0, p1⟩ := hP.place; have HP := Lib.hid hP; have hz4 : (w4.alloc (.cells #[.int .i64 ((dd2 : Int) + 1), .string r2] 144)).heap.size = w4.heap.size + 1 := (by simp); clear c0 c1; obtain ⟨c0, c1⟩ := (HX1.out.on hB7).work; have hs37 := ((hs3.below (al _ _)).below hB5).below (al w4 (.cells #[.int .i64 ((dd2 : Int) + 1), .string r2] 144)); have hs27 := ((hs23.below (al _ _)).below hB5).below (al w4 (.cells #[.int .i64 ((dd2 : Int) + 1), .string r2] 144)))) | (go_at_call 124; go_loud (refine HBO.out.mono ?_; rintro e w3 ⟨U, M, d, U2, M2, d2, rfl, ⟨hM, hd, hs3⟩, ⟨hM2, hd2, hs23⟩, hB3⟩; have hB4 := hB3.alloc hB3.size (.cells #[.int .i64 ((dd : Int) + 1), .string (PT.last l1), .int .i64 n.kind, .int .i64 n.mode, .string n.body, .int .i64 ((k : Int) + 1), .slice U M d] 153); have hF := Bx.new w3 153 #[.int .i64 ((dd : Int) + 1), .string (PT.last l1), .int .i64 n.kind, .int .i64 n.mode, .string n.body, .int .i64 ((k : Int) + 1), .slice U M d]; obtain ⟨⟨b0, b1, b2, b3, b4, b5, b6⟩, _⟩ := hF.found; have hz3 : (w3.alloc (.cells #[.int .i64 ((dd : Int) + 1), .string (PT.last l1), .int .i64 n.kind, .int .i64 n.mode, .string n.body, .int .i64 ((k : Int) + 1), .slice U M d] 153)).heap.size = w3.heap.size + 1 := (by simp); have HF := Lib.hid hF; have hs3z := hB3.size; clear c0 c1; obtain ⟨c0, c1⟩ := (HX1.out.on hB4).work)))
            go_ret
            have hgx := HGX.out
            subst hgx
            exact ⟨_, rfl, hO8, fun _ => rfl, (HYF.out.2.trans HTF.out.2).trans H9.out, HYF.out.1, ((Nw.of (HB1.out.trans (hB11.mono (by omega)))).trans hN7).trans hN8⟩
  · have hne : ¬ ((dd : Int) + 1 = (dd2 : Int) + 1 ∧ PT.last l1 = r2) := fun h => hdd (by omega)
    have hbeg := g.begins (f := l1) (l := l2) (by rw [hwk]) (by rw [hwk]; simp only [PT.px_succ]; omega) hl2ne (by rw [hp2]) (by rw [hpp, hp2, ← hr2]; intro h; exact hne ⟨by have := h.1; omega, h.2⟩)
    rw [hwk, hp2] at hbeg
    simp only [PT.px_succ] at hbeg
    have hdq : ((dd2 : Int) + 1 == (dd : Int) + 1) = false := by simp; omega
    have hdn : ¬ (dd2 : Int) + 1 = (dd : Int) + 1 := by omega

    have hmv2 := hmv
    rw [if_neg hne] at hmv2
    obtain ⟨b, hb⟩ : ∃ b, PD.has (PT.ents n2) r2 = b := ⟨_, rfl⟩
    have htk := fun W (h : Ts W (.slice (some ⟨g0, 0, none⟩) 9 c) t) => etaken_any (some ⟨g0, 0, none⟩) c t o dd2 n2 r2 W h h9 hn2 hk22
    rw [hb] at htk
    rw [show PT.px ((dd2 : Int) + 1) = dd2 by unfold PT.px; omega, PT.names_at hn2, hb] at hmv2
    have HTK := Lib.hid htk
    cases b with
    | true =>
      rw [if_pos rfl] at hmv2
      have e := hx.symm.trans hmv2
      injection e with e1 e2
      subst e1 e2
      clear hml hto g his1 hl1 his2 hl2 hwk hn hq hx hbo hbok h82 hok2 hpl hpp hlne hnn hnn2 hen hen1 hix hmv hplr hpl2 hr hk0 hr2 hdd hne hn2 hk22 hl2ne hp2 hbeg htk hb hmv2
      go_enter Tryz.func81, Tryz.ntmps81
      go_upto_region 1 with fail
      generalize hw1 : w.alloc (.cells #[.slice (some ⟨g0, 0, none⟩) 9 c, .bool o] 97) = w1 at *
      generalize hgx : w.heap.size = g1 at *
      have HB1 := Lib.hid hb1
      have HX1 := Lib.hid hx1
      have HT := Lib.hid hts1
      have HTO := Lib.hid hto1
      have HML := Lib.hid hml1
      have HGX := Lib.hid hgx
      have HFIT := Lib.hid hfit
      have H9 := Lib.hid h9
      have hz1' : g1 < w1.heap.size := by omega
      obtain ⟨c0, c1⟩ := hx1.work
      clear hb1 hx1 hts1 hto1 hml1 hw1 hgx hfit h9
      go_wp2_with (first | (go_at_call 127; go_loud (refine (HTK.out _ (HT.out.below hB7)).mono ?_; rintro e w5 ⟨rfl, hB8⟩; have hB9 := hB7.trans (hB8.mono hB7.size); have hF9 := hF7.on hB8; clear b0 b1 b2 b3 b4 b5 b6; obtain ⟨⟨b0, b1, b2, b3, b4, b5, b6⟩, _⟩ := hF9.found; have hP9 := HP.out.on hB8; clear p0 p1; obtain ⟨p0, p1⟩ := (hP9).place; clear c0 c1; obtain ⟨c0, c1⟩ := (HX1.out.on hB9).work; have hs39 := hs37.below hB8; have hs29 := hs27.below hB8; have hs5z := hB8.size; rw [hz4] at hs5z)) | (go_at_call 126; go_loud (refine (HPL.out U2 M2 d2 _ (HML.out.below hB4) (HT.out.below hB4) (hs23.below (al _ _)) hM2 hd2).mono ?_; rintro e w4 ⟨rfl, hB5⟩; have hs4z := hB5.size; rw [hz3] at hs4z; have hB6 := hB4.trans (hB5.mono hB4.size); have hB7 := hB6.alloc hB6.size (.cells #[.int .i64 ((dd2 : Int) + 1), .string r2] 144); have hF7 := (HF.out.on hB5).alloc (.cells #[.int .i64 ((dd2 : Int) + 1), .string r2] 144); clear b0 b1 b2 b3 b4 b5 b6; obtain ⟨⟨b0, b1, b2, b3, b4, b5, b6⟩, _⟩ := hF7.found; have hP := Bx.new w4 144 #[.int .i64 ((dd2 : Int) + 1), .string r2]; obtain ⟨p0, p1⟩ := hP.place; have HP := Lib.hid hP; have hz4 : (w4.alloc (.cells #[.int .i64 ((dd2 : Int) + 1), .string r2] 144)).heap.size = w4.heap.size + 1 := (by simp); clear c0 c1; obtain ⟨c0, c1⟩ := (HX1.out.on hB7).work; have hs37 := ((hs3.below (al _ _)).below hB5).below (al w4 (.cells #[.int .i64 ((dd2 : Int) + 1), .string r2] 144)); have hs27 := ((hs23.below (al _ _)).below hB5).below (al w4 (.cells #[.int .i64 ((dd2 : Int) + 1), .string r2] 144)))) | (go_at_call 124; go_loud (refine HBO.out.mono ?_; rintro e w3 ⟨U, M, d, U2, M2, d2, rfl, ⟨hM, hd, hs3⟩, ⟨hM2, hd2, hs23⟩, hB3⟩; have hB4 := hB3.alloc hB3.size (.cells #[.int .i64 ((dd : Int) + 1), .string (PT.last l1), .int .i64 n.kind, .int .i64 n.mode, .string n.body, .int .i64 ((k : Int) + 1), .slice U M d] 153); have hF := Bx.new w3 153 #[.int .i64 ((dd : Int) + 1), .string (PT.last l1), .int .i64 n.kind, .int .i64 n.mode, .string n.body, .int .i64 ((k : Int) + 1), .slice U M d]; obtain ⟨⟨b0, b1, b2, b3, b4, b5, b6⟩, _⟩ := hF.found; have hz3 : (w3.alloc (.cells #[.int .i64 ((dd : Int) + 1), .string (PT.last l1), .int .i64 n.kind, .int .i64 n.mode, .string n.body, .int .i64 ((k : Int) + 1), .slice U M d] 153)).heap.size = w3.heap.size + 1 := (by simp); have HF := Lib.hid hF; have hs3z := hB3.size; clear c0 c1; obtain ⟨c0, c1⟩ := (HX1.out.on hB4).work)))
      go_ret
      have hgx := HGX.out
      subst hgx
      exact ⟨_, rfl, HTO.out.on hB9, fun h => (by cases h), H9.out, HFIT.out, Nw.of (HB1.out.trans (hB9.mono (by omega)))⟩
    | false =>
      rw [if_neg (by decide)] at hmv2
      obtain ⟨bb, hbb⟩ : ∃ bb, decide (l2.take l1.length = l1) = bb := ⟨_, rfl⟩
      have hbg := fun U U' M M' d d' W (h : Ss W (.slice U M d) l2) (h' : Ss W (.slice U' M' d') l1) (hM : l2.length = M) (hM' : l1.length = M') (hd : M ≤ d) => ebegins_any U U' M M' d d' l2 l1 W h h' hM hM' hd
      rw [hbb] at hbg
      have HBG := Lib.hid hbg
      cases bb with
      | true =>
        rw [if_pos (hbeg.1 (of_decide_eq_true hbb))] at hmv2
        have e := hx.symm.trans hmv2
        injection e with e1 e2
        subst e1 e2
        clear hml hto g his1 hl1 his2 hl2 hwk hn hq hx hbo hbok h82 hok2 hpl hpp hlne hnn hnn2 hen hen1 hix hmv hplr hpl2 hr hk0 hr2 hdd hne hn2 hk22 hl2ne hp2 hbeg htk hb hmv2 hbb hbg
        go_enter Tryz.func81, Tryz.ntmps81
        go_upto_region 1 with fail
        generalize hw1 : w.alloc (.cells #[.slice (some ⟨g0, 0, none⟩) 9 c, .bool o] 97) = w1 at *
        generalize hgx : w.heap.size = g1 at *
        have HB1 := Lib.hid hb1
        have HX1 := Lib.hid hx1
        have HT := Lib.hid hts1
        have HTO := Lib.hid hto1
        have HML := Lib.hid hml1
        have HGX := Lib.hid hgx
        have HFIT := Lib.hid hfit
        have H9 := Lib.hid h9
        have hz1' : g1 < w1.heap.size := by omega
        obtain ⟨c0, c1⟩ := hx1.work
        clear hb1 hx1 hts1 hto1 hml1 hw1 hgx hfit h9
        go_wp2_with (first | (go_at_call 128; go_loud (refine (HBG.out U2 U M2 M d2 d _ hs29 hs39 hM2 hM hd2).mono ?_; rintro e w6 ⟨rfl, hB10⟩; have hB11 := hB9.trans (hB10.mono hB9.size); have hF11 := hF9.on hB10; clear b0 b1 b2 b3 b4 b5 b6; obtain ⟨⟨b0, b1, b2, b3, b4, b5, b6⟩, _⟩ := hF11.found; have hP11 := hP9.on hB10; clear p0 p1; obtain ⟨p0, p1⟩ := (hP11).place; clear c0 c1; obtain ⟨c0, c1⟩ := (HX1.out.on hB11).work)) | (go_at_call 127; go_loud (refine (HTK.out _ (HT.out.below hB7)).mono ?_; rintro e w5 ⟨rfl, hB8⟩; have hB9 := hB7.trans (hB8.mono hB7.size); have hF9 := hF7.on hB8; clear b0 b1 b2 b3 b4 b5 b6; obtain ⟨⟨b0, b1, b2, b3, b4, b5, b6⟩, _⟩ := hF9.found; have hP9 := HP.out.on hB8; clear p0 p1; obtain ⟨p0, p1⟩ := (hP9).place; clear c0 c1; obtain ⟨c0, c1⟩ := (HX1.out.on hB9).work; have hs39 := hs37.below hB8; have hs29 := hs27.below hB8; have hs5z := hB8.size; rw [hz4] at hs5z)) | (go_at_call 126; go_loud (refine (HPL.out U2 M2 d2 _ (HML.out.below hB4) (HT.out.below hB4) (hs23.below (al _ _)) hM2 hd2).mono ?_; rintro e w4 ⟨rfl, hB5⟩; have hs4z := hB5.size; rw [hz3] at hs4z; have hB6 := hB4.trans (hB5.mono hB4.size); have hB7 := hB6.alloc hB6.size (.cells #[.int .i64 ((dd2 : Int) + 1), .string r2] 144); have hF7 := (HF.out.on hB5).alloc (.cells #[.int .i64 ((dd2 : Int) + 1), .string r2] 144); clear b0 b1 b2 b3 b4 b5 b6; obtain ⟨⟨b0, b1, b2, b3, b4, b5, b6⟩, _⟩ := hF7.found; have hP := Bx.new w4 144 #[.int .i64 ((dd2 : Int) + 1), .string r2]; obtain ⟨p0, p1⟩ := hP.place; have HP := Lib.hid hP; have hz4 : (w4.alloc (.cells #[.int .i64 ((dd2 : Int) + 1), .string r2] 144)).heap.size = w4.heap.size + 1 := (by simp); clear c0 c1; obtain ⟨c0, c1⟩ := (HX1.out.on hB7).work; have hs37 := ((hs3.below (al _ _)).below hB5).below (al w4 (.cells #[.int .i64 ((dd2 : Int) + 1), .string r2] 144)); have hs27 := ((hs23.below (al _ _)).below hB5).below (al w4 (.cells #[.int .i64 ((dd2 : Int) + 1), .string r2] 144)))) | (go_at_call 124; go_loud (refine HBO.out.mono ?_; rintro e w3 ⟨U, M, d, U2, M2, d2, rfl, ⟨hM, hd, hs3⟩, ⟨hM2, hd2, hs23⟩, hB3⟩; have hB4 := hB3.alloc hB3.size (.cells #[.int .i64 ((dd : Int) + 1), .string (PT.last l1), .int .i64 n.kind, .int .i64 n.mode, .string n.body, .int .i64 ((k : Int) + 1), .slice U M d] 153); have hF := Bx.new w3 153 #[.int .i64 ((dd : Int) + 1), .string (PT.last l1), .int .i64 n.kind, .int .i64 n.mode, .string n.body, .int .i64 ((k : Int) + 1), .slice U M d]; obtain ⟨⟨b0, b1, b2, b3, b4, b5, b6⟩, _⟩ := hF.found; have hz3 : (w3.alloc (.cells #[.int .i64 ((dd : Int) + 1), .string (PT.last l1), .int .i64 n.kind, .int .i64 n.mode, .string n.body, .int .i64 ((k : Int) + 1), .slice U M d] 153)).heap.size = w3.heap.size + 1 := (by simp); have HF := Lib.hid hF; have hs3z := hB3.size; clear c0 c1; obtain ⟨c0, c1⟩ := (HX1.out.on hB4).work)))
        go_ret
        have hgx := HGX.out
        subst hgx
        exact ⟨_, rfl, HTO.out.on hB11, fun h => (by cases h), H9.out, HFIT.out, Nw.of (HB1.out.trans (hB11.mono (by omega)))⟩
      | false =>
        rw [if_neg (fun h => by have := hbeg.2 h; rw [decide_eq_true this] at hbb; cases hbb)] at hmv2
        obtain ⟨m2, hm2, hm22, hmno⟩ := PT.take_to (r := r2) g hnn hen hn2 hk22 hb
        rw [hen1] at hm2
        have hta := fun W (h : To 27 W base (.slice (some ⟨g0, 0, none⟩) 9 c) t) => etake_any g0 c base t o dd nn (PT.last l1) W h hfit h9 hnn hnn2
        have htf := PT.take_fit (t := t) (d := dd) (s := PT.last l1) hfit
        obtain ⟨t1, ht1⟩ : ∃ t1, PT.take t dd (PT.last l1) = t1 := ⟨_, rfl⟩
        rw [ht1] at hta htf hm2 hmv2
        have hpu := fun W (h : To 27 W base (.slice (some ⟨g0, 0, none⟩) 9 c) t1) => eput_any g0 c base t1 o dd2 m2 r2 ((k : Int) + 1) W h htf.1 (htf.2.trans h9) hm2 hm22 hmno ⟨by omega, by unfold I64; omega⟩
        rw [show ((k + 1 : Nat) : Int) = (k : Int) + 1 by omega] at hmv2
        have HTA := Lib.hid hta
        have HTF := Lib.hid htf
        have hpf := fun y (h : PT.put t1 dd2 (r2, (k : Int) + 1) = some y) => PT.put_fit htf.1 h
        cases hpt : PT.put t1 dd2 (r2, (k : Int) + 1) with
        | none =>
          rw [hpt] at hpu hmv2
          dsimp only [PT.link3] at hpu hmv2
          have e := hx.symm.trans hmv2
          injection e with e1 e2
          subst e1 e2
          have HPU := Lib.hid hpu
          clear hml hto g his1 hl1 his2 hl2 hwk hn hq hx hbo hbok h82 hok2 hpl hpp hlne hnn hnn2 hen hen1 hix hmv hplr hpl2 hr hk0 hr2 hdd hne hn2 hk22 hl2ne hp2 hbeg htk hb hmv2 hbb hbg hm2 hm22 hmno hta htf ht1 hpu hpt hpf
          go_enter Tryz.func81, Tryz.ntmps81
          go_upto_region 1 with fail
          generalize hw1 : w.alloc (.cells #[.slice (some ⟨g0, 0, none⟩) 9 c, .bool o] 97) = w1 at *
          generalize hgx : w.heap.size = g1 at *
          have HB1 := Lib.hid hb1
          have HX1 := Lib.hid hx1
          have HT := Lib.hid hts1
          have HTO := Lib.hid hto1
          have HML := Lib.hid hml1
          have HGX := Lib.hid hgx
          have HFIT := Lib.hid hfit
          have H9 := Lib.hid h9
          have hz1' : g1 < w1.heap.size := by omega
          obtain ⟨c0, c1⟩ := hx1.work
          clear hb1 hx1 hts1 hto1 hml1 hw1 hgx hfit h9
          go_wp2_with (first | (go_at_call 119; go_loud (refine (HPU.out _ hO7).mono ?_; rintro e w8 ⟨rfl, hO8, hN8⟩)) | (go_at_call 129; go_loud (refine (HTA.out _ (HTO.out.on hB11)).mono ?_; rintro e w7 ⟨rfl, hO7, hN7⟩; have hF12 := hF11.nw hN7 (by omega); clear b0 b1 b2 b3 b4 b5 b6; obtain ⟨⟨b0, b1, b2, b3, b4, b5, b6⟩, _⟩ := hF12.found; have hP12 := hP11.nw hN7 (by omega); clear p0 p1; obtain ⟨p0, p1⟩ := (hP12).place; clear c0 c1; obtain ⟨c0, c1⟩ := ((HX1.out.on hB11).nw hN7 (by omega)).work)) | (go_at_call 128; go_loud (refine (HBG.out U2 U M2 M d2 d _ hs29 hs39 hM2 hM hd2).mono ?_; rintro e w6 ⟨rfl, hB10⟩; have hB11 := hB9.trans (hB10.mono hB9.size); have hF11 := hF9.on hB10; clear b0 b1 b2 b3 b4 b5 b6; obtain ⟨⟨b0, b1, b2, b3, b4, b5, b6⟩, _⟩ := hF11.found; have hP11 := hP9.on hB10; clear p0 p1; obtain ⟨p0, p1⟩ := (hP11).place; clear c0 c1; obtain ⟨c0, c1⟩ := (HX1.out.on hB11).work)) | (go_at_call 127; go_loud (refine (HTK.out _ (HT.out.below hB7)).mono ?_; rintro e w5 ⟨rfl, hB8⟩; have hB9 := hB7.trans (hB8.mono hB7.size); have hF9 := hF7.on hB8; clear b0 b1 b2 b3 b4 b5 b6; obtain ⟨⟨b0, b1, b2, b3, b4, b5, b6⟩, _⟩ := hF9.found; have hP9 := HP.out.on hB8; clear p0 p1; obtain ⟨p0, p1⟩ := (hP9).place; clear c0 c1; obtain ⟨c0, c1⟩ := (HX1.out.on hB9).work; have hs39 := hs37.below hB8; have hs29 := hs27.below hB8; have hs5z := hB8.size; rw [hz4] at hs5z)) | (go_at_call 126; go_loud (refine (HPL.out U2 M2 d2 _ (HML.out.below hB4) (HT.out.below hB4) (hs23.below (al _ _)) hM2 hd2).mono ?_; rintro e w4 ⟨rfl, hB5⟩; have hs4z := hB5.size; rw [hz3] at hs4z; have hB6 := hB4.trans (hB5.mono hB4.size); have hB7 := hB6.alloc hB6.size (.cells #[.int .i64 ((dd2 : Int) + 1), .string r2] 144); have hF7 := (HF.out.on hB5).alloc (.cells #[.int .i64 ((dd2 : Int) + 1), .string r2] 144); clear b0 b1 b2 b3 b4 b5 b6; obtain ⟨⟨b0, b1, b2, b3, b4, b5, b6⟩, _⟩ := hF7.found; have hP := Bx.new w4 144 #[.int .i64 ((dd2 : Int) + 1), .string r2]; obtain ⟨p0, p1⟩ := hP.place; have HP := Lib.hid hP; have hz4 : (w4.alloc (.cells #[.int .i64 ((dd2 : Int) + 1), .string r2] 144)).heap.size = w4.heap.size + 1 := (by simp); clear c0 c1; obtain ⟨c0, c1⟩ := (HX1.out.on hB7).work; have hs37 := ((hs3.below (al _ _)).below hB5).below (al w4 (.cells #[.int .i64 ((dd2 : Int) + 1), .string r2] 144)); have hs27 := ((hs23.below (al _ _)).below hB5).below (al w4 (.cells #[.int .i64 ((dd2 : Int) + 1), .string r2] 144)))) | (go_at_call 124; go_loud (refine HBO.out.mono ?_; rintro e w3 ⟨U, M, d, U2, M2, d2, rfl, ⟨hM, hd, hs3⟩, ⟨hM2, hd2, hs23⟩, hB3⟩; have hB4 := hB3.alloc hB3.size (.cells #[.int .i64 ((dd : Int) + 1), .string (PT.last l1), .int .i64 n.kind, .int .i64 n.mode, .string n.body, .int .i64 ((k : Int) + 1), .slice U M d] 153); have hF := Bx.new w3 153 #[.int .i64 ((dd : Int) + 1), .string (PT.last l1), .int .i64 n.kind, .int .i64 n.mode, .string n.body, .int .i64 ((k : Int) + 1), .slice U M d]; obtain ⟨⟨b0, b1, b2, b3, b4, b5, b6⟩, _⟩ := hF.found; have hz3 : (w3.alloc (.cells #[.int .i64 ((dd : Int) + 1), .string (PT.last l1), .int .i64 n.kind, .int .i64 n.mode, .string n.body, .int .i64 ((k : Int) + 1), .slice U M d] 153)).heap.size = w3.heap.size + 1 := (by simp); have HF := Lib.hid hF; have hs3z := hB3.size; clear c0 c1; obtain ⟨c0, c1⟩ := (HX1.out.on hB4).work)))
          go_ret
          have hgx := HGX.out
          subst hgx
          exact ⟨_, rfl, hO8, fun h => (by cases h), HTF.out.2.trans H9.out, HTF.out.1, ((Nw.of (HB1.out.trans (hB11.mono (by omega)))).trans hN7).trans hN8⟩
        | some y =>
          have hyf := hpf y hpt
          rw [hpt] at hpu hmv2
          dsimp only [PT.link3] at hpu hmv2
          have e := hx.symm.trans hmv2
          injection e with e1 e2
          subst e1 e2
          have HPU := Lib.hid hpu
          have HYF := Lib.hid hyf
          clear hml hto g his1 hl1 his2 hl2 hwk hn hq hx hbo hbok h82 hok2 hpl hpp hlne hnn hnn2 hen hen1 hix hmv hplr hpl2 hr hk0 hr2 hdd hne hn2 hk22 hl2ne hp2 hbeg htk hb hmv2 hbb hbg hm2 hm22 hmno hta htf ht1 hpu hpt hpf hyf
          go_enter Tryz.func81, Tryz.ntmps81
          go_upto_region 1 with fail
          generalize hw1 : w.alloc (.cells #[.slice (some ⟨g0, 0, none⟩) 9 c, .bool o] 97) = w1 at *
          generalize hgx : w.heap.size = g1 at *
          have HB1 := Lib.hid hb1
          have HX1 := Lib.hid hx1
          have HT := Lib.hid hts1
          have HTO := Lib.hid hto1
          have HML := Lib.hid hml1
          have HGX := Lib.hid hgx
          have HFIT := Lib.hid hfit
          have H9 := Lib.hid h9
          have hz1' : g1 < w1.heap.size := by omega
          obtain ⟨c0, c1⟩ := hx1.work
          clear hb1 hx1 hts1 hto1 hml1 hw1 hgx hfit h9
          go_wp2_with (first | (go_at_call 119; go_loud (refine (HPU.out _ hO7).mono ?_; rintro e w8 ⟨rfl, hO8, hN8⟩)) | (go_at_call 129; go_loud (refine (HTA.out _ (HTO.out.on hB11)).mono ?_; rintro e w7 ⟨rfl, hO7, hN7⟩; have hF12 := hF11.nw hN7 (by omega); clear b0 b1 b2 b3 b4 b5 b6; obtain ⟨⟨b0, b1, b2, b3, b4, b5, b6⟩, _⟩ := hF12.found; have hP12 := hP11.nw hN7 (by omega); clear p0 p1; obtain ⟨p0, p1⟩ := (hP12).place; clear c0 c1; obtain ⟨c0, c1⟩ := ((HX1.out.on hB11).nw hN7 (by omega)).work)) | (go_at_call 128; go_loud (refine (HBG.out U2 U M2 M d2 d _ hs29 hs39 hM2 hM hd2).mono ?_; rintro e w6 ⟨rfl, hB10⟩; have hB11 := hB9.trans (hB10.mono hB9.size); have hF11 := hF9.on hB10; clear b0 b1 b2 b3 b4 b5 b6; obtain ⟨⟨b0, b1, b2, b3, b4, b5, b6⟩, _⟩ := hF11.found; have hP11 := hP9.on hB10; clear p0 p1; obtain ⟨p0, p1⟩ := (hP11).place; clear c0 c1; obtain ⟨c0, c1⟩ := (HX1.out.on hB11).work)) | (go_at_call 127; go_loud (refine (HTK.out _ (HT.out.below hB7)).mono ?_; rintro e w5 ⟨rfl, hB8⟩; have hB9 := hB7.trans (hB8.mono hB7.size); have hF9 := hF7.on hB8; clear b0 b1 b2 b3 b4 b5 b6; obtain ⟨⟨b0, b1, b2, b3, b4, b5, b6⟩, _⟩ := hF9.found; have hP9 := HP.out.on hB8; clear p0 p1; obtain ⟨p0, p1⟩ := (hP9).place; clear c0 c1; obtain ⟨c0, c1⟩ := (HX1.out.on hB9).work; have hs39 := hs37.below hB8; have hs29 := hs27.below hB8; have hs5z := hB8.size; rw [hz4] at hs5z)) | (go_at_call 126; go_loud (refine (HPL.out U2 M2 d2 _ (HML.out.below hB4) (HT.out.below hB4) (hs23.below (al _ _)) hM2 hd2).mono ?_; rintro e w4 ⟨rfl, hB5⟩; have hs4z := hB5.size; rw [hz3] at hs4z; have hB6 := hB4.trans (hB5.mono hB4.size); have hB7 := hB6.alloc hB6.size (.cells #[.int .i64 ((dd2 : Int) + 1), .string r2] 144); have hF7 := (HF.out.on hB5).alloc (.cells #[.int .i64 ((dd2 : Int) + 1), .string r2] 144); clear b0 b1 b2 b3 b4 b5 b6; obtain ⟨⟨b0, b1, b2, b3, b4, b5, b6⟩, _⟩ := hF7.found; have hP := Bx.new w4 144 #[.int .i64 ((dd2 : Int) + 1), .string r2]; obtain ⟨p0, p1⟩ := hP.place; have HP := Lib.hid hP; have hz4 : (w4.alloc (.cells #[.int .i64 ((dd2 : Int) + 1), .string r2] 144)).heap.size = w4.heap.size + 1 := (by simp); clear c0 c1; obtain ⟨c0, c1⟩ := (HX1.out.on hB7).work; have hs37 := ((hs3.below (al _ _)).below hB5).below (al w4 (.cells #[.int .i64 ((dd2 : Int) + 1), .string r2] 144)); have hs27 := ((hs23.below (al _ _)).below hB5).below (al w4 (.cells #[.int .i64 ((dd2 : Int) + 1), .string r2] 144)))) | (go_at_call 124; go_loud (refine HBO.out.mono ?_; rintro e w3 ⟨U, M, d, U2, M2, d2, rfl, ⟨hM, hd, hs3⟩, ⟨hM2, hd2, hs23⟩, hB3⟩; have hB4 := hB3.alloc hB3.size (.cells #[.int .i64 ((dd : Int) + 1), .string (PT.last l1), .int .i64 n.kind, .int .i64 n.mode, .string n.body, .int .i64 ((k : Int) + 1), .slice U M d] 153); have hF := Bx.new w3 153 #[.int .i64 ((dd : Int) + 1), .string (PT.last l1), .int .i64 n.kind, .int .i64 n.mode, .string n.body, .int .i64 ((k : Int) + 1), .slice U M d]; obtain ⟨⟨b0, b1, b2, b3, b4, b5, b6⟩, _⟩ := hF.found; have hz3 : (w3.alloc (.cells #[.int .i64 ((dd : Int) + 1), .string (PT.last l1), .int .i64 n.kind, .int .i64 n.mode, .string n.body, .int .i64 ((k : Int) + 1), .slice U M d] 153)).heap.size = w3.heap.size + 1 := (by simp); have HF := Lib.hid hF; have hs3z := hB3.size; clear c0 c1; obtain ⟨c0, c1⟩ := (HX1.out.on hB4).work)))
          go_ret
          have hgx := HGX.out
          subst hgx
          exact ⟨_, rfl, hO8, fun _ => rfl, (HYF.out.2.trans HTF.out.2).trans H9.out, HYF.out.1, ((Nw.of (HB1.out.trans (hB11.mono (by omega)))).trans hN7).trans hN8⟩
theorem emove_any (g0 c base : Nat) (t : List PT.N) (o : Bool) (s1 s2 : ByteArray) (w : World) (hml : Ml w) (hto : To 27 w base (.slice (some ⟨g0, 0, none⟩) 9 c) t) (g : PT.Fine t) (hs1 : s1.size ≤ 65535) (hs2 : s2.size ≤ 65535) :
    Calls Tryz.prog 81 #[.agg #[.slice (some ⟨g0, 0, none⟩) 9 c, .bool o], .string s1, .string s2] w fun e w' => ∃ t', e = .returned (.int .i64 (PT.move t (PT.pp o s1) (PT.pp o s2)).2) ∧ To 27 w' base (.slice (some ⟨g0, 0, none⟩) 9 c) t' ∧ ((PT.move t (PT.pp o s1) (PT.pp o s2)).2 = 0 → t' = (PT.move t (PT.pp o s1) (PT.pp o s2)).1) ∧ t'.length = 9 ∧ FitN t' ∧ Nw g0 w w' := by
  have hall : ∀ er, er ≠ 0 → PT.move t (PT.pp o s1) (PT.pp o s2) = (t, er) → (∀ W, Ml W → Ts W (.slice (some ⟨g0, 0, none⟩) 9 c) t → Calls Tryz.prog 124 #[.agg #[.slice (some ⟨g0, 0, none⟩) 9 c, .bool o], .string s1, .string s2] W fun e w' => ∃ L, e = .returned (.tuple #[fz, L, .int .i64 er]) ∧ Below W.heap.size W w') → Calls Tryz.prog 81 #[.agg #[.slice (some ⟨g0, 0, none⟩) 9 c, .bool o], .string s1, .string s2] w fun e w' => ∃ t', e = .returned (.int .i64 (PT.move t (PT.pp o s1) (PT.pp o s2)).2) ∧ To 27 w' base (.slice (some ⟨g0, 0, none⟩) 9 c) t' ∧ ((PT.move t (PT.pp o s1) (PT.pp o s2)).2 = 0 → t' = (PT.move t (PT.pp o s1) (PT.pp o s2)).1) ∧ t'.length = 9 ∧ FitN t' ∧ Nw g0 w w' := by
    intro er hz hl hb
    rw [hl]
    refine (emove_bad g0 c base t o s1 s2 w hml hto g hs1 hs2 er hz hb).mono ?_
    rintro e w' ⟨rfl, h1, h2⟩
    exact ⟨t, rfl, h1, fun h => absurd h hz, g.len, g.fit, h2⟩
  cases his2 : PN.is o s2 with
  | false =>
    refine hall 1 (by decide) (by rw [PT.pp_no his2]; cases PT.pp o s1 <;> rfl) fun W hm h => eboth_bad _ c t o s1 s2 W hm h g hs1 hs2 his2
  | true =>
    by_cases hf : (PT.find t (PT.pp o s1)).2 = 0
    · cases his1 : PN.is o s1 with
      | false => rw [PT.pp_no his1] at hf; cases hf
      | true =>
        rw [PT.pp_yes his1] at hf
        obtain ⟨k, n, hwk, _, hn, _, _⟩ := g.walk_yes (show (PT.walk t 0 (PN.pt o s1)).2 = 0 from hf)
        rw [PT.pp_yes his1, PT.pp_yes his2]
        exact emove_yes g0 c base t o s1 s2 w hml hto g hs1 hs2 _ _ his1 rfl his2 rfl k n hwk hn
    · refine hall _ hf ?_ fun W hm h => eboth_no _ c t o s1 s2 W hm h g hs1 hs2 _ his2 rfl _ rfl hf
      rw [PT.pp_yes his2]
      cases hp : PT.pp o s1 with
      | none => rfl
      | some f =>
        rw [hp] at hf
        show PT.move2 t f _ = _
        unfold PT.move2
        rw [if_pos (show (PT.walk t 0 f).2 ≠ 0 from hf)]
        rfl
end Go.Proofs.YtdnobplhfbgbaaaGreatDoor
