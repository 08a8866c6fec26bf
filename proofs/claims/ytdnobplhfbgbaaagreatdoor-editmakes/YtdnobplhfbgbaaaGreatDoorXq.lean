/-
  Contract: create of edit.
-/
import Derived.Test.YtdnobplhfbgbaaaGreatDoorXp
import Derived.Test.YtdnobplhfbgbaaaGreatDoorXo
namespace Go.Proofs.YtdnobplhfbgbaaaGreatDoor
open Go.RowKit Go.Joins

namespace PT
/-- Make, by the place and the number. -/
theorem make2_fre {t : List N} {l : List ByteArray} {kd md ino : Int} (hi : 0 ≤ ino) : make2 t l kd md ino = if (fre t l).2.2 ≠ 0 then (t, (fre t l).2.2) else if (nbr t ino).2 ≠ 0 then (t, (nbr t ino).2) else make3 t kd md (nbr t ino).1 (put t (px (fre t l).1) ((fre t l).2.1, (nbr t ino).1)) := by
  unfold make2 fre plc
  by_cases h1 : l = []
  · rw [if_pos h1, if_pos h1]; simp
  · rw [if_neg h1, if_neg h1]
    by_cases h2 : (place t l).2 ≠ 0
    · rw [if_pos h2, if_pos h2]; simp [h2]
    · rw [if_neg h2, if_neg h2]
      by_cases h3 : PD.has (names t (px (place t l).1)) (last l) = true
      · simp [h3]
      · simp only [h3, ne_eq, not_true, if_false]
        unfold nbr numOf
        by_cases h4 : ino = 0
        · subst h4
          by_cases h5 : free t 0 = 0
          · simp [h5]
          · simp [h5]
        · have h6 : 0 < ino := by omega
          by_cases h5 : kindAt t (px ino) = 0
          · simp [h4, h5]
          · simp [h4, h5, h6]
theorem nbr_yes {t : List N} {ino m : Int} (h9 : t.length = 9) (hi : 0 ≤ ino ∧ ino ≤ 9) (h : nbr t ino = (m, 0)) : ∃ j : Nat, m = (j : Int) + 1 ∧ j < 9 := by
  unfold nbr at h
  by_cases h4 : ino = 0
  · rw [if_pos h4] at h
    by_cases h5 : free t 0 = 0
    · rw [if_pos h5] at h; cases h
    · obtain ⟨j, n, h1, _, _, h2⟩ := free_yes h5
      injection h with h3 _
      exact ⟨j, by rw [← h3, h1]; omega, by omega⟩
  · rw [if_neg h4] at h
    split at h
    · cases h
    · injection h with h3 _
      exact ⟨(ino - 1).toNat, by omega, by omega⟩
theorem bad_may (kd md ino : Int) : badMake kd md ino = (!((decide (kd = 1) || decide (kd = 2)) && (decide (0 ≤ md) && decide (md ≤ 255))) || (decide (ino < 0) || decide (9 < ino))) := by
  unfold badMake
  rw [show decide (md < 0) = !decide (0 ≤ md) by by_cases h : md < 0 <;> simp [h] <;> omega, show decide (255 < md) = !decide (md ≤ 255) by by_cases h : md ≤ 255 <;> simp [h] <;> omega]
  cases decide (kd = 1) <;> cases decide (kd = 2) <;> cases decide (0 ≤ md) <;> cases decide (md ≤ 255) <;> rfl
end PT
set_option maxRecDepth 100000 in
set_option maxHeartbeats 4000000 in
theorem ecreate_no (g0 c base : Nat) (t : List PT.N) (o : Bool) (s : ByteArray) (kd md ino : Int) (w : World) (hml : Ml w) (hto : To 27 w base (.slice (some ⟨g0, 0, none⟩) 9 c) t) (g : PT.Fine t) (hs : s.size ≤ 65535) (hbad : PN.is o s = false) : Calls Tryz.prog 71 #[.agg #[.slice (some ⟨g0, 0, none⟩) 9 c, .bool o], .string s, .agg #[.int .i64 kd, .int .i64 md, .string { data := #[] }], .int .i64 ino] w fun e w' => e = .returned (.int .i64 1) ∧ Nw g0 w w' := by
  have hb1 := al w (.cells #[.slice (some ⟨g0, 0, none⟩) 9 c, .bool o] 97)
  have hx1 := Bx.new w 97 #[.slice (some ⟨g0, 0, none⟩) 9 c, .bool o]
  have hz1 : (w.alloc (.cells #[.slice (some ⟨g0, 0, none⟩) 9 c, .bool o] 97)).heap.size = w.heap.size + 1 := by simp
  have hb2 := hb1.alloc hb1.size (.cells #[.int .i64 kd, .int .i64 md, .string { data := #[] }] 94)
  have hx2 := Bx.new (w.alloc (.cells #[.slice (some ⟨g0, 0, none⟩) 9 c, .bool o] 97)) 94 #[.int .i64 kd, .int .i64 md, .string { data := #[] }]
  have hx1 := hx1.alloc (.cells #[.int .i64 kd, .int .i64 md, .string { data := #[] }] 94)
  rw [hz1] at hx2
  have hml2 := hml.below hb2
  have hto2 := hto.on hb2
  have hfit := g.fit
  have h9 := g.len
  have hts2 := hto2.row hfit
  have hg0 : g0 < w.heap.size := by obtain ⟨cur, hbr, _⟩ := hto.box (by decide); exact hbr.lt
  have hz2 : ((w.alloc (.cells #[.slice (some ⟨g0, 0, none⟩) 9 c, .bool o] 97)).alloc (.cells #[.int .i64 kd, .int .i64 md, .string { data := #[] }] 94)).heap.size = w.heap.size + 2 := by simp
  have hpa := fun W (hm : Ml W) => parts_any s o W hm hs
  rw [hbad] at hpa
  have hp := hpa _ hml2
  clear hz1 hml hto hpa hbad g
  go_enter Tryz.func71, Tryz.ntmps71
  go_upto_region 1 with fail
  generalize hw2 : (w.alloc (.cells #[.slice (some ⟨g0, 0, none⟩) 9 c, .bool o] 97)).alloc (.cells #[.int .i64 kd, .int .i64 md, .string { data := #[] }] 94) = w2 at *
  generalize hgx : w.heap.size = g1 at *
  have HB2 := Lib.hid hb2
  have HX1 := Lib.hid hx1
  have HX2 := Lib.hid hx2
  have HT := Lib.hid hts2
  have HTO := Lib.hid hto2
  have HML := Lib.hid hml2
  have HGX := Lib.hid hgx
  have HFIT := Lib.hid hfit
  have H9 := Lib.hid h9
  obtain ⟨c0, c1⟩ := hx1.work
  obtain ⟨n0, n1, n2⟩ := hx2.tri94
  clear hb2 hx1 hx2 hts2 hto2 hml2 hw2 hgx hfit h9
  go_wp2_with (go_at_call 62; go_loud (refine hp.mono ?_; rintro e w3 ⟨v3, rfl, hO3, hB3⟩))
  go_ret
  have hgx := HGX.out
  subst hgx
  exact ⟨rfl, Nw.of (HB2.out.trans (hB3.mono (by omega)))⟩
set_option maxRecDepth 100000 in
set_option maxHeartbeats 4000000 in
theorem ecreate_bad (g0 c base : Nat) (t : List PT.N) (o : Bool) (s : ByteArray) (kd md ino : Int) (w : World) (hml : Ml w) (hto : To 27 w base (.slice (some ⟨g0, 0, none⟩) 9 c) t) (g : PT.Fine t) (hs : s.size ≤ 65535) (his : PN.is o s = true) (hbad : PT.badMake kd md ino = true) : Calls Tryz.prog 71 #[.agg #[.slice (some ⟨g0, 0, none⟩) 9 c, .bool o], .string s, .agg #[.int .i64 kd, .int .i64 md, .string { data := #[] }], .int .i64 ino] w fun e w' => e = .returned (.int .i64 1) ∧ Nw g0 w w' := by
  have hb1 := al w (.cells #[.slice (some ⟨g0, 0, none⟩) 9 c, .bool o] 97)
  have hx1 := Bx.new w 97 #[.slice (some ⟨g0, 0, none⟩) 9 c, .bool o]
  have hz1 : (w.alloc (.cells #[.slice (some ⟨g0, 0, none⟩) 9 c, .bool o] 97)).heap.size = w.heap.size + 1 := by simp
  have hb2 := hb1.alloc hb1.size (.cells #[.int .i64 kd, .int .i64 md, .string { data := #[] }] 94)
  have hx2 := Bx.new (w.alloc (.cells #[.slice (some ⟨g0, 0, none⟩) 9 c, .bool o] 97)) 94 #[.int .i64 kd, .int .i64 md, .string { data := #[] }]
  have hx1 := hx1.alloc (.cells #[.int .i64 kd, .int .i64 md, .string { data := #[] }] 94)
  rw [hz1] at hx2
  have hml2 := hml.below hb2
  have hto2 := hto.on hb2
  have hfit := g.fit
  have h9 := g.len
  have hts2 := hto2.row hfit
  have hg0 : g0 < w.heap.size := by obtain ⟨cur, hbr, _⟩ := hto.box (by decide); exact hbr.lt
  have hz2 : ((w.alloc (.cells #[.slice (some ⟨g0, 0, none⟩) 9 c, .bool o] 97)).alloc (.cells #[.int .i64 kd, .int .i64 md, .string { data := #[] }] 94)).heap.size = w.heap.size + 2 := by simp
  have hpa := fun W (hm : Ml W) => parts_any s o W hm hs
  rw [his] at hpa
  have hp := hpa _ hml2
  rw [PT.bad_may] at hbad
  have hmb := emayBegin_any kd md { data := #[] }
  obtain ⟨b, hb⟩ : ∃ b, ((decide (kd = 1) || decide (kd = 2)) && (decide (0 ≤ md) && decide (md ≤ 255))) = b := ⟨_, rfl⟩
  rw [hb] at hmb hbad
  clear hz1 hml hto hpa his g hb
  have HMB := Lib.hid hmb
  clear hmb
  cases b with
  | false =>
    clear hbad
    go_enter Tryz.func71, Tryz.ntmps71
    go_upto_region 1 with fail
    generalize hw2 : (w.alloc (.cells #[.slice (some ⟨g0, 0, none⟩) 9 c, .bool o] 97)).alloc (.cells #[.int .i64 kd, .int .i64 md, .string { data := #[] }] 94) = w2 at *
    generalize hgx : w.heap.size = g1 at *
    have HB2 := Lib.hid hb2
    have HX1 := Lib.hid hx1
    have HX2 := Lib.hid hx2
    have HT := Lib.hid hts2
    have HTO := Lib.hid hto2
    have HML := Lib.hid hml2
    have HGX := Lib.hid hgx
    have HFIT := Lib.hid hfit
    have H9 := Lib.hid h9
    obtain ⟨c0, c1⟩ := hx1.work
    obtain ⟨n0, n1, n2⟩ := hx2.tri94
    clear hb2 hx1 hx2 hts2 hto2 hml2 hw2 hgx hfit h9
    go_wp2_with (first | (go_at_call 116; go_loud (refine (HMB.out _).mono ?_; rintro e w4 ⟨rfl, hB4⟩)) | (go_at_call 62; go_loud (refine hp.mono ?_; rintro e w3 ⟨v3, rfl, hO3, hB3⟩; clear n0 n1 n2 c0 c1; obtain ⟨n0, n1, n2⟩ := (HX2.out.on hB3).tri94; obtain ⟨c0, c1⟩ := (HX1.out.on hB3).work)))
    go_ret
    have hgx := HGX.out
    subst hgx
    exact ⟨rfl, Nw.of ((HB2.out.trans (hB3.mono (by omega))).trans (hB4.mono (by have := hB3.size; omega)))⟩
  | true =>
    have hbd : (ino < 0) ∨ (¬ ino < 0 ∧ 9 < ino) := by simp at hbad; omega
    clear hbad
    rcases hbd with i0 | ⟨i0, i1⟩
    · have d0 : decide (ino < 0) = true := by simpa using i0
      clear i0
      go_enter Tryz.func71, Tryz.ntmps71
      go_upto_region 1 with fail
      generalize hw2 : (w.alloc (.cells #[.slice (some ⟨g0, 0, none⟩) 9 c, .bool o] 97)).alloc (.cells #[.int .i64 kd, .int .i64 md, .string { data := #[] }] 94) = w2 at *
      generalize hgx : w.heap.size = g1 at *
      have HB2 := Lib.hid hb2
      have HX1 := Lib.hid hx1
      have HX2 := Lib.hid hx2
      have HT := Lib.hid hts2
      have HTO := Lib.hid hto2
      have HML := Lib.hid hml2
      have HGX := Lib.hid hgx
      have HFIT := Lib.hid hfit
      have H9 := Lib.hid h9
      obtain ⟨c0, c1⟩ := hx1.work
      obtain ⟨n0, n1, n2⟩ := hx2.tri94
      clear hb2 hx1 hx2 hts2 hto2 hml2 hw2 hgx hfit h9
      go_wp2_with (first | (go_at_call 116; go_loud (refine (HMB.out _).mono ?_; rintro e w4 ⟨rfl, hB4⟩)) | (go_at_call 62; go_loud (refine hp.mono ?_; rintro e w3 ⟨v3, rfl, hO3, hB3⟩; clear n0 n1 n2 c0 c1; obtain ⟨n0, n1, n2⟩ := (HX2.out.on hB3).tri94; obtain ⟨c0, c1⟩ := (HX1.out.on hB3).work)))
      go_ret
      have hgx := HGX.out
      subst hgx
      exact ⟨rfl, Nw.of ((HB2.out.trans (hB3.mono (by omega))).trans (hB4.mono (by have := hB3.size; omega)))⟩
    · have d0 : decide (ino < 0) = false := by simpa using i0
      have d1 : decide (ino > 9) = true := by simpa using i1
      clear i0 i1
      go_enter Tryz.func71, Tryz.ntmps71
      go_upto_region 1 with fail
      generalize hw2 : (w.alloc (.cells #[.slice (some ⟨g0, 0, none⟩) 9 c, .bool o] 97)).alloc (.cells #[.int .i64 kd, .int .i64 md, .string { data := #[] }] 94) = w2 at *
      generalize hgx : w.heap.size = g1 at *
      have HB2 := Lib.hid hb2
      have HX1 := Lib.hid hx1
      have HX2 := Lib.hid hx2
      have HT := Lib.hid hts2
      have HTO := Lib.hid hto2
      have HML := Lib.hid hml2
      have HGX := Lib.hid hgx
      have HFIT := Lib.hid hfit
      have H9 := Lib.hid h9
      obtain ⟨c0, c1⟩ := hx1.work
      obtain ⟨n0, n1, n2⟩ := hx2.tri94
      clear hb2 hx1 hx2 hts2 hto2 hml2 hw2 hgx hfit h9
      go_wp2_with (first | (go_at_call 116; go_loud (refine (HMB.out _).mono ?_; rintro e w4 ⟨rfl, hB4⟩)) | (go_at_call 62; go_loud (refine hp.mono ?_; rintro e w3 ⟨v3, rfl, hO3, hB3⟩; clear n0 n1 n2 c0 c1; obtain ⟨n0, n1, n2⟩ := (HX2.out.on hB3).tri94; obtain ⟨c0, c1⟩ := (HX1.out.on hB3).work)))
      go_ret
      have hgx := HGX.out
      subst hgx
      exact ⟨rfl, Nw.of ((HB2.out.trans (hB3.mono (by omega))).trans (hB4.mono (by have := hB3.size; omega)))⟩
set_option maxRecDepth 100000 in
set_option maxHeartbeats 8000000 in
theorem ecreate_good (g0 c base : Nat) (t : List PT.N) (o : Bool) (s : ByteArray) (kd md ino : Int) (w : World) (hml : Ml w) (hto : To 27 w base (.slice (some ⟨g0, 0, none⟩) 9 c) t) (g : PT.Fine t) (hs : s.size ≤ 65535) (l : List ByteArray) (his : PN.is o s = true) (hl : PN.pt o s = l) (hbad : PT.badMake kd md ino = false) : Calls Tryz.prog 71 #[.agg #[.slice (some ⟨g0, 0, none⟩) 9 c, .bool o], .string s, .agg #[.int .i64 kd, .int .i64 md, .string { data := #[] }], .int .i64 ino] w fun e w' => ∃ t', e = .returned (.int .i64 (PT.make2 t l kd md ino).2) ∧ To 27 w' base (.slice (some ⟨g0, 0, none⟩) 9 c) t' ∧ ((PT.make2 t l kd md ino).2 = 0 → t' = (PT.make2 t l kd md ino).1) ∧ t'.length = 9 ∧ FitN t' ∧ Nw g0 w w' := by
  have hb1 := al w (.cells #[.slice (some ⟨g0, 0, none⟩) 9 c, .bool o] 97)
  have hx1 := Bx.new w 97 #[.slice (some ⟨g0, 0, none⟩) 9 c, .bool o]
  have hz1 : (w.alloc (.cells #[.slice (some ⟨g0, 0, none⟩) 9 c, .bool o] 97)).heap.size = w.heap.size + 1 := by simp
  have hb2 := hb1.alloc hb1.size (.cells #[.int .i64 kd, .int .i64 md, .string { data := #[] }] 94)
  have hx2 := Bx.new (w.alloc (.cells #[.slice (some ⟨g0, 0, none⟩) 9 c, .bool o] 97)) 94 #[.int .i64 kd, .int .i64 md, .string { data := #[] }]
  have hx1 := hx1.alloc (.cells #[.int .i64 kd, .int .i64 md, .string { data := #[] }] 94)
  rw [hz1] at hx2
  have hml2 := hml.below hb2
  have hto2 := hto.on hb2
  have hfit := g.fit
  have h9 := g.len
  have hts2 := hto2.row hfit
  have hg0 : g0 < w.heap.size := by obtain ⟨cur, hbr, _⟩ := hto.box (by decide); exact hbr.lt
  have hz2 : ((w.alloc (.cells #[.slice (some ⟨g0, 0, none⟩) 9 c, .bool o] 97)).alloc (.cells #[.int .i64 kd, .int .i64 md, .string { data := #[] }] 94)).heap.size = w.heap.size + 2 := by simp
  have hpa := fun W (hm : Ml W) => parts_any s o W hm hs
  obtain ⟨_, h8, hok⟩ := PN.is_some his
  rw [his, hl] at hpa
  rw [hl] at h8 hok
  have hp := hpa _ hml2
  rw [PT.bad_may] at hbad
  have hmb := emayBegin_any kd md { data := #[] }
  obtain ⟨b, hb⟩ : ∃ b, ((decide (kd = 1) || decide (kd = 2)) && (decide (0 ≤ md) && decide (md ≤ 255))) = b := ⟨_, rfl⟩
  rw [hb] at hmb hbad
  have hbi : b = true ∧ 0 ≤ ino ∧ ino ≤ 9 := by
    cases b with
    | false => simp at hbad
    | true => simp at hbad; exact ⟨rfl, by omega, by omega⟩
  obtain ⟨hbt, hino⟩ := hbi
  subst hbt
  have d0 : decide (ino < 0) = false := by simp; omega
  have d1 : decide (ino > 9) = false := by simp; omega
  have HMB := Lib.hid hmb
  obtain ⟨M, hM⟩ : ∃ M, l.length = M := ⟨_, rfl⟩
  have HM := Lib.hid hM
  have HSM := Lib.hid (show ∀ x ∈ l, x.size ≤ 1048576 from fun x hx => by have := (PN.pt_le o s).2 x (by rw [hl]; exact hx); omega)
  have hmk := PT.make2_fre (t := t) (l := l) (kd := kd) (md := md) hino.1
  obtain ⟨⟨x, er⟩, hx⟩ : ∃ x, PT.make2 t l kd md ino = x := ⟨_, rfl⟩
  rw [hx] at hmk ⊢
  dsimp only
  obtain ⟨⟨r1, r2, r3⟩, hr⟩ : ∃ r, PT.fre t l = r := ⟨_, rfl⟩
  obtain ⟨⟨m1, m2⟩, hm⟩ : ∃ m, PT.nbr t ino = m := ⟨_, rfl⟩
  rw [hr, hm] at hmk
  dsimp only at hmk
  have hfr := fun U d W (hm : Ml W) (h : Ts W (.slice (some ⟨g0, 0, none⟩) 9 c) t) (hs : Ss W (.slice U M d) l) (hd : M ≤ d) => efree_any (some ⟨g0, 0, none⟩) U c M d t l o W hm h g hs hM hd (by omega) hok
  rw [hr] at hfr
  dsimp only at hfr
  have HFR := Lib.hid hfr
  have hnb := fun W (h : Ts W (.slice (some ⟨g0, 0, none⟩) 9 c) t) => enumber_any (some ⟨g0, 0, none⟩) c t o ino hino W h h9
  rw [hm] at hnb
  dsimp only at hnb
  have HNB := Lib.hid hnb
  have h8' : M ≤ 8 := by omega
  by_cases h3 : r3 = 0
  rotate_left
  · rw [if_pos h3] at hmk
    injection hmk with e1 e2
    subst e1 e2
    have hqb : (er == 0) = false := by simpa using h3
    clear hz1 hml hto hpa his hl h8 hok hb hmb hM hx hr hm hfr hnb g hbad hino
    go_enter Tryz.func71, Tryz.ntmps71
    go_upto_region 1 with fail
    generalize hw2 : (w.alloc (.cells #[.slice (some ⟨g0, 0, none⟩) 9 c, .bool o] 97)).alloc (.cells #[.int .i64 kd, .int .i64 md, .string { data := #[] }] 94) = w2 at *
    generalize hgx : w.heap.size = g1 at *
    have HB2 := Lib.hid hb2
    have HX1 := Lib.hid hx1
    have HX2 := Lib.hid hx2
    have HT := Lib.hid hts2
    have HTO := Lib.hid hto2
    have HML := Lib.hid hml2
    have HGX := Lib.hid hgx
    have HFIT := Lib.hid hfit
    have H9 := Lib.hid h9
    obtain ⟨c0, c1⟩ := hx1.work
    obtain ⟨n0, n1, n2⟩ := hx2.tri94
    clear hb2 hx1 hx2 hts2 hto2 hml2 hw2 hgx hfit h9
    go_wp2_with (first | (go_at_call 117; go_loud (refine (HFR.out U d _ (HML.out.below hB34) (HT.out.below hB34) (hs3.below hB4) hd).mono ?_; rintro e w5 ⟨rfl, hB5⟩; have hB35 := hB34.trans (hB5.mono hB34.size); have hB6 := hB35.alloc hB35.size (.cells #[.int .i64 r1, .string r2] 144); obtain ⟨p0, p1⟩ := (Bx.new w5 144 #[.int .i64 r1, .string r2]).place; clear n0 n1 n2 c0 c1; obtain ⟨n0, n1, n2⟩ := (HX2.out.on hB6).tri94; obtain ⟨c0, c1⟩ := (HX1.out.on hB6).work)) | (go_at_call 116; go_loud (refine (HMB.out _).mono ?_; rintro e w4 ⟨rfl, hB4⟩; have hB34 := hB3.trans (hB4.mono hB3.size); clear n0 n1 n2 c0 c1; obtain ⟨n0, n1, n2⟩ := (HX2.out.on hB34).tri94; obtain ⟨c0, c1⟩ := (HX1.out.on hB34).work)) | (go_at_call 62; go_loud (refine hp.mono ?_; rintro e w3 ⟨v3, rfl, hO3, hB3⟩; obtain ⟨U, d, hv3, hd⟩ := own_cap hO3; rw [HM.out] at hv3 hd; subst hv3; have hs3 := hO3.row HSM.out (by rw [HM.out]; omega); clear n0 n1 n2 c0 c1; obtain ⟨n0, n1, n2⟩ := (HX2.out.on hB3).tri94; obtain ⟨c0, c1⟩ := (HX1.out.on hB3).work)))
    go_ret
    have hgx := HGX.out
    subst hgx
    exact ⟨_, rfl, HTO.out.on hB6, fun h => absurd h h3, H9.out, HFIT.out, Nw.of (HB2.out.trans (hB6.mono (by omega)))⟩
  subst h3
  rw [if_neg (by simp)] at hmk
  obtain ⟨dd, nn, hr1, hd9, hn2, hk22, hno, hr2, hlne⟩ := PT.fre_yes g hr
  subst hr1
  have hsz2 := PT.last_small hlne hok
  rw [← hr2] at hsz2
  by_cases h4 : m2 = 0
  rotate_left
  · rw [if_pos h4] at hmk
    injection hmk with e1 e2
    subst e1 e2
    have hqb : (er == 0) = false := by simpa using h4
    clear hz1 hml hto hpa his hl h8 hok hb hmb hM hx hr hm hfr hnb g hbad hino hn2 hk22 hno hr2 hlne
    go_enter Tryz.func71, Tryz.ntmps71
    go_upto_region 1 with fail
    generalize hw2 : (w.alloc (.cells #[.slice (some ⟨g0, 0, none⟩) 9 c, .bool o] 97)).alloc (.cells #[.int .i64 kd, .int .i64 md, .string { data := #[] }] 94) = w2 at *
    generalize hgx : w.heap.size = g1 at *
    have HB2 := Lib.hid hb2
    have HX1 := Lib.hid hx1
    have HX2 := Lib.hid hx2
    have HT := Lib.hid hts2
    have HTO := Lib.hid hto2
    have HML := Lib.hid hml2
    have HGX := Lib.hid hgx
    have HFIT := Lib.hid hfit
    have H9 := Lib.hid h9
    obtain ⟨c0, c1⟩ := hx1.work
    obtain ⟨n0, n1, n2⟩ := hx2.tri94
    clear hb2 hx1 hx2 hts2 hto2 hml2 hw2 hgx hfit h9
    go_wp2_with (first | (go_at_call 118; go_loud (refine (HNB.out _ (HT.out.below hB6)).mono ?_; rintro e w7 ⟨rfl, hB7⟩; have hB37 := hB6.trans (hB7.mono hB6.size); have p0' := (hB7.cell (p := ⟨w5.heap.size, 0, none⟩) (by simp)).trans p0; have p1' := (hB7.cell (p := ⟨w5.heap.size, 1, none⟩) (by simp)).trans p1; clear p0 p1 n0 n1 n2 c0 c1; obtain ⟨n0, n1, n2⟩ := (HX2.out.on hB37).tri94; obtain ⟨c0, c1⟩ := (HX1.out.on hB37).work)) | (go_at_call 117; go_loud (refine (HFR.out U d _ (HML.out.below hB34) (HT.out.below hB34) (hs3.below hB4) hd).mono ?_; rintro e w5 ⟨rfl, hB5⟩; have hB35 := hB34.trans (hB5.mono hB34.size); have hB6 := hB35.alloc hB35.size (.cells #[.int .i64 ((dd : Int) + 1), .string r2] 144); obtain ⟨p0, p1⟩ := (Bx.new w5 144 #[.int .i64 ((dd : Int) + 1), .string r2]).place; clear n0 n1 n2 c0 c1; obtain ⟨n0, n1, n2⟩ := (HX2.out.on hB6).tri94; obtain ⟨c0, c1⟩ := (HX1.out.on hB6).work)) | (go_at_call 116; go_loud (refine (HMB.out _).mono ?_; rintro e w4 ⟨rfl, hB4⟩; have hB34 := hB3.trans (hB4.mono hB3.size); clear n0 n1 n2 c0 c1; obtain ⟨n0, n1, n2⟩ := (HX2.out.on hB34).tri94; obtain ⟨c0, c1⟩ := (HX1.out.on hB34).work)) | (go_at_call 62; go_loud (refine hp.mono ?_; rintro e w3 ⟨v3, rfl, hO3, hB3⟩; obtain ⟨U, d, hv3, hd⟩ := own_cap hO3; rw [HM.out] at hv3 hd; subst hv3; have hs3 := hO3.row HSM.out (by rw [HM.out]; omega); clear n0 n1 n2 c0 c1; obtain ⟨n0, n1, n2⟩ := (HX2.out.on hB3).tri94; obtain ⟨c0, c1⟩ := (HX1.out.on hB3).work)))
    go_ret
    have hgx := HGX.out
    subst hgx
    exact ⟨_, rfl, HTO.out.on hB37, fun h => absurd h h4, H9.out, HFIT.out, Nw.of (HB2.out.trans (hB37.mono (by omega)))⟩
  subst h4
  rw [if_neg (by simp), show PT.px ((dd : Int) + 1) = dd by unfold PT.px; omega] at hmk
  obtain ⟨j, hj, hj9⟩ := PT.nbr_yes h9 hino hm
  subst hj
  have hpu := fun W (h : To 27 W base (.slice (some ⟨g0, 0, none⟩) 9 c) t) => eput_any g0 c base t o dd nn r2 ((j : Int) + 1) W h hfit h9 hn2 hk22 hno ⟨by omega, by unfold I64; omega⟩
  cases hpt : PT.put t dd (r2, (j : Int) + 1) with
  | none =>
    rw [hpt] at hpu hmk
    dsimp only [PT.link3, PT.make3] at hpu hmk
    injection hmk with e1 e2
    subst e1 e2
    have HPU := Lib.hid hpu
    clear hz1 hml hto hpa his hl h8 hok hb hmb hM hx hr hm hfr hnb g hbad hino hn2 hk22 hno hr2 hlne hpu hpt
    go_enter Tryz.func71, Tryz.ntmps71
    go_upto_region 1 with fail
    generalize hw2 : (w.alloc (.cells #[.slice (some ⟨g0, 0, none⟩) 9 c, .bool o] 97)).alloc (.cells #[.int .i64 kd, .int .i64 md, .string { data := #[] }] 94) = w2 at *
    generalize hgx : w.heap.size = g1 at *
    have HB2 := Lib.hid hb2
    have HX1 := Lib.hid hx1
    have HX2 := Lib.hid hx2
    have HT := Lib.hid hts2
    have HTO := Lib.hid hto2
    have HML := Lib.hid hml2
    have HGX := Lib.hid hgx
    have HFIT := Lib.hid hfit
    have H9 := Lib.hid h9
    obtain ⟨c0, c1⟩ := hx1.work
    obtain ⟨n0, n1, n2⟩ := hx2.tri94
    clear hb2 hx1 hx2 hts2 hto2 hml2 hw2 hgx hfit h9
    go_wp2_with (first | (go_at_call 119; go_loud (refine (HPU.out _ (HTO.out.on hB37)).mono ?_; rintro e w8 ⟨rfl, hO8, hN8⟩)) | (go_at_call 118; go_loud (refine (HNB.out _ (HT.out.below hB6)).mono ?_; rintro e w7 ⟨rfl, hB7⟩; have hB37 := hB6.trans (hB7.mono hB6.size); have p0' := (hB7.cell (p := ⟨w5.heap.size, 0, none⟩) (by simp)).trans p0; have p1' := (hB7.cell (p := ⟨w5.heap.size, 1, none⟩) (by simp)).trans p1; clear p0 p1 n0 n1 n2 c0 c1; obtain ⟨n0, n1, n2⟩ := (HX2.out.on hB37).tri94; obtain ⟨c0, c1⟩ := (HX1.out.on hB37).work)) | (go_at_call 117; go_loud (refine (HFR.out U d _ (HML.out.below hB34) (HT.out.below hB34) (hs3.below hB4) hd).mono ?_; rintro e w5 ⟨rfl, hB5⟩; have hB35 := hB34.trans (hB5.mono hB34.size); have hB6 := hB35.alloc hB35.size (.cells #[.int .i64 ((dd : Int) + 1), .string r2] 144); obtain ⟨p0, p1⟩ := (Bx.new w5 144 #[.int .i64 ((dd : Int) + 1), .string r2]).place; clear n0 n1 n2 c0 c1; obtain ⟨n0, n1, n2⟩ := (HX2.out.on hB6).tri94; obtain ⟨c0, c1⟩ := (HX1.out.on hB6).work)) | (go_at_call 116; go_loud (refine (HMB.out _).mono ?_; rintro e w4 ⟨rfl, hB4⟩; have hB34 := hB3.trans (hB4.mono hB3.size); clear n0 n1 n2 c0 c1; obtain ⟨n0, n1, n2⟩ := (HX2.out.on hB34).tri94; obtain ⟨c0, c1⟩ := (HX1.out.on hB34).work)) | (go_at_call 62; go_loud (refine hp.mono ?_; rintro e w3 ⟨v3, rfl, hO3, hB3⟩; obtain ⟨U, d, hv3, hd⟩ := own_cap hO3; rw [HM.out] at hv3 hd; subst hv3; have hs3 := hO3.row HSM.out (by rw [HM.out]; omega); clear n0 n1 n2 c0 c1; obtain ⟨n0, n1, n2⟩ := (HX2.out.on hB3).tri94; obtain ⟨c0, c1⟩ := (HX1.out.on hB3).work)))
    go_ret
    have hgx := HGX.out
    subst hgx
    exact ⟨_, rfl, hO8, fun h => (by cases h), H9.out, HFIT.out, (Nw.of (HB2.out.trans (hB37.mono (by omega)))).trans hN8⟩
  | some y =>
    have hyf := PT.put_fit hfit hpt
    rw [hpt] at hpu hmk
    dsimp only [PT.link3, PT.make3] at hpu hmk
    rw [show PT.px ((j : Int) + 1) = j by unfold PT.px; omega] at hmk
    injection hmk with e1 e2
    subst e1 e2
    have HPU := Lib.hid hpu
    have HYF := Lib.hid hyf
    have hw1 : IntKind.i64.wrap ((j : Int) + 1 - 1) = (j : Int) := by rw [IntKind.wrap_i64]; omega
    have HKM := Lib.hid (show I64 kd ∧ I64 md from by
      simp at hb
      unfold I64
      omega)
    clear hz1 hml hto hpa his hl h8 hok hb hmb hM hx hr hm hfr hnb g hbad hino hn2 hk22 hno hr2 hlne hpu hpt hyf
    go_enter Tryz.func71, Tryz.ntmps71
    go_upto_region 1 with fail
    generalize hw2 : (w.alloc (.cells #[.slice (some ⟨g0, 0, none⟩) 9 c, .bool o] 97)).alloc (.cells #[.int .i64 kd, .int .i64 md, .string { data := #[] }] 94) = w2 at *
    generalize hgx : w.heap.size = g1 at *
    have HB2 := Lib.hid hb2
    have HX1 := Lib.hid hx1
    have HX2 := Lib.hid hx2
    have HT := Lib.hid hts2
    have HTO := Lib.hid hto2
    have HML := Lib.hid hml2
    have HGX := Lib.hid hgx
    have HFIT := Lib.hid hfit
    have H9 := Lib.hid h9
    obtain ⟨c0, c1⟩ := hx1.work
    obtain ⟨n0, n1, n2⟩ := hx2.tri94
    clear hb2 hx1 hx2 hts2 hto2 hml2 hw2 hgx hfit h9
    go_wp2_with (first | (go_at_call 119; go_loud (refine (HPU.out _ (HTO.out.on hB37)).mono ?_; rintro e w8 ⟨rfl, hO8, hN8⟩; obtain ⟨cur, hbr, hge, hsz, hnc⟩ := hO8.box (by decide); have e0 := (hbr.cell (j * 3)).trans (Array.getElem?_eq_getElem (by omega)); have e1 := (hbr.cell (j * 3 + 1)).trans (Array.getElem?_eq_getElem (by omega)); have e2 := (hbr.cell (j * 3 + 2)).trans (Array.getElem?_eq_getElem (by omega)); have f0 := hbr.frozen (j * 3); have f1 := hbr.frozen (j * 3 + 1); have f2 := hbr.frozen (j * 3 + 2); clear n0 n1 n2 c0 c1; obtain ⟨n0, n1, n2⟩ := ((HX2.out.on hB37).nw hN8 (by omega)).tri94; obtain ⟨c0, c1⟩ := ((HX1.out.on hB37).nw hN8 (by omega)).work)) | (go_at_call 118; go_loud (refine (HNB.out _ (HT.out.below hB6)).mono ?_; rintro e w7 ⟨rfl, hB7⟩; have hB37 := hB6.trans (hB7.mono hB6.size); have p0' := (hB7.cell (p := ⟨w5.heap.size, 0, none⟩) (by simp)).trans p0; have p1' := (hB7.cell (p := ⟨w5.heap.size, 1, none⟩) (by simp)).trans p1; clear p0 p1 n0 n1 n2 c0 c1; obtain ⟨n0, n1, n2⟩ := (HX2.out.on hB37).tri94; obtain ⟨c0, c1⟩ := (HX1.out.on hB37).work)) | (go_at_call 117; go_loud (refine (HFR.out U d _ (HML.out.below hB34) (HT.out.below hB34) (hs3.below hB4) hd).mono ?_; rintro e w5 ⟨rfl, hB5⟩; have hB35 := hB34.trans (hB5.mono hB34.size); have hB6 := hB35.alloc hB35.size (.cells #[.int .i64 ((dd : Int) + 1), .string r2] 144); obtain ⟨p0, p1⟩ := (Bx.new w5 144 #[.int .i64 ((dd : Int) + 1), .string r2]).place; clear n0 n1 n2 c0 c1; obtain ⟨n0, n1, n2⟩ := (HX2.out.on hB6).tri94; obtain ⟨c0, c1⟩ := (HX1.out.on hB6).work)) | (go_at_call 116; go_loud (refine (HMB.out _).mono ?_; rintro e w4 ⟨rfl, hB4⟩; have hB34 := hB3.trans (hB4.mono hB3.size); clear n0 n1 n2 c0 c1; obtain ⟨n0, n1, n2⟩ := (HX2.out.on hB34).tri94; obtain ⟨c0, c1⟩ := (HX1.out.on hB34).work)) | (go_at_call 62; go_loud (refine hp.mono ?_; rintro e w3 ⟨v3, rfl, hO3, hB3⟩; obtain ⟨U, d, hv3, hd⟩ := own_cap hO3; rw [HM.out] at hv3 hd; subst hv3; have hs3 := hO3.row HSM.out (by rw [HM.out]; omega); clear n0 n1 n2 c0 c1; obtain ⟨n0, n1, n2⟩ := (HX2.out.on hB3).tri94; obtain ⟨c0, c1⟩ := (HX1.out.on hB3).work)))
    go_ret
    have hgx := HGX.out
    subst hgx
    have hO9 := hO8.set (k := j) (HYF.out.2.trans H9.out) hj9 ⟨kd, md, { data := #[] }⟩
    refine ⟨_, rfl, hO9, fun _ => rfl, by rw [List.length_set]; exact HYF.out.2.trans H9.out, PT.fitN_set HYF.out.1 ⟨HKM.out.1, HKM.out.2, Nat.zero_le _⟩, ?_⟩
    exact (((((Nw.of (HB2.out.trans (hB37.mono (by omega)))).trans hN8).trans Nw.cell).trans Nw.cell).trans Nw.cell)
theorem ecreate_any (g0 c base : Nat) (t : List PT.N) (o : Bool) (s : ByteArray) (kd md ino : Int) (w : World) (hml : Ml w) (hto : To 27 w base (.slice (some ⟨g0, 0, none⟩) 9 c) t) (g : PT.Fine t) (hs : s.size ≤ 65535) : Calls Tryz.prog 71 #[.agg #[.slice (some ⟨g0, 0, none⟩) 9 c, .bool o], .string s, .agg #[.int .i64 kd, .int .i64 md, .string { data := #[] }], .int .i64 ino] w fun e w' => (PT.make t (PT.pp o s) kd md ino).2 = 1 ∧ e = .returned (.int .i64 1) ∧ Nw g0 w w' ∨ ∃ t', e = .returned (.int .i64 (PT.make t (PT.pp o s) kd md ino).2) ∧ To 27 w' base (.slice (some ⟨g0, 0, none⟩) 9 c) t' ∧ ((PT.make t (PT.pp o s) kd md ino).2 = 0 → t' = (PT.make t (PT.pp o s) kd md ino).1) ∧ t'.length = 9 ∧ FitN t' ∧ Nw g0 w w' := by
  cases his : PN.is o s with
  | false =>
    refine (ecreate_no g0 c base t o s kd md ino w hml hto g hs his).mono ?_
    rintro e w' ⟨rfl, h⟩
    exact .inl ⟨by rw [PT.pp_no his]; rfl, rfl, h⟩
  | true =>
    rw [PT.pp_yes his]
    cases hbad : PT.badMake kd md ino with
    | true =>
      refine (ecreate_bad g0 c base t o s kd md ino w hml hto g hs his hbad).mono ?_
      rintro e w' ⟨rfl, h⟩
      exact .inl ⟨by show (if PT.badMake kd md ino = true then (t, 1) else _).2 = 1; rw [if_pos hbad], rfl, h⟩
    | false =>
      have hmk : PT.make t (some (PN.pt o s)) kd md ino = PT.make2 t (PN.pt o s) kd md ino := if_neg (by rw [hbad]; decide)
      rw [hmk]
      exact (ecreate_good g0 c base t o s kd md ino w hml hto g hs _ his rfl hbad).mono fun e w' h => .inr h
end Go.Proofs.YtdnobplhfbgbaaaGreatDoor
