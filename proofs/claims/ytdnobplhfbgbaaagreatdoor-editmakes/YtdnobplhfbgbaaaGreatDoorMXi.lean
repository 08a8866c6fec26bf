/-
  Contract: put of edit.
  Contract: free of edit.
-/
import Derived.Test.YtdnobplhfbgbaaaGreatDoorXh
namespace Go.Proofs.YtdnobplhfbgbaaaGreatDoor
open Go.RowKit Go.Joins

set_option maxRecDepth 100000 in
set_option maxHeartbeats 4000000 in
theorem eput_any (g c base : Nat) (t : List PT.N) (o : Bool) (k : Nat) (n : PT.N) (x : ByteArray) (z : Int) (w : World) (hto : To 27 w base (.slice (some ⟨g, 0, none⟩) 9 c) t) (hfit : FitN t) (h9 : t.length = 9) (hn : t[k]? = some n) (hk2 : n.kind = 2) (hno : PD.has (PT.ents n) x = false) (hxz : x.size ≤ 1048576 ∧ I64 z) :
    Calls Tryz.prog 119 #[.agg #[.slice (some ⟨g, 0, none⟩) 9 c, .bool o], .agg #[.int .i64 ((k : Int) + 1), .string x], .int .i64 z] w fun e w' => e = .returned (.int .i64 (PT.link3 t (PT.put t k (x, z))).2) ∧ To 27 w' base (.slice (some ⟨g, 0, none⟩) 9 c) (PT.link3 t (PT.put t k (x, z))).1 ∧ Nw g w w' := by
  have h := hto.row hfit
  have hb1 := al w (.cells #[.slice (some ⟨g, 0, none⟩) 9 c, .bool o] 97)
  have hx1 := Bx.new w 97 #[.slice (some ⟨g, 0, none⟩) 9 c, .bool o]
  have hz1 : (w.alloc (.cells #[.slice (some ⟨g, 0, none⟩) 9 c, .bool o] 97)).heap.size = w.heap.size + 1 := by simp
  have hb2 := hb1.alloc hb1.size (.cells #[.int .i64 ((k : Int) + 1), .string x] 144)
  have hx2 := Bx.new (w.alloc (.cells #[.slice (some ⟨g, 0, none⟩) 9 c, .bool o] 97)) 144 #[.int .i64 ((k : Int) + 1), .string x]
  have hx1 := hx1.alloc (.cells #[.int .i64 ((k : Int) + 1), .string x] 144)
  rw [hz1] at hx2
  have hw2s : ((w.alloc (.cells #[.slice (some ⟨g, 0, none⟩) 9 c, .bool o] 97)).alloc (.cells #[.int .i64 ((k : Int) + 1), .string x] 144)).heap.size = w.heap.size + 2 := by simp
  have hk9 : k < 9 := by have := (List.getElem?_eq_some_iff.1 hn).1; omega
  have hmm := PT.tl_ents hk2
  have hsrt := PT.ents_srt n
  have hfitm := PT.ents_fit n
  have hat := fun W (hW : Below w.heap.size w W) => eat_any (some ⟨g, 0, none⟩) c t o k n W (h.below hW) h9 hn
  have hnm := fun W => enames_any n W
  rw [hmm] at hnm
  have HTO := Lib.hid hto
  have HN := Lib.hid hn
  have H9 := Lib.hid h9
  have hw1 : IntKind.i64.wrap ((k : Int) + 1 - 1) = (k : Int) := by rw [IntKind.wrap_i64]; omega
  have hT : PT.put t k (x, z) = if PD.ok (PD.rwth (PT.ents n) (x, z)) = true then some (t.set k ⟨n.kind, n.mode, PD.put (PD.rwth (PT.ents n) (x, z))⟩) else none := by
    rw [PT.put, hn]
    rfl
  have hls := PD.with_same (x, z) hsrt
  have hf2 := PT.fit_rwth (e := (x, z)) hfitm hxz (PT.ents_length n)
  rw [← hls] at hT hf2
  have hat0 := (PT.has_isAt n x).trans hno
  generalize PT.ents n = m at *
  have hfd := fun v W (h : Ec W v m) => dwith_any v m x z W h.1 h.2 ⟨by simpa using hxz, by simp⟩
  rw [hat0] at hfd
  obtain ⟨m2, hm2⟩ : ∃ m2, PD.wth m (x, z) = m2 := ⟨_, rfl⟩
  rw [hm2] at hfd hT hf2
  obtain ⟨ok, hok⟩ : ∃ ok, PD.ok m2 = ok := ⟨_, rfl⟩
  have hpu := fun v W (h : Es W v m2) => dput_any v m2 W h
  rw [hok] at hT hpu
  have HPU := Lib.hid hpu
  have HNM := Lib.hid hnm
  have HLS := Lib.hid (fun v W (h : Ec W v m) => (hfd v W h).mono (R' := fun e w' => ∃ v', e = .returned (.tuple #[v', .bool true]) ∧ Ec w' v' m2 ∧ Below W.heap.size W w') fun e w' ⟨v', h1, h2, h3⟩ => ⟨v', h1, h2.ec hf2, h3⟩)
  have HT2 := Lib.hid hT
  clear hnm hfd hls hm2 hmm hsrt hfitm hf2 h hb1 hz1 hn hk2 hto h9 hfit hT hno hxz hat0 hpu hok
  go_enter Tryz.func119, Tryz.ntmps119
  go_upto_region 1 with fail
  generalize hw2 : (w.alloc (.cells #[.slice (some ⟨g, 0, none⟩) 9 c, .bool o] 97)).alloc (.cells #[.int .i64 ((k : Int) + 1), .string x] 144) = w2 at *
  generalize hgx : w.heap.size = g1 at *
  have HW := Lib.hid (fun W (hW : Below w2.heap.size w2 W) => (hx1.on hW).work)
  have HPB := Lib.hid (fun W (hW : Below w2.heap.size w2 W) => (hx2.on hW).place)
  have HB2 := Lib.hid hb2
  have HX1 := Lib.hid hx1
  have HX2 := Lib.hid hx2
  have HGX := Lib.hid hgx
  have hz2 := hw2s
  have HAT := Lib.hid (fun W (hW : Below w2.heap.size w2 W) => hat W (hb2.trans (hW.mono (by omega))))
  clear hat hb2 hx1 hx2 hw2 hgx hw2s
  refine wp_region_grow Tryz.checked.mixed (by kernel_rfl) (fun W => Below w2.heap.size w2 W)
    (fun i v W => match i with
      | 0 => v = .agg #[.slice (some ⟨g, 0, none⟩) 9 c, .bool o]
      | 1 => v = .pointer (some ⟨g1 + 1, 0, none⟩)
      | 2 => v = .int .i64 ((k : Int) + 1)
      | 3 => v = nodeV n
      | 4 => Ec W v m
      | 5 => v = .pointer (some ⟨g1 + 1, 1, none⟩)
      | 6 => v = .string x
      | 7 => v = .int .i64 z
      | 8 => v = .agg #[.string x, .int .i64 z]
      | 9 => ∃ v1, v = .tuple #[v1, .bool true] ∧ Ec W v1 m2
      | 10 => ∃ v1, v = .tuple #[v1, .bool true] ∧ Ec W v1 m2
      | 11 => Ec W v m2
      | 12 => v = .bool true
      | 13 => Ec W v m2
      | _ => v = .bool true) ?hS ?hR ?start ?each ?fin
  case hS =>
    intro W W' h hb
    exact h.trans (hb.mono h.size)
  case hR =>
    intro j v W W' h hb
    rcases j with _ | _ | _ | _ | _ | _ | _ | _ | _ | _ | _ | _ | _ | _ | j <;> first | exact h | exact Es.below h hb | exact Ss.below h hb | exact Ec.below h hb | exact ⟨h.choose, h.choose_spec.1, h.choose_spec.2.below hb⟩
  case start => exact (Below.refl _ _).drew
  case each =>
    intro i hi a W hold hp h6 K hK
    rcases i with _ | _ | _ | _ | _ | _ | _ | _ | _ | _ | _ | _ | _ | _ | i
    · skip
      have s3 := hold 3 rfl
      simp [predsOf, Region.binds, slotV] at hp
      refine wpOp_of rfl rfl ?_
      simp at s3
      obtain ⟨e1, e2⟩ := HW.out W h6
      go_simp
      exact hK _ _ (by simp) (Below.refl _ _) rfl
    · skip
      have s4 := hold 4 rfl
      simp [predsOf, Region.binds, slotV] at hp
      refine wpOp_of rfl rfl ?_
      simp at s4
      go_simp
      exact hK _ _ (by simp) (Below.refl _ _) rfl
    · skip
      simp [predsOf, Region.binds, slotV] at hp
      refine wpOp_of rfl rfl ?_
      have e1 := (HPB.out W h6).1
      go_simp
      exact hK _ _ (by simp) (Below.refl _ _) rfl
    · skip
      simp [predsOf, Region.binds, slotV] at hp
      refine wpOp_of rfl rfl ?_
      go_simp
      refine (HAT.out W h6).mono ?_
      rintro e W2 ⟨rfl, hB⟩
      exact hK _ _ (by simp) hB rfl
    · skip
      simp [predsOf, Region.binds, slotV] at hp
      refine wpOp_of rfl rfl ?_
      go_simp
      refine (HNM.out W).mono ?_
      rintro e W2 ⟨v2, rfl, hO, hF, hB'⟩
      exact hK _ _ (by simp) hB' (hO.ec hF)
    · skip
      have s4 := hold 4 rfl
      simp [predsOf, Region.binds, slotV] at hp
      refine wpOp_of rfl rfl ?_
      simp at s4
      go_simp
      exact hK _ _ (by simp) (Below.refl _ _) rfl
    · skip
      simp [predsOf, Region.binds, slotV] at hp
      refine wpOp_of rfl rfl ?_
      have e1 := (HPB.out W h6).2
      go_simp
      exact hK _ _ (by simp) (Below.refl _ _) rfl
    · skip
      have s2 := hold 2 rfl
      simp [predsOf, Region.binds, slotV] at hp
      refine wpOp_of rfl rfl ?_
      simp at s2
      go_simp
      exact hK _ _ (by simp) (Below.refl _ _) rfl
    · skip
      simp [predsOf, Region.binds, slotV] at hp
      refine wpOp_of rfl rfl ?_
      go_simp
      exact hK _ _ (by simp) (Below.refl _ _) rfl
    · skip
      simp [predsOf, Region.binds, slotV] at hp
      refine wpOp_of rfl rfl ?_
      go_simp
      refine (HLS.out _ W hp.1).mono ?_
      rintro e W2 ⟨v2, rfl, hO, hB⟩
      exact hK _ _ (by simp) hB ⟨_, rfl, hO⟩
    · skip
      simp [predsOf, Region.binds, slotV] at hp
      refine wpOp_of rfl rfl ?_
      go_simp
      exact hK _ _ (by simp) (Below.refl _ _) (by simpa using hp)
    · skip
      simp [predsOf, Region.binds, slotV] at hp
      obtain ⟨v1, p1, p2⟩ := hp
      refine wpOp_of rfl rfl ?_
      go_simp
      exact hK _ _ (by simp) (Below.refl _ _) (by simpa using p2)
    · skip
      simp [predsOf, Region.binds, slotV] at hp
      obtain ⟨v1, p1, p2⟩ := hp
      refine wpOp_of rfl rfl ?_
      go_simp
      exact hK _ _ (by simp) (Below.refl _ _) (by simp)
    · skip
      simp [predsOf, Region.binds, slotV] at hp
      refine wpOp_of rfl rfl ?_
      go_simp
      exact hK _ _ (by simp) (Below.refl _ _) (by first | (simpa using hp) | (simpa using hp.1))
    · have i0 : i = 0 := by simp at hi; omega
      subst i0
      simp [predsOf, Region.binds, slotV] at hp
      refine wpOp_of rfl rfl ?_
      go_simp
      exact hK _ _ (by simp) (Below.refl _ _) (by simp)
  case fin =>
    intro vs W hRs h6
    have r0 := hRs 0 (by decide)
    have r1 := hRs 1 (by decide)
    have r2 := hRs 2 (by decide)
    have r3 := hRs 3 (by decide)
    have r5 := hRs 5 (by decide)
    have r6 := hRs 6 (by decide)
    have r7 := hRs 7 (by decide)
    have r8 := hRs 8 (by decide)
    have r12 := hRs 12 (by decide)
    have r14 := hRs 14 (by decide)
    simp at r0 r1 r2 r3 r5 r6 r7 r8 r12 r14
    simp only [putAll, List.foldl_cons, List.foldl_nil, Act.put, List.setIfInBounds_toArray, List.set_cons_succ, List.set_cons_zero, r0, r1, r2, r3, r5, r6, r7, r8, r12, r14]
    have hb6 := HB2.out.trans (h6.mono (by omega))
    have hE := hRs 13 (by decide)
    simp at hE
    generalize vs (some 7) = V7 at *
    generalize vs (some 15) = V15 at *
    generalize vs (some 20) = V20 at *
    generalize vs (some 10) = V10 at *
    generalize vs (some 21) = V21 at *
    have HE := Lib.hid hE
    clear hRs hE r0 r1 r2 r3 r5 r6 r7 r8 r12 r14
    cases ok with
    | true =>
      go_wp2_with (go_at_call 159; refine (HPU.out _ _ HE.out.1).mono ?_; rintro e w4 ⟨rfl, hB4⟩; have h64 := h6.trans (hB4.mono h6.size); have hb4 := hb6.trans (hB4.mono (by have := h6.size; omega)); have hO4 := HTO.out.on (by rw [HGX.out]; exact hb4); obtain ⟨cur, hbr, hge, hsz, hnc⟩ := hO4.box (by decide); have d2 := (hbr.cell (k * 3 + 2)).trans (Array.getElem?_eq_getElem (by omega)); have f2 := hbr.frozen (k * 3 + 2); obtain ⟨c0, c1⟩ := HW.out w4 h64; obtain ⟨p0, p1⟩ := HPB.out w4 h64)
      go_ret
      have hgx := HGX.out
      subst hgx
      rw [HT2.out]
      refine ⟨rfl, ?_, (Nw.of hb4).trans Nw.cell⟩
      exact hO4.body (by rw [H9.out]) HN.out _
    | false =>
      go_wp2_with (go_at_call 159; refine (HPU.out _ _ HE.out.1).mono ?_; rintro e w4 ⟨rfl, hB4⟩; have hb4 := hb6.trans (hB4.mono (by have := h6.size; omega)); have hO4 := HTO.out.on (by rw [HGX.out]; exact hb4))
      go_ret
      have hgx := HGX.out
      subst hgx
      rw [HT2.out]
      exact ⟨rfl, hO4, Nw.of hb4⟩
end Go.Proofs.YtdnobplhfbgbaaaGreatDoor
namespace Go.Proofs.YtdnobplhfbgbaaaGreatDoor
open Go.RowKit Go.Joins

namespace PT
theorem plc_at {t : List N} (g : Fine t) {l : List ByteArray} {q1 : Int} {q2 : ByteArray} (h : plc t l = (q1, q2, 0)) : ∃ (k : Nat) (n : N), q1 = (k : Int) + 1 ∧ k < 9 ∧ t[k]? = some n ∧ n.kind = 2 := by
  unfold plc at h
  by_cases h1 : l = []
  · rw [if_pos h1] at h; cases h
  rw [if_neg h1] at h
  by_cases h2 : (place t l).2 ≠ 0
  · rw [if_pos h2] at h
    injection h with _ h
    injection h with _ h
    exact absurd h h2
  rw [if_neg h2] at h
  obtain ⟨k, n, hp, _, hk9, hn, hk, _⟩ := g.place_yes (Classical.not_not.1 h2)
  rw [hp] at h
  injection h with h3 _
  exact ⟨k, n, by omega, hk9, hn, hk⟩
theorem fre_at {t : List N} {l : List ByteArray} {k : Nat} {n : N} {q2 : ByteArray} {b : Bool} (h : plc t l = ((k : Int) + 1, q2, 0)) (hn : t[k]? = some n) (hb : PD.has (ents n) q2 = b) : fre t l = if b = true then (0, { data := #[] }, 3) else ((k : Int) + 1, q2, 0) := by
  unfold fre
  rw [h]
  simp only [ne_eq, not_true, if_false]
  rw [show px ((k : Int) + 1) = k by unfold px; omega, names_at hn, hb]
theorem fre_no {t : List N} {l : List ByteArray} {q1 q3 : Int} {q2 : ByteArray} (h : plc t l = (q1, q2, q3)) (hz : q3 ≠ 0) : fre t l = (0, { data := #[] }, q3) := by
  unfold fre
  rw [h]
  simp only
  rw [if_pos hz]
end PT
theorem efree_out {w W : World} {gx B : Nat} {cur : Array Value} (tmps : Array Value) (a er : Int) (s : ByteArray) (hx : Bx W gx 144 cur) (hs : cur.size = 2) (ht : tmps[4]? = some (.pointer (some ⟨gx, 0, none⟩))) (h5 : tmps[5]? = some (.int .i64 er)) (hg : B ≤ gx) (hb : Below B w W) :
    bodyPost Tryz.prog Tryz.f117 (fun e w' => e = .returned (.tuple #[.agg #[.int .i64 a, .string s], .int .i64 er]) ∧ Below B w w') Exit.ret { tmps := tmps, defers := [] } (put2 W gx (.int .i64 a) (.string s)) := by
  have h3 := hx.put2 hs (.int .i64 a) (.string s)
  have hend := put2_below hb hg (.int .i64 a) (.string s)
  have c0 := h3.cell 0
  have c1 := h3.cell 1
  refine bodyPost_ret (v := .tuple #[.agg #[.int .i64 a, .string s], .int .i64 er]) ?_ rfl ⟨rfl, hend⟩
  generalize put2 W gx (.int .i64 a) (.string s) = W2 at *
  simp at c0 c1
  simp [results, Tryz.results117, go_sem, ht, h5, c0, c1]
set_option maxRecDepth 100000 in
set_option maxHeartbeats 8000000 in
theorem efree_any (A U : Option Addr) (c M d : Nat) (t : List PT.N) (l : List ByteArray) (o : Bool) (w : World) (hml : Ml w) (h : Ts w (.slice A 9 c) t) (g : PT.Fine t) (hs : Ss w (.slice U M d) l) (hM : l.length = M) (hd : M ≤ d) (h8 : M ≤ 8) (hok : ∀ x ∈ l, PN.ok o x.data.toList = true) :
    Calls Tryz.prog 117 #[.agg #[.slice A 9 c, .bool o], .slice U M d] w fun e w' => e = .returned (.tuple #[.agg #[.int .i64 (PT.fre t l).1, .string (PT.fre t l).2.1], .int .i64 (PT.fre t l).2.2]) ∧ Below w.heap.size w w' := by
  have hb1 := al w (.cells #[.slice A 9 c, .bool o] 97)
  have hx1 := Bx.new w 97 #[.slice A 9 c, .bool o]
  have hz1 : (w.alloc (.cells #[.slice A 9 c, .bool o] 97)).heap.size = w.heap.size + 1 := by simp
  have hb2 := hb1.alloc hb1.size (.cells #[.int .i64 0, .string { data := #[] }] 144)
  have hx2 := Bx.new (w.alloc (.cells #[.slice A 9 c, .bool o] 97)) 144 #[.int .i64 0, .string { data := #[] }]
  have hx1 := hx1.alloc (.cells #[.int .i64 0, .string { data := #[] }] 144)
  rw [hz1] at hx2
  have hml2 := hml.below hb2
  have h2 := h.below hb2
  have hs2 := hs.below hb2
  have hz2 : ((w.alloc (.cells #[.slice A 9 c, .bool o] 97)).alloc (.cells #[.int .i64 0, .string { data := #[] }] 144)).heap.size = w.heap.size + 2 := by simp
  have hpl := eplace_any A U c M d t l o _ hml2 h2 g hs2 hM hd h8 hok
  obtain ⟨⟨q1, q2, q3⟩, hq⟩ : ∃ q, PT.plc t l = q := ⟨_, rfl⟩
  rw [hq] at hpl
  dsimp only at hpl
  obtain ⟨⟨r1, r2, r3⟩, hR⟩ : ∃ q, PT.fre t l = q := ⟨_, rfl⟩
  rw [hR]
  dsimp only
  have HR := Lib.hid hR
  have HQ := Lib.hid hq
  have HG := Lib.hid g
  clear h hs hml hb1 hz1 hml2 hs2 hM hd h8 hok hR hq g
  go_enter Tryz.func117, Tryz.ntmps117
  go_upto_region 1 with fail
  generalize hw2 : (w.alloc (.cells #[.slice A 9 c, .bool o] 97)).alloc (.cells #[.int .i64 0, .string { data := #[] }] 144) = w2 at *
  generalize hgx : w.heap.size = g1 at *
  have HPL := Lib.hid hpl
  have HB2 := Lib.hid hb2
  have HX1 := Lib.hid hx1
  have HX2 := Lib.hid hx2
  have HT := Lib.hid h2
  have HGX := Lib.hid hgx
  obtain ⟨c0, c1⟩ := hx1.work
  clear hpl hb2 hx1 hx2 h2 hw2 hgx
  by_cases hz : q3 = 0
  · subst hz
    obtain ⟨k, n, hq1, hk9, hn, hk2⟩ := PT.plc_at HG.out HQ.out
    subst hq1
    obtain ⟨b, hb⟩ : ∃ b, PD.has (PT.ents n) q2 = b := ⟨_, rfl⟩
    have HN := Lib.hid hn
    have HK := Lib.hid hk2
    have HB := Lib.hid hb
    have hfr := PT.fre_at (b := b) HQ.out hn hb
    have e := HR.out.symm.trans hfr
    clear hn hk2 hb hfr
    cases b with
    | true =>
      injection e with e1 e
      injection e with e2 e3
      subst e1 e2 e3
      go_wp2_with (first | (go_at_call 127; go_loud (refine ((HB.out ▸ etaken_any A c t o k n q2 _ HT3.out HG.out.len HN.out HK.out) : Calls _ _ _ _ _).mono ?_; rintro e w5 ⟨rfl, hB5⟩; have hx5 := HE.out.1.on hB5; have hb5 := HE.out.2.trans (hB5.mono (by simp; omega)); have HE5 := Lib.hid (And.intro hx5 hb5); clear a0 a1 f0 f1; have a0 := hx5.cell 0; have a1 := hx5.cell 1; have f0 := hx5.frozen 0; have f1 := hx5.frozen 1; simp at a0 a1; clear hx5 hb5)) | (go_at_call 126; go_loud (refine HPL.out.mono ?_; rintro e w3 ⟨rfl, hB3⟩; have hb3 := HB2.out.trans (hB3.mono (by omega)); have hx3 := (HX2.out.on hB3).alloc (.cells #[.int .i64 ((k : Int) + 1), .string q2] 144); have hw3 := ((HX1.out.on hB3).alloc (.cells #[.int .i64 ((k : Int) + 1), .string q2] 144)).work; have hb4 := hb3.alloc (by have := hB3.size; omega) (.cells #[.int .i64 ((k : Int) + 1), .string q2] 144); obtain ⟨c0, c1⟩ := hw3; have a0 := hx3.cell 0; have a1 := hx3.cell 1; have f0 := hx3.frozen 0; have f1 := hx3.frozen 1; simp at a0 a1; have HE := Lib.hid (And.intro hx3 hb4); have hpx := (Bx.new w3 144 #[.int .i64 ((k : Int) + 1), .string q2]).place; obtain ⟨p0, p1⟩ := hpx; have HT3 := Lib.hid ((HT.out.below hB3).below (al w3 (.cells #[.int .i64 ((k : Int) + 1), .string q2] 144))); have hl3 : g1 + 2 ≤ w3.heap.size := (by have := hB3.size; omega); clear hx3 hb4)))
      (try simp only [Exit.inBlock, Exit.then])
      have hgx := HGX.out
      subst hgx
      exact efree_out (w := w) _ 0 3 { data := #[] } HE5.out.1 rfl rfl rfl (Nat.le_succ _) HE5.out.2
    | false =>
      injection e with e1 e
      injection e with e2 e3
      subst e1 e2 e3
      go_wp2_with (first | (go_at_call 127; go_loud (refine ((HB.out ▸ etaken_any A c t o k n r2 _ HT3.out HG.out.len HN.out HK.out) : Calls _ _ _ _ _).mono ?_; rintro e w5 ⟨rfl, hB5⟩; have hx5 := HE.out.1.on hB5; have hb5 := HE.out.2.trans (hB5.mono (by simp; omega)); have HE5 := Lib.hid (And.intro hx5 hb5); clear a0 a1 f0 f1; have a0 := hx5.cell 0; have a1 := hx5.cell 1; have f0 := hx5.frozen 0; have f1 := hx5.frozen 1; simp at a0 a1; have p0' := (hB5.cell (p := ⟨w3.heap.size, 0, none⟩) (by simp)).trans p0; have p1' := (hB5.cell (p := ⟨w3.heap.size, 1, none⟩) (by simp)).trans p1; clear hx5 hb5 p0 p1)) | (go_at_call 126; go_loud (refine HPL.out.mono ?_; rintro e w3 ⟨rfl, hB3⟩; have hb3 := HB2.out.trans (hB3.mono (by omega)); have hx3 := (HX2.out.on hB3).alloc (.cells #[.int .i64 ((k : Int) + 1), .string r2] 144); have hw3 := ((HX1.out.on hB3).alloc (.cells #[.int .i64 ((k : Int) + 1), .string r2] 144)).work; have hb4 := hb3.alloc (by have := hB3.size; omega) (.cells #[.int .i64 ((k : Int) + 1), .string r2] 144); obtain ⟨c0, c1⟩ := hw3; have a0 := hx3.cell 0; have a1 := hx3.cell 1; have f0 := hx3.frozen 0; have f1 := hx3.frozen 1; simp at a0 a1; have HE := Lib.hid (And.intro hx3 hb4); have hpx := (Bx.new w3 144 #[.int .i64 ((k : Int) + 1), .string r2]).place; obtain ⟨p0, p1⟩ := hpx; have HT3 := Lib.hid ((HT.out.below hB3).below (al w3 (.cells #[.int .i64 ((k : Int) + 1), .string r2] 144))); have hl3 : g1 + 2 ≤ w3.heap.size := (by have := hB3.size; omega); clear hx3 hb4)))
      (try simp only [Exit.inBlock, Exit.then])
      have hgx := HGX.out
      subst hgx
      exact efree_out (w := w) _ ((k : Int) + 1) 0 _ HE5.out.1 rfl rfl rfl (Nat.le_succ _) HE5.out.2
  · have hfr := PT.fre_no HQ.out hz
    have e := HR.out.symm.trans hfr
    injection e with e1 e
    injection e with e2 e3
    have hqb : (q3 == 0) = false := by simpa using hz
    subst e1 e2 e3
    clear hfr hz
    go_wp2_with (go_at_call 126; go_loud (refine HPL.out.mono ?_; rintro e w3 ⟨rfl, hB3⟩; have hb3 := HB2.out.trans (hB3.mono (by omega)); have hx3 := (HX2.out.on hB3).alloc (.cells #[.int .i64 q1, .string q2] 144); have hw3 := ((HX1.out.on hB3).alloc (.cells #[.int .i64 q1, .string q2] 144)).work; have hb4 := hb3.alloc (by have := hB3.size; omega) (.cells #[.int .i64 q1, .string q2] 144); obtain ⟨c0, c1⟩ := hw3; have a0 := hx3.cell 0; have a1 := hx3.cell 1; have f0 := hx3.frozen 0; have f1 := hx3.frozen 1; simp at a0 a1; have HE := Lib.hid (And.intro hx3 hb4); have hpx := (Bx.new w3 144 #[.int .i64 q1, .string q2]).place; obtain ⟨p0, p1⟩ := hpx; have HT3 := Lib.hid ((HT.out.below hB3).below (al w3 (.cells #[.int .i64 q1, .string q2] 144))); have hl3 : g1 + 2 ≤ w3.heap.size := (by have := hB3.size; omega); clear hx3 hb4))
    (try simp only [Exit.inBlock, Exit.then])
    have hgx := HGX.out
    subst hgx
    exact efree_out (w := w) _ 0 _ { data := #[] } HE.out.1 rfl rfl rfl (Nat.le_succ _) HE.out.2
end Go.Proofs.YtdnobplhfbgbaaaGreatDoor
