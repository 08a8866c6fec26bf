/-
  Contract: edit's take.
-/
import Derived.Test.YtdnobplhfbgbaaaGreatDoorXg
namespace Go.Proofs.YtdnobplhfbgbaaaGreatDoor
open Go.RowKit Go.Joins

set_option maxRecDepth 100000 in
set_option maxHeartbeats 4000000 in
theorem etake_any (g c base : Nat) (t : List PT.N) (o : Bool) (k : Nat) (n : PT.N) (x : ByteArray) (w : World) (hto : To 27 w base (.slice (some ⟨g, 0, none⟩) 9 c) t) (hfit : FitN t) (h9 : t.length = 9) (hn : t[k]? = some n) (hk2 : n.kind = 2) :
    Calls Tryz.prog 129 #[.agg #[.slice (some ⟨g, 0, none⟩) 9 c, .bool o], .agg #[.int .i64 ((k : Int) + 1), .string x]] w fun e w' => e = .returned (.tuple #[]) ∧ To 27 w' base (.slice (some ⟨g, 0, none⟩) 9 c) (PT.take t k x) ∧ Nw g w w' := by
  have h := hto.row hfit
  have hb1 := al w (.cells #[.slice (some ⟨g, 0, none⟩) 9 c, .bool o] 97)
  have hx1 := Bx.new w 97 #[.slice (some ⟨g, 0, none⟩) 9 c, .bool o]
  have hz1 : (w.alloc (.cells #[.slice (some ⟨g, 0, none⟩) 9 c, .bool o] 97)).heap.size = w.heap.size + 1 := by simp
  have hb2 := hb1.alloc hb1.size (.cells #[.int .i64 ((k : Int) + 1), .string x] 144)
  have hx2 := Bx.new (w.alloc (.cells #[.slice (some ⟨g, 0, none⟩) 9 c, .bool o] 97)) 144 #[.int .i64 ((k : Int) + 1), .string x]
  have hx1 := hx1.alloc (.cells #[.int .i64 ((k : Int) + 1), .string x] 144)
  rw [hz1] at hx2
  have hw2s : ((w.alloc (.cells #[.slice (some ⟨g, 0, none⟩) 9 c, .bool o] 97)).alloc (.cells #[.int .i64 ((k : Int) + 1), .string x] 144)).heap.size = w.heap.size + 2 := by simp
  have hk9 : k < 9 := by have := (List.getElem?_eq_some_iff.1 hn).1; omega
  have hmm := PT.tl_ents hk2
  have hsrt := PT.ents_srt n
  have hfitm := PT.ents_fit n
  have hat := fun W (hW : Below w.heap.size w W) => eat_any (some ⟨g, 0, none⟩) c t o k n W (h.below hW) h9 hn
  have hnm := fun W => enames_any n W
  rw [hmm] at hnm
  have HTO := Lib.hid hto
  have HN := Lib.hid hn
  have H9 := Lib.hid h9
  have hw1 : IntKind.i64.wrap ((k : Int) + 1 - 1) = (k : Int) := by rw [IntKind.wrap_i64]; omega
  have hT : PT.take t k x = t.set k ⟨n.kind, n.mode, PD.put (PD.rless (PT.ents n) x)⟩ := by
    rw [PT.take, hn]
    rfl
  have hls := PD.less_same x hsrt
  have hf2 := PT.fit_rless (x := x) hfitm
  rw [← hls] at hT hf2
  generalize PT.ents n = m at *
  have hfd := fun v W (h : Ec W v m) => dless_any v m x W h.1 h.2
  obtain ⟨b, hb⟩ : ∃ b, PD.isAt m x = b := ⟨_, rfl⟩
  rw [hb] at hfd
  obtain ⟨m2, hm2⟩ : ∃ m2, PD.less m x = m2 := ⟨_, rfl⟩
  rw [hm2] at hfd hT hf2
  have HNM := Lib.hid hnm
  have HLS := Lib.hid (fun v W (h : Ec W v m) => (hfd v W h).mono (R' := fun e w' => ∃ v', e = .returned (.tuple #[v', .bool b]) ∧ Ec w' v' m2 ∧ Below W.heap.size W w') fun e w' ⟨v', h1, h2, h3⟩ => ⟨v', h1, h2.ec hf2, h3⟩)
  have HT2 := Lib.hid hT
  clear hnm hfd hls hb hm2 hmm hsrt hfitm hf2 h hb1 hz1 hn hk2 hto h9 hfit hT
  go_enter Tryz.func129, Tryz.ntmps129
  go_upto_region 1 with fail
  generalize hw2 : (w.alloc (.cells #[.slice (some ⟨g, 0, none⟩) 9 c, .bool o] 97)).alloc (.cells #[.int .i64 ((k : Int) + 1), .string x] 144) = w2 at *
  generalize hgx : w.heap.size = g1 at *
  have HW := Lib.hid (fun W (hW : Below w2.heap.size w2 W) => (hx1.on hW).work)
  have HPB := Lib.hid (fun W (hW : Below w2.heap.size w2 W) => (hx2.on hW).place)
  have HB2 := Lib.hid hb2
  have HX1 := Lib.hid hx1
  have HX2 := Lib.hid hx2
  have HGX := Lib.hid hgx
  have hz2 := hw2s
  have HAT := Lib.hid (fun W (hW : Below w2.heap.size w2 W) => hat W (hb2.trans (hW.mono (by omega))))
  clear hat hb2 hx1 hx2 hw2 hgx hw2s
  refine wp_region_grow Tryz.checked.mixed (by kernel_rfl) (fun W => Below w2.heap.size w2 W)
    (fun i v W => match i with
      | 0 => v = .agg #[.slice (some ⟨g, 0, none⟩) 9 c, .bool o]
      | 1 => v = .pointer (some ⟨g1 + 1, 0, none⟩)
      | 2 => v = .int .i64 ((k : Int) + 1)
      | 3 => v = nodeV n
      | 4 => Ec W v m
      | 5 => v = .pointer (some ⟨g1 + 1, 1, none⟩)
      | 6 => v = .string x
      | 7 => ∃ v1, v = .tuple #[v1, .bool b] ∧ Ec W v1 m2
      | 8 => ∃ v1, v = .tuple #[v1, .bool b] ∧ Ec W v1 m2
      | 9 => Ec W v m2
      | 10 => v = .bool b
      | 11 => Ec W v m2
      | _ => v = .bool b) ?hS ?hR ?start ?each ?fin
  case hS =>
    intro W W' h hb
    exact h.trans (hb.mono h.size)
  case hR =>
    intro j v W W' h hb
    rcases j with _ | _ | _ | _ | _ | _ | _ | _ | _ | _ | _ | _ | j <;> first | exact h | exact Es.below h hb | exact Ss.below h hb | exact Ec.below h hb | exact ⟨h.choose, h.choose_spec.1, h.choose_spec.2.below hb⟩
  case start => exact (Below.refl _ _).drew
  case each =>
    intro i hi a W hold hp h6 K hK
    rcases i with _ | _ | _ | _ | _ | _ | _ | _ | _ | _ | _ | _ | i
    · skip
      have s2 := hold 2 rfl
      simp [predsOf, Region.binds, slotV] at hp
      refine wpOp_of rfl rfl ?_
      simp at s2
      obtain ⟨e1, e2⟩ := HW.out W h6
      go_simp
      exact hK _ _ (by simp) (Below.refl _ _) rfl
    · skip
      have s3 := hold 3 rfl
      simp [predsOf, Region.binds, slotV] at hp
      refine wpOp_of rfl rfl ?_
      simp at s3
      go_simp
      exact hK _ _ (by simp) (Below.refl _ _) rfl
    · skip
      simp [predsOf, Region.binds, slotV] at hp
      refine wpOp_of rfl rfl ?_
      have e1 := (HPB.out W h6).1
      go_simp
      exact hK _ _ (by simp) (Below.refl _ _) rfl
    · skip
      simp [predsOf, Region.binds, slotV] at hp
      refine wpOp_of rfl rfl ?_
      go_simp
      refine (HAT.out W h6).mono ?_
      rintro e W2 ⟨rfl, hB⟩
      exact hK _ _ (by simp) hB rfl
    · skip
      simp [predsOf, Region.binds, slotV] at hp
      refine wpOp_of rfl rfl ?_
      go_simp
      refine (HNM.out W).mono ?_
      rintro e W2 ⟨v2, rfl, hO, hF, hB'⟩
      exact hK _ _ (by simp) hB' (hO.ec hF)
    · skip
      have s3 := hold 3 rfl
      simp [predsOf, Region.binds, slotV] at hp
      refine wpOp_of rfl rfl ?_
      simp at s3
      go_simp
      exact hK _ _ (by simp) (Below.refl _ _) rfl
    · skip
      simp [predsOf, Region.binds, slotV] at hp
      refine wpOp_of rfl rfl ?_
      have e1 := (HPB.out W h6).2
      go_simp
      exact hK _ _ (by simp) (Below.refl _ _) rfl
    · skip
      simp [predsOf, Region.binds, slotV] at hp
      refine wpOp_of rfl rfl ?_
      go_simp
      refine (HLS.out _ W hp.1).mono ?_
      rintro e W2 ⟨v2, rfl, hO, hB⟩
      exact hK _ _ (by simp) hB ⟨_, rfl, hO⟩
    · skip
      simp [predsOf, Region.binds, slotV] at hp
      refine wpOp_of rfl rfl ?_
      go_simp
      exact hK _ _ (by simp) (Below.refl _ _) (by first | (simpa using hp) | (simpa using hp.1))
    · skip
      simp [predsOf, Region.binds, slotV] at hp
      obtain ⟨v1, p1, p2⟩ := hp
      refine wpOp_of rfl rfl ?_
      go_simp
      exact hK _ _ (by simp) (Below.refl _ _) (by simpa using p2)
    · skip
      simp [predsOf, Region.binds, slotV] at hp
      obtain ⟨v1, p1, p2⟩ := hp
      refine wpOp_of rfl rfl ?_
      go_simp
      exact hK _ _ (by simp) (Below.refl _ _) (by simp)
    · skip
      simp [predsOf, Region.binds, slotV] at hp
      refine wpOp_of rfl rfl ?_
      go_simp
      exact hK _ _ (by simp) (Below.refl _ _) (by first | (simpa using hp) | (simpa using hp.1))
    · have i0 : i = 0 := by simp at hi; omega
      subst i0
      simp [predsOf, Region.binds, slotV] at hp
      refine wpOp_of rfl rfl ?_
      go_simp
      exact hK _ _ (by simp) (Below.refl _ _) (by simp)
  case fin =>
    intro vs W hRs h6
    have r0 := hRs 0 (by decide)
    have r1 := hRs 1 (by decide)
    have r2 := hRs 2 (by decide)
    have r3 := hRs 3 (by decide)
    have r5 := hRs 5 (by decide)
    have r6 := hRs 6 (by decide)
    have r10 := hRs 10 (by decide)
    have r12 := hRs 12 (by decide)
    simp at r0 r1 r2 r3 r5 r6 r10 r12
    simp only [putAll, List.foldl_cons, List.foldl_nil, Act.put, List.setIfInBounds_toArray, List.set_cons_succ, List.set_cons_zero, r0, r1, r2, r3, r5, r6, r10, r12]
    have hb6 := HB2.out.trans (h6.mono (by omega))
    have hE := hRs 11 (by decide)
    simp at hE
    generalize vs (some 4) = V4 at *
    generalize vs (some 13) = V13 at *
    generalize vs (some 8) = V8 at *
    generalize vs (some 16) = V16 at *
    generalize vs (some 17) = V17 at *
    have HE := Lib.hid hE
    clear hRs hE r0 r1 r2 r3 r5 r6 r10 r12
    go_wp2_with (go_at_call 159; go_loud (refine (dput_any _ _ _ HE.out.1).mono ?_; rintro e w4 ⟨rfl, hB4⟩; have h64 := h6.trans (hB4.mono h6.size); have hb4 := hb6.trans (hB4.mono (by have := h6.size; omega)); have hO4 := HTO.out.on (by rw [HGX.out]; exact hb4); obtain ⟨cur, hbr, hge, hsz, hnc⟩ := hO4.box (by decide); have d2 := (hbr.cell (k * 3 + 2)).trans (Array.getElem?_eq_getElem (by omega)); have f2 := hbr.frozen (k * 3 + 2); obtain ⟨c0, c1⟩ := HW.out w4 h64; obtain ⟨p0, p1⟩ := HPB.out w4 h64))
    go_end0
    have hgx := HGX.out
    subst hgx
    refine ⟨rfl, ?_, (Nw.of hb4).trans Nw.cell⟩
    rw [HT2.out]
    exact hO4.body (by rw [H9.out]) HN.out _
end Go.Proofs.YtdnobplhfbgbaaaGreatDoor
