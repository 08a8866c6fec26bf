/-
  Contracts: edit's place.
-/
import Derived.Test.YtdnobplhfbgbaaaGreatDoorMXc
import Derived.Test.YtdnobplhfbgbaaaGreatDoorMXb
import Derived.Test.YtdnobplhfbgbaaaGreatDoorMUv
namespace Go.Proofs.YtdnobplhfbgbaaaGreatDoor
open Go.RowKit Go.Joins

namespace PN
theorem join_small : ∀ (l : List (List UInt8)), (∀ x ∈ l, x.length ≤ 6) → (Lib.join l [47]).length ≤ 7 * l.length
  | [], _ => by simp [Lib.join]
  | [x], h => by
    have := h x (by simp)
    simp [Lib.join]
    omega
  | x :: y :: l, h => by
    have h1 := h x (by simp)
    have h2 := join_small (y :: l) fun z hz => h z (List.mem_cons_of_mem _ hz)
    rw [join_cons_cons, List.length_append, List.length_cons]
    simp at h2 ⊢
    omega
theorem path_small {o : Bool} {l : List ByteArray} (h : ∀ x ∈ l, ok o x.data.toList = true) (h8 : l.length ≤ 8) : (path l).size ≤ 57 := by
  have h1 := join_small (l.map (·.data.toList)) (by
    intro x hx
    obtain ⟨y, hy, rfl⟩ := List.mem_map.1 hx
    exact (own_pos (ok_own (h y hy))).2)
  rw [List.length_map] at h1
  have h2 : (path l).size = (Lib.join (l.map (·.data.toList)) [47]).length + 1 := by
    unfold path mk
    simp [ByteArray.size]
  omega
end PN
/-- Two cells laid into a box. -/
def put2 (w : World) (g : Nat) (a b : Value) : World := (w.setCell ⟨g, 0, none⟩ a).setCell ⟨g, 1, none⟩ b
theorem Bx.put2 {W : World} {gx : Nat} {t : TypeId} {cur : Array Value} (hx : Bx W gx t cur) (hs : cur.size = 2) (a b : Value) : Bx (put2 W gx a b) gx t #[a, b] := by
  have h3 := (hx.set 0 a).set 1 b
  have e3 : (cur.setIfInBounds 0 a).setIfInBounds 1 b = #[a, b] := by
    obtain ⟨l⟩ := cur
    match l, hs with
    | [_, _], _ => rfl
  rw [e3] at h3
  exact h3
theorem put2_below {B : Nat} {w W : World} {gx : Nat} (hb : Below B w W) (hg : B ≤ gx) (a b : Value) : Below B w (put2 W gx a b) := (hb.setCell (p := ⟨gx, 0, none⟩) hg _).setCell (p := ⟨gx, 1, none⟩) hg _
theorem eplace_out {w W : World} {gx B : Nat} {cur : Array Value} (tmps : Array Value) (a er : Int) (s : ByteArray) (hx : Bx W gx 144 cur) (hs : cur.size = 2) (ht : tmps[4]? = some (.pointer (some ⟨gx, 0, none⟩))) (h5 : tmps[5]? = some (.int .i64 er)) (hg : B ≤ gx) (hb : Below B w W) :
    bodyPost Tryz.prog Tryz.f126 (fun e w' => e = .returned (.tuple #[.agg #[.int .i64 a, .string s], .int .i64 er]) ∧ Below B w w') Exit.ret { tmps := tmps, defers := [] } (put2 W gx (.int .i64 a) (.string s)) := by
  have h3 := hx.put2 hs (.int .i64 a) (.string s)
  have hend := put2_below hb hg (.int .i64 a) (.string s)
  have c0 := h3.cell 0
  have c1 := h3.cell 1
  refine bodyPost_ret (v := .tuple #[.agg #[.int .i64 a, .string s], .int .i64 er]) ?_ rfl ⟨rfl, hend⟩
  generalize put2 W gx (.int .i64 a) (.string s) = W2 at *
  simp at c0 c1
  simp [results, Tryz.results126, go_sem, ht, h5, c0, c1]
set_option maxRecDepth 100000 in
set_option maxHeartbeats 8000000 in
theorem eplace_any (A U : Option Addr) (c M d : Nat) (t : List PT.N) (l : List ByteArray) (o : Bool) (w : World) (hml : Ml w) (h : Ts w (.slice A 9 c) t) (g : PT.Fine t) (hs : Ss w (.slice U M d) l) (hM : l.length = M) (hd : M ≤ d) (h8 : M ≤ 8) (hok : ∀ x ∈ l, PN.ok o x.data.toList = true) :
    Calls Tryz.prog 126 #[.agg #[.slice A 9 c, .bool o], .slice U M d] w fun e w' => e = .returned (.tuple #[.agg #[.int .i64 (PT.plc t l).1, .string (PT.plc t l).2.1], .int .i64 (PT.plc t l).2.2]) ∧ Below w.heap.size w w' := by
  have hb1 := al w (.cells #[.slice A 9 c, .bool o] 97)
  have hx1 := Bx.new w 97 #[.slice A 9 c, .bool o]
  have hz1 : (w.alloc (.cells #[.slice A 9 c, .bool o] 97)).heap.size = w.heap.size + 1 := by simp
  have hb2 := hb1.alloc hb1.size (.cells #[.int .i64 0, .string { data := #[] }] 144)
  have hx2 := Bx.new (w.alloc (.cells #[.slice A 9 c, .bool o] 97)) 144 #[.int .i64 0, .string { data := #[] }]
  have hx1 := hx1.alloc (.cells #[.int .i64 0, .string { data := #[] }] 144)
  rw [hz1] at hx2
  have hml2 := hml.below hb2
  have h2 := h.below hb2
  have hs2 := hs.below hb2
  have h9 := g.len
  have hz2 : ((w.alloc (.cells #[.slice A 9 c, .bool o] 97)).alloc (.cells #[.int .i64 0, .string { data := #[] }] 144)).heap.size = w.heap.size + 2 := by simp
  clear h hs hml hb1 hz1
  rcases Classical.em (l = []) with hl | hl
  · subst hl
    obtain rfl : M = 0 := by rw [← hM]; rfl
    rw [show PT.plc t [] = (0, { data := #[] }, 3) from rfl]
    clear hs2 h2 hml2 hok
    go_enter Tryz.func126, Tryz.ntmps126
    go_upto_region 1 with fail
    generalize (w.alloc (.cells #[.slice A 9 c, .bool o] 97)).alloc (.cells #[.int .i64 0, .string { data := #[] }] 144) = w2 at *
    have a0 := hx2.cell 0
    have a1 := hx2.cell 1
    have f0 := hx2.frozen 0
    have f1 := hx2.frozen 1
    simp at a0 a1
    have HE := Lib.hid (And.intro hx2 hb2)
    clear hx1 hx2 hb2
    go_wp2
    (try simp only [Exit.inBlock, Exit.then])
    exact eplace_out (w := w) (W := w2) _ 0 3 { data := #[] } HE.out.1 rfl rfl rfl (Nat.le_succ _) HE.out.2
  obtain ⟨m, hm⟩ : ∃ m, M = m + 1 := by
    cases l with
    | nil => exact absurd rfl hl
    | cons a r => exact ⟨r.length, by rw [← hM]; rfl⟩
  obtain ⟨Uf, df, hdf, hrun, hsub⟩ := Ss.sub (A := U) (n := M) (c := d) (p := m) hM (by omega) hd
  have hdl : l.take m = l.dropLast := by rw [List.dropLast_eq_take, hM, hm]; rfl
  have hsub2 : ∀ W, Ss W (.slice U M d) l → Ss W (.slice Uf m df) l.dropLast := fun W h => hdl ▸ hsub W h
  have hw1 : IntKind.i64.wrap ((M : Int) - 1) = (m : Int) := by rw [IntKind.wrap_i64]; omega
  have hM0 : ((M : Int) == 0) = false := by simp; omega
  have hdok : ∀ x ∈ l.dropLast, PN.ok o x.data.toList = true := fun x hx => hok x (by rw [List.dropLast_eq_take] at hx; exact List.mem_of_mem_take hx)
  have hdlen : l.dropLast.length = m := by rw [List.length_dropLast, hM, hm]; rfl
  have hfind : ∀ W, Below w.heap.size w W → Ml W → Ts W (.slice A 9 c) t → Calls Tryz.prog 16 #[.slice A 9 c, .string (PN.path l.dropLast), .bool o] W fun e w' => e = .returned (.tuple #[.int .i64 (PT.walk t 0 l.dropLast).1, .int .i64 (PT.walk t 0 l.dropLast).2]) ∧ Below W.heap.size W w' := fun W _ hm2 hT => by
    have := tfind_any (.slice A 9 c) t (PN.path l.dropLast) o W hm2 hT g (by
      have := PN.path_small (o := o) hdok (by omega)
      omega)
    rw [PT.pp_path hdok (by omega)] at this
    exact this
  have HWALK := Lib.hid hfind
  obtain ⟨⟨q1, q2, q3⟩, hR⟩ : ∃ q, PT.plc t l = q := ⟨_, rfl⟩
  rw [hR]
  dsimp only
  have HR := Lib.hid hR
  clear hR
  have hlast : l[m]? = some (PT.last l) := by
    have := PT.last_append hl
    rw [this, List.getElem?_append_right (by omega), hdlen]
    simp [PT.last]
  obtain ⟨p, hp⟩ : ∃ p, PT.walk t 0 l.dropLast = p := ⟨_, rfl⟩
  obtain ⟨pa, pb⟩ := p
  have HP := Lib.hid hp
  have HLN := Lib.hid hl
  have HL := Lib.hid hlast
  have HG := Lib.hid g
  have HM := Lib.hid hM
  have HOK := Lib.hid hok
  have hmM : m < M := by omega
  clear hlast hp hl hsub hdl hok hM h9 hdok hdlen g hm
  go_enter Tryz.func126, Tryz.ntmps126
  go_upto_region 1 with fail
  generalize hw2 : (w.alloc (.cells #[.slice A 9 c, .bool o] 97)).alloc (.cells #[.int .i64 0, .string { data := #[] }] 144) = w2 at *
  generalize hgx : w.heap.size = g1 at *
  have hwc : ∀ W, Below w2.heap.size w2 W → W.cell? ⟨g1, 0, none⟩ = some (.slice A 9 c) ∧ W.cell? ⟨g1, 1, none⟩ = some (.bool o) := fun W hW => (hx1.on hW).work
  have hfi : ∀ W, Below w2.heap.size w2 W → Calls Tryz.prog 16 #[.slice A 9 c, .string (PN.path l.dropLast), .bool o] W fun e w' => e = .returned (.tuple #[.int .i64 pa, .int .i64 pb]) ∧ Below W.heap.size W w' := fun W hW => by
    have := HWALK.out W (hb2.trans (hW.mono (by have := hb2.size; omega))) (hml2.below hW) (h2.below hW)
    rw [HP.out] at this
    exact this
  have HW := Lib.hid hwc
  have HFI := Lib.hid hfi
  have HS := Lib.hid (fun W (hW : Below w2.heap.size w2 W) => hsub2 W (hs2.below hW))
  have HB2 := Lib.hid hb2
  have HX2 := Lib.hid hx2
  have HT := Lib.hid h2
  have HS0 := Lib.hid hs2
  clear hwc hfi hsub2 hb2 hx1 hx2 h2 hs2 hfind hml2 HWALK hw2
  have HGX := Lib.hid hgx
  clear hgx
  go_upto_region 4 with fail
  refine wp_region_grow Tryz.checked.mixed (by kernel_rfl) (fun W => Below w2.heap.size w2 W)
    (fun i v W => match i with
      | 0 => v = .pointer (some ⟨g1, 0, none⟩)
      | 1 => v = .slice A 9 c
      | 2 => v = .slice U M d
      | 3 => v = .int .i64 (m : Int)
      | 4 => v = .slice Uf m df
      | 5 => v = .string (PN.path l.dropLast)
      | 6 => v = .pointer (some ⟨g1, 1, none⟩)
      | 7 => v = .bool o
      | 8 => v = .tuple #[.int .i64 pa, .int .i64 pb]
      | 9 => v = .tuple #[.int .i64 pa, .int .i64 pb]
      | 10 => v = .int .i64 pa
      | 11 => v = .int .i64 pb
      | 12 => v = .int .i64 pa
      | _ => v = .int .i64 pb) ?hS ?hR ?start ?each ?fin
  case hS =>
    intro W W' h hb
    exact h.trans (hb.mono h.size)
  case hR =>
    intro j v W W' h hb
    rcases j with _ | _ | _ | _ | _ | _ | _ | _ | _ | _ | _ | _ | _ | j <;> first | exact h | exact Es.below h hb | exact Ss.below h hb
  case start => exact (Below.refl _ _).drew
  case each =>
    intro i hi a W hold hp h6 K hK
    rcases i with _ | _ | _ | _ | _ | _ | _ | _ | _ | _ | _ | _ | _ | i
    · skip
      have s2 := hold 2 rfl
      simp [predsOf, Region.binds, slotV] at hp
      refine wpOp_of rfl rfl ?_
      simp at s2
      go_simp
      exact hK _ _ (by simp) (Below.refl _ _) rfl
    · skip
      simp [predsOf, Region.binds, slotV] at hp
      refine wpOp_of rfl rfl ?_
      have e1 := (HW.out W h6).1
      go_simp
      exact hK _ _ (by simp) (Below.refl _ _) rfl
    · skip
      have s1 := hold 1 rfl
      simp [predsOf, Region.binds, slotV] at hp
      refine wpOp_of rfl rfl ?_
      simp at s1
      go_simp
      exact hK _ _ (by simp) (Below.refl _ _) rfl
    · skip
      have s6 := hold 6 rfl
      simp [predsOf, Region.binds, slotV] at hp
      refine wpOp_of rfl rfl ?_
      simp at s6
      go_simp
      exact hK _ _ (by simp) (Below.refl _ _) rfl
    · skip
      simp [predsOf, Region.binds, slotV] at hp
      refine wpOp_of rfl rfl ?_
      have hr := hrun W
      go_simp
      exact hK _ _ (by simp) (Below.refl _ _) rfl
    · skip
      simp [predsOf, Region.binds, slotV] at hp
      refine wpOp_of rfl rfl ?_
      go_simp
      refine (path_any _ _ W (HS.out W h6) (fun A n c e => by cases e; exact hdf)).mono ?_
      rintro e W2 ⟨rfl, hB⟩
      exact hK _ _ (by simp) hB rfl
    · skip
      have s2 := hold 2 rfl
      simp [predsOf, Region.binds, slotV] at hp
      refine wpOp_of rfl rfl ?_
      simp at s2
      go_simp
      exact hK _ _ (by simp) (Below.refl _ _) rfl
    · skip
      simp [predsOf, Region.binds, slotV] at hp
      refine wpOp_of rfl rfl ?_
      have e1 := (HW.out W h6).2
      go_simp
      exact hK _ _ (by simp) (Below.refl _ _) rfl
    · skip
      simp [predsOf, Region.binds, slotV] at hp
      refine wpOp_of rfl rfl ?_
      go_simp
      refine (HFI.out W h6).mono ?_
      rintro e W2 ⟨rfl, hB⟩
      exact hK _ _ (by simp) hB rfl
    · skip
      simp [predsOf, Region.binds, slotV] at hp
      refine wpOp_of rfl rfl ?_
      go_simp
      exact hK _ _ (by simp) (Below.refl _ _) (by simp)
    · skip
      simp [predsOf, Region.binds, slotV] at hp
      refine wpOp_of rfl rfl ?_
      go_simp
      exact hK _ _ (by simp) (Below.refl _ _) (by simp)
    · skip
      simp [predsOf, Region.binds, slotV] at hp
      refine wpOp_of rfl rfl ?_
      go_simp
      exact hK _ _ (by simp) (Below.refl _ _) (by simp)
    · skip
      simp [predsOf, Region.binds, slotV] at hp
      refine wpOp_of rfl rfl ?_
      go_simp
      exact hK _ _ (by simp) (Below.refl _ _) (by simp)
    · have i0 : i = 0 := by simp at hi; omega
      subst i0
      simp [predsOf, Region.binds, slotV] at hp
      refine wpOp_of rfl rfl ?_
      go_simp
      exact hK _ _ (by simp) (Below.refl _ _) (by simp)
  case fin =>
    intro vs W hRs h6
    have r0 := hRs 0 (by decide)
    have r1 := hRs 1 (by decide)
    have r2 := hRs 2 (by decide)
    have r3 := hRs 3 (by decide)
    have r4 := hRs 4 (by decide)
    have r5 := hRs 5 (by decide)
    have r6 := hRs 6 (by decide)
    have r7 := hRs 7 (by decide)
    have r8 := hRs 8 (by decide)
    have r9 := hRs 9 (by decide)
    have r10 := hRs 10 (by decide)
    have r11 := hRs 11 (by decide)
    have r12 := hRs 12 (by decide)
    have r13 := hRs 13 (by decide)
    simp at r0 r1 r2 r3 r4 r5 r6 r7 r8 r9 r10 r11 r12 r13
    simp only [putAll, List.foldl_cons, List.foldl_nil, Act.put, List.setIfInBounds_toArray, List.set_cons_succ, List.set_cons_zero, r0, r1, r2, r3, r4, r5, r6, r7, r8, r9, r10, r11, r12, r13]
    have hb6 := HB2.out.trans (h6.mono (by have := HB2.out.size; omega))
    have hx6 := HX2.out.on h6
    have hw6 := HW.out W h6
    have ht6 := HT.out.below h6
    have hs6 := HS0.out.below h6
    clear hRs r0 r1 r2 r3 r4 r5 r6 r7 r8 r9 r10 r11 r12 r13
    have a0 := hx6.cell 0
    have a1 := hx6.cell 1
    have f0 := hx6.frozen 0
    have f1 := hx6.frozen 1
    simp at a0 a1
    have hg2 : g1 + 1 < W.heap.size := hx6.lt
    have HE := Lib.hid (And.intro hx6 hb6)
    obtain ⟨c0, c1⟩ := hw6
    clear hx6 hb6 h6
    rcases Classical.em (pb = 0) with hz | hz
    · obtain ⟨k, n, hk, hk9, hn, _, _⟩ := HG.out.walk_yes (l := l.dropLast) (by rw [HP.out]; exact hz)
      have hk1 := HP.out.symm.trans hk
      injection hk1 with hk1 hk2
      clear hz
      subst hk2
      have hpa : pa = (k : Int) + 1 := by omega
      subst hpa
      clear hk1
      have hat := eat_any A c t o k n W ht6 HG.out.len hn
      have hpk := PT.kindAt_at hn
      have hfo := fun W => efolder_any n W
      obtain ⟨b1, o1, rfl, hb1, hcs⟩ := hs6.at (by rw [HM.out]; omega)
      have hlc := hcs m _ HL.out
      have HPK := Lib.hid hpk
      have HFO := Lib.hid hfo
      have HLC := Lib.hid hlc
      clear hcs hn hk hlc hpk hfo ht6 hs6
      by_cases hk2 : n.kind = 2
      · have hR := PT.plc_yes HLN.out HP.out (by rw [show PT.px ((k : Int) + 1) = k by unfold PT.px; omega, HPK.out]; exact hk2)
        rw [decide_eq_true hk2] at HFO
        have e := HR.out.symm.trans hR
        injection e with e1 e
        injection e with e2 e3
        subst e1 e2 e3
        clear hR hk2
        go_wp2_with (first | (go_at_call 125; refine (HFO.out w3).mono ?_; rintro e w4 ⟨rfl, hB4⟩; have hc := (hB3.trans (hB4.mono hB3.size)); have a0' := (hc.cell (p := ⟨g1 + 1, 0, none⟩) hg2).trans a0; have a1' := (hc.cell (p := ⟨g1 + 1, 1, none⟩) hg2).trans a1; have hlc := (hc.cell (p := ⟨b1, o1 + m, none⟩) hb1).trans HLC.out; have hx4 := HE.out.1.on hc; have f0' := hx4.frozen 0; have f1' := hx4.frozen 1; have hb4 := HE.out.2.trans (hc.mono (by omega)); have HE4 := Lib.hid (And.intro hx4 hb4); clear hx4 hb4 a0 a1 f0 f1) | (go_at_call 156; refine hat.mono ?_; rintro e w3 ⟨rfl, hB3⟩))
        (try simp only [Exit.inBlock, Exit.then])
        have hgx := HGX.out
        subst hgx
        exact eplace_out (w := w) _ ((k : Int) + 1) 0 (PT.last l) HE4.out.1 rfl rfl rfl (Nat.le_succ _) HE4.out.2
      · have hR := PT.plc_nodir HLN.out HP.out (by rw [show PT.px ((k : Int) + 1) = k by unfold PT.px; omega, HPK.out]; exact hk2)
        rw [decide_eq_false hk2] at HFO
        have e := HR.out.symm.trans hR
        injection e with e1 e
        injection e with e2 e3
        subst e1 e2 e3
        clear hR hk2
        go_wp2_with (first | (go_at_call 125; refine (HFO.out w3).mono ?_; rintro e w4 ⟨rfl, hB4⟩; have hc := (hB3.trans (hB4.mono hB3.size)); have a0' := (hc.cell (p := ⟨g1 + 1, 0, none⟩) hg2).trans a0; have a1' := (hc.cell (p := ⟨g1 + 1, 1, none⟩) hg2).trans a1; have hx4 := HE.out.1.on hc; have f0' := hx4.frozen 0; have f1' := hx4.frozen 1; have hb4 := HE.out.2.trans (hc.mono (by omega)); have HE4 := Lib.hid (And.intro hx4 hb4); clear hx4 hb4 a0 a1 f0 f1) | (go_at_call 156; refine hat.mono ?_; rintro e w3 ⟨rfl, hB3⟩))
        (try simp only [Exit.inBlock, Exit.then])
        have hgx := HGX.out
        subst hgx
        exact eplace_out (w := w) _ 0 5 { data := #[] } HE4.out.1 rfl rfl rfl (Nat.le_succ _) HE4.out.2
    · have hR := PT.plc_no HLN.out HP.out hz
      have hpb : (pb == 0) = false := by simpa using hz
      have e := HR.out.symm.trans hR
      injection e with e1 e
      injection e with e2 e3
      subst e1 e2 e3
      clear hR hz ht6 hs6
      go_wp2
      (try simp only [Exit.inBlock, Exit.then])
      have hgx := HGX.out
      subst hgx
      exact eplace_out (w := w) (W := W) _ 0 _ { data := #[] } HE.out.1 rfl rfl rfl (Nat.le_succ _) HE.out.2
end Go.Proofs.YtdnobplhfbgbaaaGreatDoor
