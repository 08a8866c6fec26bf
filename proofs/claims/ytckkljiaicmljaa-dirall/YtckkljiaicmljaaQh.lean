/-
  Contracts: dir.Find, dir.With, dir.Less.
-/
import Derived.Test.YtckkljiaicmljaaQg
namespace Go.Proofs.Ytckkljiaicmljaa
open Go.RowKit Go.Joins

theorem Eo.base {w : World} {a b : Nat} {v : Value} {l : List E} (h : Eo w b v l) (hab : a ≤ b) : Eo w a v l :=
  ⟨h.1, h.2.imp id fun ⟨g, cap, cur, a1, a2, a3⟩ => ⟨g, cap, cur, a1, Nat.le_trans hab a2, a3⟩⟩
theorem isAt_lt {l : List E} {n : ByteArray} (h : PD.isAt l n = true) : ∃ x, l[PD.place l n]? = some x ∧ PD.find l n = x.2 := by
  cases hx : l[PD.place l n]? with
  | none => rw [PD.isAt, hx] at h; cases h
  | some x => exact ⟨x, rfl, by rw [PD.find, h, if_pos rfl, PD.inoAt, hx]⟩

set_option maxHeartbeats 4000000 in
theorem find_any (v : Value) (l : List E) (n : ByteArray) (w : World) (h : Es w v l) : Calls Try.prog 14 #[v, .string n] w fun e w' => e = .returned (.tuple #[.int .i64 (PD.find l n), .bool (PD.isAt l n)]) ∧ Below w.heap.size w w' := by
  have hp := place_any v l n w h
  obtain ⟨A, c, rfl⟩ := h.form
  have hl := h.2.2
  generalize hL : l.length = L at *
  cases hi : PD.isAt l n with
  | false =>
    have hf : PD.find l n = 0 := by rw [PD.find, hi]; rfl
    rw [hi] at hp
    rw [hf]
    generalize PD.place l n = p at *
    clear hi hf h
    go_enter Try.func14, Try.ntmps14
    go_wp2_with (go_at_call 24; refine hp.mono ?_; rintro e w1 ⟨rfl, hB1⟩)
    go_ret2
    exact ⟨rfl, hB1⟩
  | true =>
    obtain ⟨x, hx, hf⟩ := isAt_lt hi
    rw [hi] at hp
    rw [hf]
    have hpl : PD.place l n < L := by rw [← hL]; exact (List.getElem?_eq_some_iff.1 hx).1
    generalize PD.place l n = p at *
    have H := Lib.hid h
    clear h hi hf
    go_enter Try.func14, Try.ntmps14
    go_wp2_with fail
    refine hp.mono ?_
    rintro e w1 ⟨rfl, hB1⟩
    obtain ⟨b0, o0, rfl, hb0, hcell⟩ := (H.out.below hB1).at (by omega)
    obtain ⟨g0, g1⟩ := hcell p x hx
    obtain ⟨s, z⟩ := x
    dsimp only at g0 g1 ⊢
    clear hcell hx hp H
    go_wp2
    go_ret2
    exact ⟨rfl, hB1⟩

set_option maxRecDepth 100000 in
set_option maxHeartbeats 8000000 in
theorem with_any (v : Value) (l : List E) (s : ByteArray) (z : Int) (w : World) (h : Es w v l) (hcap : ∀ A n c, v = .slice A n c → n ≤ c) (hf1 : Fit [(s, z)]) : Calls Try.prog 16 #[v, .agg #[.string s, .int .i64 z]] w fun e w' => ∃ v', e = .returned (.tuple #[v', .bool (!PD.isAt l s)]) ∧ Eo w' w.heap.size v' (PD.wth l (s, z)) ∧ Below w.heap.size w w' := by
  have hp := fun W (hW : Below w.heap.size w W) => place_any v l s W (h.below hW)
  obtain ⟨A, c, rfl⟩ := h.form
  have hl := h.2.2
  have hnc := hcap _ _ _ rfl
  have hwl : PD.wth l (s, z) = if PD.isAt l s = true then l else l.take (PD.place l s) ++ (s, z) :: l.drop (PD.place l s) := rfl
  generalize hL : l.length = L at *
  have hpl : PD.place l s ≤ L := by rw [← hL]; exact PD.place_le l s
  clear hcap
  have hb1 := al w (.cells #[.string s, .int .i64 z] 26)
  have hbx1 := Bx.new w 26 #[.string s, .int .i64 z]
  cases hi : PD.isAt l s with
  | true =>
    rw [hi, if_pos rfl] at hwl
    rw [hwl]
    rw [hi] at hp
    generalize PD.place l s = p at *
    have HL := Lib.hid hL
    have H := Lib.hid h
    clear hi hwl hL h
    go_enter Try.func16, Try.ntmps16
    go_upto_region 1 with fail
    generalize w.alloc (.cells #[.string s, .int .i64 z] 26) = w2 at *
    generalize hgx : w.heap.size = gx at hbx1
    obtain ⟨c0, c1⟩ := hbx1.pair
    go_wp2_with fail
    refine (hp _ hb1).mono ?_
    rintro e w1 ⟨rfl, hB1⟩
    have hbw := hb1.trans (hB1.mono hb1.size)
    clear hp c0 c1 hbx1 hb1 hB1 hgx
    have hE := H.out.below hbw
    have hLl := fun W (hW : Below w.heap.size w W) => Ll.new W #[.slice A L c] (0, 0) 1 1 _ rfl [(.slice A L c, l)] rfl rfl (by intro x hx; simp at hx; subst hx; exact H.out.below hW) (by decide)
    have hj := joined_any _ _ _ (hLl w1 hbw)
    have hba := al w1 (.cells #[.slice A L c] 23)
    clear hLl hE
    go_wp2_with fail
    refine hj.mono ?_
    rintro e w3 ⟨v3, rfl, hO3, hB3⟩
    have hb3 := hbw.trans ((hba.trans (hB3.mono hba.size)).mono hbw.size)
    have hO := hO3.base (hbw.trans (hba.mono hbw.size)).size
    simp only [all, List.flatMap_cons, List.flatMap_nil, List.append_nil] at hO
    have HO := Lib.hid hO
    clear hO hO3 hB3 hbw hba hj
    go_wp2
    go_ret2
    exact ⟨_, rfl, HO.out, hb3⟩
  | false =>
    rw [hi, if_neg (by decide)] at hwl
    rw [hwl]
    rw [hi] at hp
    generalize PD.place l s = p at *
    obtain ⟨Af, cf, hcf, hfr, hef'⟩ := Es.front (A := A) (n := L) (c := c) (p := p) hL hpl hnc
    obtain ⟨Ar, cr, hcr, hrr, her'⟩ := Es.rest (A := A) (n := L) (c := c) (p := p) hL hpl hnc
    have H := Lib.hid h
    clear hi hwl h
    go_enter Try.func16, Try.ntmps16
    go_upto_region 1 with fail
    generalize w.alloc (.cells #[.string s, .int .i64 z] 26) = w2 at *
    generalize hgx : w.heap.size = gx at hbx1
    obtain ⟨c0, c1⟩ := hbx1.pair
    go_wp2_with fail
    refine (hp _ hb1).mono ?_
    rintro e w1 ⟨rfl, hB1⟩
    have hbw := hb1.trans (hB1.mono hb1.size)
    have hbx := hbx1.on hB1
    have hef := fun W (hW : Below w1.heap.size w1 W) => hef' W ((H.out.below hbw).below hW)
    have her := fun W (hW : Below w1.heap.size w1 W) => her' W ((H.out.below hbw).below hW)
    clear hp c0 c1 hbx1 hb1 hB1 hef' her'
    generalize w1 = w2 at *
    have HGX := Lib.hid hgx
    clear hgx
    go_upto_region 4 with fail

    refine wp_region_grow Try.checked.mixed (by kernel_rfl) (fun W => Below w2.heap.size w2 W)
      (fun i v W => match i with
        | 0 => v = .slice A L c
        | 1 => v = .int .i64 (p : Int)
        | 2 => v = .slice Af p cf
        | 3 => v = .agg #[.string s, .int .i64 z]
        | 4 => ∃ g, v = .slice (some ⟨g, 0, none⟩) 1 1 ∧ Es W v [(s, z)]
        | 5 => v = .slice A L c
        | 6 => v = .int .i64 (p : Int)
        | 7 => v = .slice Ar (L - p) cr
        | 8 => ∃ g e, v = .slice (some ⟨g, 0, none⟩) 3 3 ∧ Ll W v [(.slice Af p cf, l.take p), (e, [(s, z)]), (.slice Ar (L - p) cr, l.drop p)]
        | 9 => Eo W w.heap.size v (l.take p ++ (s, z) :: l.drop p)
        | 10 => Eo W w.heap.size v (l.take p ++ (s, z) :: l.drop p)
        | _ => v = .bool true) ?hS ?hR ?start ?each ?fin
    case hS =>
      intro W W' h hb
      exact h.trans (hb.mono h.size)
    case hR =>
      intro j v W W' h hb
      rcases j with _ | _ | _ | _ | _ | _ | _ | _ | _ | _ | _ | j <;> first | exact h | exact Eo.on h hb | exact ⟨h.choose, h.choose_spec.1, h.choose_spec.2.below hb⟩ | exact ⟨h.choose, h.choose_spec.choose, h.choose_spec.choose_spec.1, h.choose_spec.choose_spec.2.below hb⟩
    case start => exact (Below.refl _ _).drew
    case each =>
      intro i hi a W hold hp h6 K hK
      rcases i with _ | _ | _ | _ | _ | _ | _ | _ | _ | _ | _ | i
      · have s := hold 0 rfl
        simp [predsOf, Region.binds, slotV] at hp
        refine wpOp_of rfl rfl ?_
        simp at s
        go_simp
        exact hK _ _ (by simp) (Below.refl _ _) rfl
      · have s := hold 6 rfl
        simp [predsOf, Region.binds, slotV] at hp
        refine wpOp_of rfl rfl ?_
        simp at s
        go_simp
        exact hK _ _ (by simp) (Below.refl _ _) rfl
      · simp [predsOf, Region.binds, slotV] at hp
        refine wpOp_of rfl rfl ?_
        go_simp
        exact hK _ _ (by simp) (Below.refl _ _) rfl
      · have s3 := hold 3 rfl
        simp [predsOf, Region.binds, slotV] at hp
        refine wpOp_of rfl rfl ?_
        simp at s3
        obtain ⟨c0, c1⟩ := (hbx.on h6).pair
        go_simp
        exact hK _ _ (by simp) (Below.refl _ _) rfl
      · simp [predsOf, Region.binds, slotV] at hp
        refine wpOp_of rfl rfl ?_
        go_simp
        exact hK _ _ (by simp) (al _ _) ⟨_, rfl, Es.new W #[.string s, .int .i64 z] (0, 0) 1 1 _ rfl [(s, z)] rfl rfl hf1⟩
      · have s := hold 0 rfl
        simp [predsOf, Region.binds, slotV] at hp
        refine wpOp_of rfl rfl ?_
        simp at s
        go_simp
        exact hK _ _ (by simp) (Below.refl _ _) rfl
      · have s := hold 6 rfl
        simp [predsOf, Region.binds, slotV] at hp
        refine wpOp_of rfl rfl ?_
        simp at s
        go_simp
        exact hK _ _ (by simp) (Below.refl _ _) rfl
      · simp [predsOf, Region.binds, slotV] at hp
        refine wpOp_of rfl rfl ?_
        go_simp
        exact hK _ _ (by simp) (Below.refl _ _) rfl
      · simp [predsOf, Region.binds, slotV] at hp
        refine wpOp_of rfl rfl ?_
        obtain ⟨p2, ⟨⟨g, p4⟩, p4'⟩, p7⟩ := hp
        have q1 := hef W h6
        have q2 := her W h6
        rw [p4] at p4'
        go_simp
        refine hK _ _ (by simp) (al _ _) ⟨_, _, rfl, Ll.new W #[.slice Af p cf, .slice (some ⟨g, 0, none⟩) 1 1, .slice Ar (L - p) cr] (0, 0) 3 3 _ rfl [(.slice Af p cf, l.take p), (.slice (some ⟨g, 0, none⟩) 1 1, [(s, z)]), (.slice Ar (L - p) cr, l.drop p)] rfl rfl ?_ (by decide)⟩
        intro x hx
        simp at hx
        rcases hx with rfl | rfl | rfl
        · exact q1
        · exact p4'
        · exact q2
      · simp [predsOf, Region.binds, slotV] at hp
        refine wpOp_of rfl rfl ?_
        obtain ⟨⟨g, p1⟩, e, p2⟩ := hp
        have hj := joined_any _ _ W p2
        rw [p1] at hj
        go_simp
        refine hj.mono ?_
        rintro e1 W' ⟨v', rfl, hO, hB'⟩
        exact hK _ _ (by simp) hB' (by simpa [all] using hO.base (hbw.trans (h6.mono hbw.size)).size)
      · simp [predsOf, Region.binds, slotV] at hp
        refine wpOp_of rfl rfl ?_
        go_simp
        exact hK _ _ (by simp) (Below.refl _ _) hp.1
      · have i0 : i = 0 := by simp at hi; omega
        subst i0
        simp [predsOf, Region.binds, slotV] at hp
        refine wpOp_of rfl rfl ?_
        go_simp
        exact hK _ _ (by simp) (Below.refl _ _) rfl
    case fin =>
      intro vs W hRs h6
      have r10 := hRs 10 (by decide)
      have r11 := hRs 11 (by decide)
      simp at r10 r11
      simp only [putAll, List.foldl_cons, List.foldl_nil, Act.put, List.setIfInBounds_toArray, List.set_cons_succ, List.set_cons_zero, r11]
      generalize vs (some 4) = V4 at *
      have hbz := hbw.trans (h6.mono hbw.size)
      clear hRs r11 hfr hrr hef her
      go_wp2
      go_ret2
      exact ⟨_, rfl, r10, hbz⟩

set_option maxRecDepth 100000 in
set_option maxHeartbeats 8000000 in
theorem less_any (v : Value) (l : List E) (s : ByteArray) (w : World) (h : Es w v l) (hcap : ∀ A n c, v = .slice A n c → n ≤ c) : Calls Try.prog 18 #[v, .string s] w fun e w' => ∃ v', e = .returned (.tuple #[v', .bool (PD.isAt l s)]) ∧ Eo w' w.heap.size v' (PD.less l s) ∧ Below w.heap.size w w' := by
  have hp := place_any v l s w h
  obtain ⟨A, c, rfl⟩ := h.form
  have hl := h.2.2
  have hnc := hcap _ _ _ rfl
  have hwl : PD.less l s = if PD.isAt l s = true then l.take (PD.place l s) ++ l.drop (PD.place l s + 1) else l := rfl
  have hpl : PD.place l s ≤ l.length := PD.place_le l s
  have hplt : PD.isAt l s = true → PD.place l s < l.length := fun e => by
    obtain ⟨x, hx, _⟩ := isAt_lt e
    exact (List.getElem?_eq_some_iff.1 hx).1
  generalize hL : l.length = L at *
  clear hcap
  cases hi : PD.isAt l s with
  | false =>
    rw [hi, if_neg (by decide)] at hwl
    rw [hwl]
    rw [hi] at hp
    generalize PD.place l s = p at *
    have HL := Lib.hid hL
    have H := Lib.hid h
    clear hi hwl hL h hplt
    go_enter Try.func18, Try.ntmps18
    go_wp2_with fail
    refine hp.mono ?_
    rintro e w1 ⟨rfl, hbw⟩
    clear hp
    have hLl := fun W (hW : Below w.heap.size w W) => Ll.new W #[.slice A L c] (0, 0) 1 1 _ rfl [(.slice A L c, l)] rfl rfl (by intro x hx; simp at hx; subst hx; exact H.out.below hW) (by decide)
    have hj := joined_any _ _ _ (hLl w1 hbw)
    have hba := al w1 (.cells #[.slice A L c] 23)
    clear hLl
    go_wp2_with fail
    refine hj.mono ?_
    rintro e w3 ⟨v3, rfl, hO3, hB3⟩
    have hb3 := hbw.trans ((hba.trans (hB3.mono hba.size)).mono hbw.size)
    have hO := hO3.base (hbw.trans (hba.mono hbw.size)).size
    simp only [all, List.flatMap_cons, List.flatMap_nil, List.append_nil] at hO
    have HO := Lib.hid hO
    clear hO hO3 hB3 hbw hba hj
    go_wp2
    go_ret2
    exact ⟨_, rfl, HO.out, hb3⟩
  | true =>
    have hlt := hplt hi
    rw [hi, if_pos rfl] at hwl
    rw [hwl]
    rw [hi] at hp
    generalize PD.place l s = p at *
    obtain ⟨Af, cf, hcf, hfr, hef'⟩ := Es.front (A := A) (n := L) (c := c) (p := p) hL hpl hnc
    obtain ⟨Ar, cr, hcr, hrr, her'⟩ := Es.rest (A := A) (n := L) (c := c) (p := p + 1) hL (by omega) hnc
    rw [show ((p + 1 : Nat) : Int) = (p : Int) + 1 by omega] at hrr
    have H := Lib.hid h
    have hw1 : IntKind.i64.wrap ((p : Int) + 1) = (p : Int) + 1 := by rw [IntKind.wrap_i64]; omega
    clear hi hwl h hplt
    go_enter Try.func18, Try.ntmps18
    go_wp2_with fail
    refine hp.mono ?_
    rintro e w2 ⟨rfl, hbw⟩
    have hef := fun W (hW : Below w2.heap.size w2 W) => hef' W ((H.out.below hbw).below hW)
    have her := fun W (hW : Below w2.heap.size w2 W) => her' W ((H.out.below hbw).below hW)
    clear hp hef' her'
    go_upto_region 4 with fail
    refine wp_region_grow Try.checked.mixed (by kernel_rfl) (fun W => Below w2.heap.size w2 W)
      (fun i v W => match i with
        | 0 => v = .slice A L c
        | 1 => v = .int .i64 (p : Int)
        | 2 => v = .slice Af p cf
        | 3 => v = .slice A L c
        | 4 => v = .int .i64 (p : Int)
        | 5 => v = .int .i64 ((p : Int) + 1)
        | 6 => v = .slice Ar (L - (p + 1)) cr
        | 7 => ∃ g, v = .slice (some ⟨g, 0, none⟩) 2 2 ∧ Ll W v [(.slice Af p cf, l.take p), (.slice Ar (L - (p + 1)) cr, l.drop (p + 1))]
        | 8 => Eo W w.heap.size v (l.take p ++ l.drop (p + 1))
        | 9 => Eo W w.heap.size v (l.take p ++ l.drop (p + 1))
        | _ => v = .bool true) ?hS ?hR ?start ?each ?fin
    case hS =>
      intro W W' h hb
      exact h.trans (hb.mono h.size)
    case hR =>
      intro j v W W' h hb
      rcases j with _ | _ | _ | _ | _ | _ | _ | _ | _ | _ | j <;> first | exact h | exact Eo.on h hb | exact ⟨h.choose, h.choose_spec.1, h.choose_spec.2.below hb⟩ | exact ⟨h.choose, h.choose_spec.choose, h.choose_spec.choose_spec.1, h.choose_spec.choose_spec.2.below hb⟩
    case start => exact (Below.refl _ _).drew
    case each =>
      intro i hi a W hold hp h6 K hK
      rcases i with _ | _ | _ | _ | _ | _ | _ | _ | _ | _ | i
      · have s := hold 0 rfl
        simp [predsOf, Region.binds, slotV] at hp
        refine wpOp_of rfl rfl ?_
        simp at s
        go_simp
        exact hK _ _ (by simp) (Below.refl _ _) rfl
      · have s := hold 6 rfl
        simp [predsOf, Region.binds, slotV] at hp
        refine wpOp_of rfl rfl ?_
        simp at s
        go_simp
        exact hK _ _ (by simp) (Below.refl _ _) rfl
      · simp [predsOf, Region.binds, slotV] at hp
        refine wpOp_of rfl rfl ?_
        go_simp
        exact hK _ _ (by simp) (Below.refl _ _) rfl
      · have s := hold 0 rfl
        simp [predsOf, Region.binds, slotV] at hp
        refine wpOp_of rfl rfl ?_
        simp at s
        go_simp
        exact hK _ _ (by simp) (Below.refl _ _) rfl
      · have s := hold 6 rfl
        simp [predsOf, Region.binds, slotV] at hp
        refine wpOp_of rfl rfl ?_
        simp at s
        go_simp
        exact hK _ _ (by simp) (Below.refl _ _) rfl
      · simp [predsOf, Region.binds, slotV] at hp
        refine wpOp_of rfl rfl ?_
        go_simp
        exact hK _ _ (by simp) (Below.refl _ _) (by simp)
      · simp [predsOf, Region.binds, slotV] at hp
        refine wpOp_of rfl rfl ?_
        go_simp
        exact hK _ _ (by simp) (Below.refl _ _) rfl
      · simp [predsOf, Region.binds, slotV] at hp
        refine wpOp_of rfl rfl ?_
        have q1 := hef W h6
        have q2 := her W h6
        go_simp
        refine hK _ _ (by simp) (al _ _) ⟨_, rfl, Ll.new W #[.slice Af p cf, .slice Ar (L - (p + 1)) cr] (0, 0) 2 2 _ rfl [(.slice Af p cf, l.take p), (.slice Ar (L - (p + 1)) cr, l.drop (p + 1))] rfl rfl ?_ (by decide)⟩
        intro x hx
        simp at hx
        rcases hx with rfl | rfl
        · exact q1
        · exact q2
      · simp [predsOf, Region.binds, slotV] at hp
        refine wpOp_of rfl rfl ?_
        obtain ⟨⟨g, p1⟩, p2⟩ := hp
        have hj := joined_any _ _ W p2
        rw [p1] at hj
        go_simp
        refine hj.mono ?_
        rintro e1 W' ⟨v', rfl, hO, hB'⟩
        exact hK _ _ (by simp) hB' (by simpa [all] using hO.base (hbw.trans (h6.mono hbw.size)).size)
      · simp [predsOf, Region.binds, slotV] at hp
        refine wpOp_of rfl rfl ?_
        go_simp
        exact hK _ _ (by simp) (Below.refl _ _) hp.1
      · have i0 : i = 0 := by simp at hi; omega
        subst i0
        simp [predsOf, Region.binds, slotV] at hp
        refine wpOp_of rfl rfl ?_
        go_simp
        exact hK _ _ (by simp) (Below.refl _ _) rfl
    case fin =>
      intro vs W hRs h6
      have r10 := hRs 9 (by decide)
      have r11 := hRs 10 (by decide)
      simp at r10 r11
      simp only [putAll, List.foldl_cons, List.foldl_nil, Act.put, List.setIfInBounds_toArray, List.set_cons_succ, List.set_cons_zero, r11]
      generalize vs (some 4) = V4 at *
      have hbz := hbw.trans (h6.mono hbw.size)
      clear hRs r11 hfr hrr hef her
      go_wp2
      go_ret2
      exact ⟨_, rfl, r10, hbz⟩
end Go.Proofs.Ytckkljiaicmljaa
