/-
  Contracts: edit's faces at any tree; begun of layer 9.
-/
import Derived.Test.YtdnobplhfbgbaaaGreatDoorXt
import Derived.Test.YtdnobplhfbgbaaaGreatDoorMXb
import Derived.Test.YtdnobplhfbgbaaaGreatDoorMUo
namespace Go.Proofs.YtdnobplhfbgbaaaGreatDoor
open Go.RowKit Go.Joins

theorem emakeV (v : Value) (t : List PT.N) (o : Bool) (s : ByteArray) (kd md ino : Int) (w : World) (hml : Ml w) (h : Ts w v t) (g : PT.Fine t) (hs : s.size ≤ 65535) : Calls Tryz.prog 24 #[v, .string s, .int .i64 kd, .int .i64 md, .int .i64 ino, .bool o] w fun e w' => ∃ v', e = .returned (.tuple #[v', .int .i64 (PT.make t (PT.pp o s) kd md ino).2]) ∧ Ts w' v' (PT.make t (PT.pp o s) kd md ino).1 ∧ Below w.heap.size w w' := by
  obtain ⟨A, c, rfl⟩ := h.form
  rw [g.len] at h ⊢
  refine (emakeF_any A c t o s kd md ino w hml h g hs).mono ?_
  rintro e w' ⟨g', c', rfl, h1, h2⟩
  exact ⟨_, rfl, h1.row (PT.make_fine g (PT.pp o s) kd md ino).fit, h2⟩
theorem elinkV (v : Value) (t : List PT.N) (o : Bool) (s1 s2 : ByteArray) (w : World) (hml : Ml w) (h : Ts w v t) (g : PT.Fine t) (hs1 : s1.size ≤ 65535) (hs2 : s2.size ≤ 65535) : Calls Tryz.prog 27 #[v, .string s1, .string s2, .bool o] w fun e w' => ∃ v', e = .returned (.tuple #[v', .int .i64 (PT.link t (PT.pp o s1) (PT.pp o s2)).2]) ∧ Ts w' v' (PT.link t (PT.pp o s1) (PT.pp o s2)).1 ∧ Below w.heap.size w w' := by
  obtain ⟨A, c, rfl⟩ := h.form
  rw [g.len] at h ⊢
  refine (elinkF_any A c t o s1 s2 w hml h g hs1 hs2).mono ?_
  rintro e w' ⟨g', c', rfl, h1, h2⟩
  exact ⟨_, rfl, h1.row (PT.link_fine g (PT.pp o s1) (PT.pp o s2)).fit, h2⟩
theorem emoveV (v : Value) (t : List PT.N) (o : Bool) (s1 s2 : ByteArray) (w : World) (hml : Ml w) (h : Ts w v t) (g : PT.Fine t) (hs1 : s1.size ≤ 65535) (hs2 : s2.size ≤ 65535) : Calls Tryz.prog 29 #[v, .string s1, .string s2, .bool o] w fun e w' => ∃ v', e = .returned (.tuple #[v', .int .i64 (PT.move t (PT.pp o s1) (PT.pp o s2)).2]) ∧ Ts w' v' (PT.move t (PT.pp o s1) (PT.pp o s2)).1 ∧ Below w.heap.size w w' := by
  obtain ⟨A, c, rfl⟩ := h.form
  rw [g.len] at h ⊢
  refine (emoveF_any A c t o s1 s2 w hml h g hs1 hs2).mono ?_
  rintro e w' ⟨g', c', rfl, h1, h2⟩
  exact ⟨_, rfl, h1.row (PT.move_fine g (PT.pp o s1) (PT.pp o s2)).fit, h2⟩
theorem edropV (v : Value) (t : List PT.N) (o : Bool) (s : ByteArray) (w : World) (hml : Ml w) (h : Ts w v t) (g : PT.Fine t) (hs : s.size ≤ 65535) : Calls Tryz.prog 31 #[v, .string s, .bool o] w fun e w' => ∃ v', e = .returned (.tuple #[v', .int .i64 (PT.drop t (PT.pp o s)).2]) ∧ Ts w' v' (PT.drop t (PT.pp o s)).1 ∧ Below w.heap.size w w' := by
  obtain ⟨A, c, rfl⟩ := h.form
  rw [g.len] at h ⊢
  refine (edropF_any A c t o s w hml h g hs).mono ?_
  rintro e w' ⟨g', c', rfl, h1, h2⟩
  exact ⟨_, rfl, h1.row (PT.drop_fine g (PT.pp o s)).fit, h2⟩
namespace PT
def be1 : List N × Int := make new (pp false { data := #[47, 97] }) 1 6 0
def be2 : List N × Int := link be1.1 (pp false { data := #[47, 97] }) (pp false { data := #[47, 98] })
def be3 : List N × Int := move be2.1 (pp false { data := #[47, 98] }) (pp false { data := #[47, 99] })
def be4 : List N × Int := drop be3.1 (pp false { data := #[47, 97] })
theorem be_facts : be1.2 = 0 ∧ be2.2 = 0 ∧ be3.2 = 0 ∧ be4.2 = 0 ∧ (drop be4.1 (pp false { data := #[47, 97] })).2 = 2 ∧ find be4.1 (pp false { data := #[47, 99] }) = (2, 0) := by decide +kernel
end PT
set_option maxRecDepth 100000 in
set_option maxHeartbeats 4000000 in
theorem ebegun_any (w : World) (hml : Ml w) : Calls Tryz.prog 19 #[] w fun e w' => e = .returned (.bool true) ∧ Below w.heap.size w w' := by
  obtain ⟨f1, f2, f3, f4, f5, f6⟩ := PT.be_facts
  have g1 : PT.Fine PT.be1.1 := PT.make_fine PT.new_fine _ _ _ _
  have g2 : PT.Fine PT.be2.1 := PT.link_fine g1 _ _
  have g3 : PT.Fine PT.be3.1 := PT.move_fine g2 _ _
  have g4 : PT.Fine PT.be4.1 := PT.drop_fine g3 _
  have h1 := fun v W (hm : Ml W) (h : Ts W v PT.new) => emakeV v PT.new false { data := #[47, 97] } 1 6 0 W hm h PT.new_fine (by decide)
  have h2 := fun v W (hm : Ml W) (h : Ts W v PT.be1.1) => elinkV v PT.be1.1 false { data := #[47, 97] } { data := #[47, 98] } W hm h g1 (by decide) (by decide)
  have h3 := fun v W (hm : Ml W) (h : Ts W v PT.be2.1) => emoveV v PT.be2.1 false { data := #[47, 98] } { data := #[47, 99] } W hm h g2 (by decide) (by decide)
  have h4 := fun v W (hm : Ml W) (h : Ts W v PT.be3.1) => edropV v PT.be3.1 false { data := #[47, 97] } W hm h g3 (by decide)
  have h5 := fun v W (hm : Ml W) (h : Ts W v PT.be4.1) => edropV v PT.be4.1 false { data := #[47, 97] } W hm h g4 (by decide)
  have h6 := fun v W (h : Ts W v PT.be4.1) => rtfind_any v PT.be4.1 { data := #[47, 99] } false W h g4 (by decide)
  change ∀ v W (hm : Ml W) (h : Ts W v PT.new), Calls _ _ _ _ (fun e w' => ∃ v', e = .returned (.tuple #[v', .int .i64 PT.be1.2]) ∧ Ts w' v' PT.be1.1 ∧ Below W.heap.size W w') at h1
  change ∀ v W (hm : Ml W) (h : Ts W v PT.be1.1), Calls _ _ _ _ (fun e w' => ∃ v', e = .returned (.tuple #[v', .int .i64 PT.be2.2]) ∧ Ts w' v' PT.be2.1 ∧ Below W.heap.size W w') at h2
  change ∀ v W (hm : Ml W) (h : Ts W v PT.be2.1), Calls _ _ _ _ (fun e w' => ∃ v', e = .returned (.tuple #[v', .int .i64 PT.be3.2]) ∧ Ts w' v' PT.be3.1 ∧ Below W.heap.size W w') at h3
  change ∀ v W (hm : Ml W) (h : Ts W v PT.be3.1), Calls _ _ _ _ (fun e w' => ∃ v', e = .returned (.tuple #[v', .int .i64 PT.be4.2]) ∧ Ts w' v' PT.be4.1 ∧ Below W.heap.size W w') at h4
  rw [f1] at h1
  rw [f2] at h2
  rw [f3] at h3
  rw [f4] at h4
  rw [f5] at h5
  rw [f6] at h6
  have HML := Lib.hid hml
  have H1 := Lib.hid h1
  have H2 := Lib.hid h2
  have H3 := Lib.hid h3
  have H4 := Lib.hid h4
  have H5 := Lib.hid h5
  have H6 := Lib.hid h6
  clear f1 f2 f3 f4 f5 f6 g1 g2 g3 g4 h1 h2 h3 h4 h5 h6 hml
  go_enter Tryz.func19, Tryz.ntmps19
  go_wp2_with (first
    | (go_at_call 37; go_loud (refine (H6.out v4 _ (hT4.below hB5)).mono ?_; rintro e w6 ⟨rfl, hB6⟩; have hb6 := hb5.trans (hB6.mono hb5.size)))
    | (go_at_call 31; refine (H5.out v4 _ (HML.out.below hb4) hT4).mono ?_; rintro e w5 ⟨v5, rfl, hT5, hB5⟩; have hb5 := hb4.trans (hB5.mono hb4.size))
    | (go_at_call 31; go_loud (refine (H4.out v3 _ (HML.out.below hb3) hT3).mono ?_; rintro e w4 ⟨v4, rfl, hT4, hB4⟩; have hb4 := hb3.trans (hB4.mono hb3.size)))
    | (go_at_call 29; go_loud (refine (H3.out v2 _ (HML.out.below hb2) hT2).mono ?_; rintro e w3 ⟨v3, rfl, hT3, hB3⟩; have hb3 := hb2.trans (hB3.mono hb2.size)))
    | (go_at_call 27; go_loud (refine (H2.out v1 _ (HML.out.below hb1) hT1).mono ?_; rintro e w2 ⟨v2, rfl, hT2, hB2⟩; have hb2 := hb1.trans (hB2.mono hb1.size)))
    | (go_at_call 24; go_loud (refine (H1.out v0 _ (HML.out.below hB0) hT0).mono ?_; rintro e w1 ⟨v1, rfl, hT1, hB1⟩; have hb1 := hB0.trans (hB1.mono hB0.size)))
    | (go_at_call 33; go_loud (refine (rnew_any w).mono ?_; rintro e w0 ⟨v0, rfl, hO0, hB0⟩; have hT0 := hO0.row PT.new_fit)))
  go_ret
  exact ⟨rfl, hb6⟩
end Go.Proofs.YtdnobplhfbgbaaaGreatDoor
