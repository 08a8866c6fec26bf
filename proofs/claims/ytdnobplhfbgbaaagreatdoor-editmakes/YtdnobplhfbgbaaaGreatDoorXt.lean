/-
  Contracts: edit's Make, Link, Drop, Move, whole.
-/
import Derived.Test.YtdnobplhfbgbaaaGreatDoorXs
import Derived.Test.YtdnobplhfbgbaaaGreatDoorMXb
namespace Go.Proofs.YtdnobplhfbgbaaaGreatDoor
open Go.RowKit Go.Joins

theorem PT.shape_small {n : PT.N} (h : PT.shape n) : n.body.size ≤ 120 := by
  rcases h with rfl | ⟨_, _, _, h⟩
  · decide
  · exact h
namespace PT
theorem link_no {t : List N} {p q : Option (List ByteArray)} (h : (link t p q).2 ≠ 0) : (link t p q).1 = t := by
  unfold link at h ⊢
  split
  · rename_i f l
    exact link2_no (f := f) (l := l) (by simpa using h)
  · rfl
theorem move_no {t : List N} {p q : Option (List ByteArray)} (h : (move t p q).2 ≠ 0) : (move t p q).1 = t := by
  unfold move at h ⊢
  split
  · rename_i f l
    exact move2_no (f := f) (l := l) (by simpa using h)
  · rfl
theorem drop_no {t : List N} {p : Option (List ByteArray)} (h : (drop t p).2 ≠ 0) : (drop t p).1 = t := by
  unfold drop drop2 at h ⊢
  repeat' split
  all_goals first | rfl | (exfalso; simp_all)
theorem make_no {t : List N} {p : Option (List ByteArray)} {kd md ino : Int} (h : (make t p kd md ino).2 ≠ 0) : (make t p kd md ino).1 = t := by
  unfold make make2 make3 at h ⊢
  repeat' split
  all_goals first | rfl | (exfalso; simp_all)
end PT
set_option maxRecDepth 100000 in
set_option maxHeartbeats 4000000 in
theorem eclos_link (g0 c base : Nat) (t : List PT.N) (o : Bool) (s1 s2 : ByteArray) (b0 b1 : Nat) (w : World) (hml : Ml w) (hto : To 27 w base (.slice (some ⟨g0, 0, none⟩) 9 c) t) (g : PT.Fine t) (hs1 : s1.size ≤ 65535) (hs2 : s2.size ≤ 65535) (h0 : Bx w b0 9 #[.string s1]) (h1 : Bx w b1 9 #[.string s2]) :
    Calls Tryz.prog 78 #[.agg #[.slice (some ⟨g0, 0, none⟩) 9 c, .bool o], .pointer (some ⟨b0, 0, none⟩), .pointer (some ⟨b1, 0, none⟩)] w fun e w' => e = .returned (.int .i64 (PT.link t (PT.pp o s1) (PT.pp o s2)).2) ∧ ((PT.link t (PT.pp o s1) (PT.pp o s2)).2 = 0 → To 27 w' base (.slice (some ⟨g0, 0, none⟩) 9 c) (PT.link t (PT.pp o s1) (PT.pp o s2)).1) ∧ Nw g0 w w' := by
  have hb1 := al w (.cells #[.slice (some ⟨g0, 0, none⟩) 9 c, .bool o] 97)
  have hx1 := Bx.new w 97 #[.slice (some ⟨g0, 0, none⟩) 9 c, .bool o]
  have hml1 := hml.below hb1
  have hto1 := hto.on hb1
  have h0' := h0.alloc (.cells #[.slice (some ⟨g0, 0, none⟩) 9 c, .bool o] 97)
  have h1' := h1.alloc (.cells #[.slice (some ⟨g0, 0, none⟩) 9 c, .bool o] 97)
  have hcall0 := (elink_any g0 c base t o s1 s2 _ hml1 hto1 g hs1 hs2)
  have hcall := hcall0.mono (R' := fun e w' => e = .returned (.int .i64 (PT.link t (PT.pp o s1) (PT.pp o s2)).2) ∧ ((PT.link t (PT.pp o s1) (PT.pp o s2)).2 = 0 → To 27 w' base (.slice (some ⟨g0, 0, none⟩) 9 c) (PT.link t (PT.pp o s1) (PT.pp o s2)).1) ∧ Nw g0 (w.alloc (.cells #[.slice (some ⟨g0, 0, none⟩) 9 c, .bool o] 97)) w') fun e w' H => by
    obtain ⟨t', rfl, h1, h2, h3, h4, h5⟩ := H
    exact ⟨rfl, fun h => h2 h ▸ h1, h5⟩
  obtain ⟨⟨x, er⟩, hx⟩ : ∃ x, PT.link t (PT.pp o s1) (PT.pp o s2) = x := ⟨_, rfl⟩
  rw [hx] at hcall ⊢
  dsimp only at hcall ⊢
  have HC := Lib.hid hcall
  have HB := Lib.hid hb1
  clear hml hto g hcall0 hcall hml1 hto1 hx
  have c00 := h0'.cell 0
  have c10 := h1'.cell 0
  simp at c00 c10
  go_enter Tryz.func78, Tryz.ntmps78
  go_upto_region 1 with fail
  generalize w.alloc (.cells #[.slice (some ⟨g0, 0, none⟩) 9 c, .bool o] 97) = w1 at *
  generalize hgx : w.heap.size = g1 at *
  obtain ⟨c0, c1⟩ := hx1.work
  clear hx1 hb1 h0 h0' h1 h1'
  go_wp2_with (go_at_call 79; go_loud (refine HC.out.mono ?_; rintro e w2 ⟨rfl, h2, h5⟩))
  go_ret
  subst hgx
  exact ⟨rfl, h2, (Nw.of HB.out).trans h5⟩
set_option maxRecDepth 100000 in
set_option maxHeartbeats 4000000 in
theorem echanged_link (A : Option Addr) (c : Nat) (t : List PT.N) (o : Bool) (s1 s2 : ByteArray) (b0 b1 : Nat) (w : World) (hml : Ml w) (h : Ts w (.slice A 9 c) t) (g : PT.Fine t) (hs1 : s1.size ≤ 65535) (hs2 : s2.size ≤ 65535) (h0 : Bx w b0 9 #[.string s1]) (h1 : Bx w b1 9 #[.string s2]) :
    Calls Tryz.prog 69 #[.slice A 9 c, .bool o, .func (.func 78) #[] #[.pointer (some ⟨b0, 0, none⟩), .pointer (some ⟨b1, 0, none⟩)]] w fun e w' => ∃ g' c', e = .returned (.tuple #[.slice (some ⟨g', 0, none⟩) 9 c', .int .i64 (PT.link t (PT.pp o s1) (PT.pp o s2)).2]) ∧ To 27 w' w.heap.size (.slice (some ⟨g', 0, none⟩) 9 c') (PT.link t (PT.pp o s1) (PT.pp o s2)).1 ∧ Below w.heap.size w w' := by
  have hma := may_any' (.slice A 9 c) t w h
  rw [(PT.may_iff t).2 g] at hma
  have hcp := fun W (hW : Below w.heap.size w W) => ecopied_any A c t W (h.below hW) g.len (fun n hn => by obtain ⟨k, hk⟩ := List.mem_iff_getElem?.1 hn; exact PT.shape_small (g.shape k n hk))
  have hcl := fun g0 c1 W (hW : Below w.heap.size w W) (hm : Ml W) (hto : To 27 W w.heap.size (.slice (some ⟨g0, 0, none⟩) 9 c1) t) => eclos_link g0 c1 w.heap.size t o s1 s2 b0 b1 W hm hto g hs1 hs2 (h0.on hW) (h1.on hW)
  have hno := fun (h : (PT.link t (PT.pp o s1) (PT.pp o s2)).2 ≠ 0) => PT.link_no h
  obtain ⟨⟨x, er⟩, hx⟩ : ∃ x, PT.link t (PT.pp o s1) (PT.pp o s2) = x := ⟨_, rfl⟩
  rw [hx] at hcl hno ⊢
  dsimp only at hcl hno ⊢
  have HMA := Lib.hid hma
  have HCP := Lib.hid hcp
  have HCL := Lib.hid hcl
  have HML := Lib.hid hml
  have HNO := Lib.hid hno
  clear hma hcp hcl hml h g hx hno h0 h1
  by_cases hz : er = 0
  · subst hz
    go_enter Tryz.func69, Tryz.ntmps69
    go_wp2_with (first | (go_at_call 78; go_loud (refine (HCL.out g0 c1 _ hB22 (HML.out.below hB22) hO2c).mono ?_; rintro e w3 ⟨rfl, hT3, hN3⟩; have hx3 := hx2.nw hN3 (by omega); clear d0 d1; obtain ⟨d0, d1⟩ := hx3.work; have hB3 := Nw.below hB22 hN3 (by omega) (by omega))) | (go_at_call 115; go_loud (refine (HCP.out _ hB1).mono ?_; rintro e w2 ⟨g0, c1, rfl, hO2, hB2⟩; have hB12 := hB1.trans (hB2.mono hB1.size); have hO2b := hO2.base hB1.size; have hlt : g0 < w2.heap.size := (by obtain ⟨cur, hbr, _⟩ := hO2.box (by decide); exact hbr.lt); have hgb : w1.heap.size ≤ g0 := (by obtain ⟨cur, hbr, hge, _⟩ := hO2.box (by decide); exact hge); have hz1 := hB1.size; have hz2 := hB2.size; have hx2 := Bx.new w2 97 #[.slice (some ⟨g0, 0, none⟩) 9 c1, .bool o]; have hB22 := hB12.alloc hB12.size (.cells #[.slice (some ⟨g0, 0, none⟩) 9 c1, .bool o] 97); have hO2c := hO2b.on (al w2 (.cells #[.slice (some ⟨g0, 0, none⟩) 9 c1, .bool o] 97)); obtain ⟨d0, d1⟩ := hx2.work; have hz3 : (w2.alloc (.cells #[.slice (some ⟨g0, 0, none⟩) 9 c1, .bool o] 97)).heap.size = w2.heap.size + 1 := (by simp))) | (go_at_call 15; go_loud (refine HMA.out.mono ?_; rintro e w1 ⟨rfl, hB1⟩)))
    go_ret2
    exact ⟨_, _, rfl, hT3 (by simp), hB3⟩
  · have hqb : (er == 0) = false := by simpa using hz
    have hxt : x = t := HNO.out hz
    subst hxt
    clear hz
    go_enter Tryz.func69, Tryz.ntmps69
    go_wp2_with (first | (go_at_call 115; refine (HCP.out _ hB3).mono ?_; rintro e w4 ⟨g4, c4, rfl, hO4, hB4⟩) | (go_at_call 78; go_loud (refine (HCL.out g0 c1 _ hB22 (HML.out.below hB22) hO2c).mono ?_; rintro e w3 ⟨rfl, hT3, hN3⟩; have hx3 := hx2.nw hN3 (by omega); clear d0 d1; obtain ⟨d0, d1⟩ := hx3.work; have hB3 := Nw.below hB22 hN3 (by omega) (by omega))) | (go_at_call 115; go_loud (refine (HCP.out _ hB1).mono ?_; rintro e w2 ⟨g0, c1, rfl, hO2, hB2⟩; have hB12 := hB1.trans (hB2.mono hB1.size); have hO2b := hO2.base hB1.size; have hlt : g0 < w2.heap.size := (by obtain ⟨cur, hbr, _⟩ := hO2.box (by decide); exact hbr.lt); have hgb : w1.heap.size ≤ g0 := (by obtain ⟨cur, hbr, hge, _⟩ := hO2.box (by decide); exact hge); have hz1 := hB1.size; have hz2 := hB2.size; have hx2 := Bx.new w2 97 #[.slice (some ⟨g0, 0, none⟩) 9 c1, .bool o]; have hB22 := hB12.alloc hB12.size (.cells #[.slice (some ⟨g0, 0, none⟩) 9 c1, .bool o] 97); have hO2c := hO2b.on (al w2 (.cells #[.slice (some ⟨g0, 0, none⟩) 9 c1, .bool o] 97)); obtain ⟨d0, d1⟩ := hx2.work; have hz3 : (w2.alloc (.cells #[.slice (some ⟨g0, 0, none⟩) 9 c1, .bool o] 97)).heap.size = w2.heap.size + 1 := (by simp))) | (go_at_call 15; go_loud (refine HMA.out.mono ?_; rintro e w1 ⟨rfl, hB1⟩)))
    go_ret2
    exact ⟨_, _, rfl, hO4.base hB3.size, hB3.trans (hB4.mono hB3.size)⟩
set_option maxRecDepth 100000 in
set_option maxHeartbeats 4000000 in
theorem elinkF_any (A : Option Addr) (c : Nat) (t : List PT.N) (o : Bool) (s1 s2 : ByteArray) (w : World) (hml : Ml w) (h : Ts w (.slice A 9 c) t) (g : PT.Fine t) (hs1 : s1.size ≤ 65535) (hs2 : s2.size ≤ 65535) :
    Calls Tryz.prog 27 #[.slice A 9 c, .string s1, .string s2, .bool o] w fun e w' => ∃ g' c', e = .returned (.tuple #[.slice (some ⟨g', 0, none⟩) 9 c', .int .i64 (PT.link t (PT.pp o s1) (PT.pp o s2)).2]) ∧ To 27 w' w.heap.size (.slice (some ⟨g', 0, none⟩) 9 c') (PT.link t (PT.pp o s1) (PT.pp o s2)).1 ∧ Below w.heap.size w w' := by
  have hb0 := (Below.refl w.heap.size w).alloc (Below.refl w.heap.size w).size (.cells #[.string s1] 9)
  have hx0 := Bx.new w 9 #[.string s1]
  have hz0 : (w.alloc (.cells #[.string s1] 9)).heap.size = w.heap.size + 1 := by simp
  have hb1 := hb0.alloc hb0.size (.cells #[.string s2] 9)
  have hx1 := Bx.new (w.alloc (.cells #[.string s1] 9)) 9 #[.string s2]
  have hx0 := hx0.alloc (.cells #[.string s2] 9)
  have hz1 : ((w.alloc (.cells #[.string s1] 9)).alloc (.cells #[.string s2] 9)).heap.size = w.heap.size + 2 := by simp
  rw [hz0] at hx1
  have hch := echanged_link A c t o s1 s2 w.heap.size (w.heap.size + 1) _ (hml.below hb1) (h.below hb1) g hs1 hs2 hx0 hx1
  obtain ⟨⟨x, er⟩, hx⟩ : ∃ x, PT.link t (PT.pp o s1) (PT.pp o s2) = x := ⟨_, rfl⟩
  rw [hx] at hch ⊢
  dsimp only at hch ⊢
  have HC := Lib.hid hch
  have HB := Lib.hid hb1
  clear hml h g hx hch hx0 hx1 hb0 hb1
  go_enter Tryz.func27, Tryz.ntmps27
  go_wp2_with (go_at_call 69; go_loud (refine HC.out.mono ?_; rintro e w2 ⟨g', c', rfl, hO, hB⟩))
  go_ret2
  exact ⟨_, _, rfl, hO.base HB.out.size, HB.out.trans (hB.mono HB.out.size)⟩
set_option maxRecDepth 100000 in
set_option maxHeartbeats 4000000 in
theorem eclos_move (g0 c base : Nat) (t : List PT.N) (o : Bool) (s1 s2 : ByteArray) (b0 b1 : Nat) (w : World) (hml : Ml w) (hto : To 27 w base (.slice (some ⟨g0, 0, none⟩) 9 c) t) (g : PT.Fine t) (hs1 : s1.size ≤ 65535) (hs2 : s2.size ≤ 65535) (h0 : Bx w b0 9 #[.string s1]) (h1 : Bx w b1 9 #[.string s2]) :
    Calls Tryz.prog 80 #[.agg #[.slice (some ⟨g0, 0, none⟩) 9 c, .bool o], .pointer (some ⟨b0, 0, none⟩), .pointer (some ⟨b1, 0, none⟩)] w fun e w' => e = .returned (.int .i64 (PT.move t (PT.pp o s1) (PT.pp o s2)).2) ∧ ((PT.move t (PT.pp o s1) (PT.pp o s2)).2 = 0 → To 27 w' base (.slice (some ⟨g0, 0, none⟩) 9 c) (PT.move t (PT.pp o s1) (PT.pp o s2)).1) ∧ Nw g0 w w' := by
  have hb1 := al w (.cells #[.slice (some ⟨g0, 0, none⟩) 9 c, .bool o] 97)
  have hx1 := Bx.new w 97 #[.slice (some ⟨g0, 0, none⟩) 9 c, .bool o]
  have hml1 := hml.below hb1
  have hto1 := hto.on hb1
  have h0' := h0.alloc (.cells #[.slice (some ⟨g0, 0, none⟩) 9 c, .bool o] 97)
  have h1' := h1.alloc (.cells #[.slice (some ⟨g0, 0, none⟩) 9 c, .bool o] 97)
  have hcall0 := (emove_any g0 c base t o s1 s2 _ hml1 hto1 g hs1 hs2)
  have hcall := hcall0.mono (R' := fun e w' => e = .returned (.int .i64 (PT.move t (PT.pp o s1) (PT.pp o s2)).2) ∧ ((PT.move t (PT.pp o s1) (PT.pp o s2)).2 = 0 → To 27 w' base (.slice (some ⟨g0, 0, none⟩) 9 c) (PT.move t (PT.pp o s1) (PT.pp o s2)).1) ∧ Nw g0 (w.alloc (.cells #[.slice (some ⟨g0, 0, none⟩) 9 c, .bool o] 97)) w') fun e w' H => by
    obtain ⟨t', rfl, h1, h2, h3, h4, h5⟩ := H
    exact ⟨rfl, fun h => h2 h ▸ h1, h5⟩
  obtain ⟨⟨x, er⟩, hx⟩ : ∃ x, PT.move t (PT.pp o s1) (PT.pp o s2) = x := ⟨_, rfl⟩
  rw [hx] at hcall ⊢
  dsimp only at hcall ⊢
  have HC := Lib.hid hcall
  have HB := Lib.hid hb1
  clear hml hto g hcall0 hcall hml1 hto1 hx
  have c00 := h0'.cell 0
  have c10 := h1'.cell 0
  simp at c00 c10
  go_enter Tryz.func80, Tryz.ntmps80
  go_upto_region 1 with fail
  generalize w.alloc (.cells #[.slice (some ⟨g0, 0, none⟩) 9 c, .bool o] 97) = w1 at *
  generalize hgx : w.heap.size = g1 at *
  obtain ⟨c0, c1⟩ := hx1.work
  clear hx1 hb1 h0 h0' h1 h1'
  go_wp2_with (go_at_call 81; go_loud (refine HC.out.mono ?_; rintro e w2 ⟨rfl, h2, h5⟩))
  go_ret
  subst hgx
  exact ⟨rfl, h2, (Nw.of HB.out).trans h5⟩
set_option maxRecDepth 100000 in
set_option maxHeartbeats 4000000 in
theorem echanged_move (A : Option Addr) (c : Nat) (t : List PT.N) (o : Bool) (s1 s2 : ByteArray) (b0 b1 : Nat) (w : World) (hml : Ml w) (h : Ts w (.slice A 9 c) t) (g : PT.Fine t) (hs1 : s1.size ≤ 65535) (hs2 : s2.size ≤ 65535) (h0 : Bx w b0 9 #[.string s1]) (h1 : Bx w b1 9 #[.string s2]) :
    Calls Tryz.prog 69 #[.slice A 9 c, .bool o, .func (.func 80) #[] #[.pointer (some ⟨b0, 0, none⟩), .pointer (some ⟨b1, 0, none⟩)]] w fun e w' => ∃ g' c', e = .returned (.tuple #[.slice (some ⟨g', 0, none⟩) 9 c', .int .i64 (PT.move t (PT.pp o s1) (PT.pp o s2)).2]) ∧ To 27 w' w.heap.size (.slice (some ⟨g', 0, none⟩) 9 c') (PT.move t (PT.pp o s1) (PT.pp o s2)).1 ∧ Below w.heap.size w w' := by
  have hma := may_any' (.slice A 9 c) t w h
  rw [(PT.may_iff t).2 g] at hma
  have hcp := fun W (hW : Below w.heap.size w W) => ecopied_any A c t W (h.below hW) g.len (fun n hn => by obtain ⟨k, hk⟩ := List.mem_iff_getElem?.1 hn; exact PT.shape_small (g.shape k n hk))
  have hcl := fun g0 c1 W (hW : Below w.heap.size w W) (hm : Ml W) (hto : To 27 W w.heap.size (.slice (some ⟨g0, 0, none⟩) 9 c1) t) => eclos_move g0 c1 w.heap.size t o s1 s2 b0 b1 W hm hto g hs1 hs2 (h0.on hW) (h1.on hW)
  have hno := fun (h : (PT.move t (PT.pp o s1) (PT.pp o s2)).2 ≠ 0) => PT.move_no h
  obtain ⟨⟨x, er⟩, hx⟩ : ∃ x, PT.move t (PT.pp o s1) (PT.pp o s2) = x := ⟨_, rfl⟩
  rw [hx] at hcl hno ⊢
  dsimp only at hcl hno ⊢
  have HMA := Lib.hid hma
  have HCP := Lib.hid hcp
  have HCL := Lib.hid hcl
  have HML := Lib.hid hml
  have HNO := Lib.hid hno
  clear hma hcp hcl hml h g hx hno h0 h1
  by_cases hz : er = 0
  · subst hz
    go_enter Tryz.func69, Tryz.ntmps69
    go_wp2_with (first | (go_at_call 80; go_loud (refine (HCL.out g0 c1 _ hB22 (HML.out.below hB22) hO2c).mono ?_; rintro e w3 ⟨rfl, hT3, hN3⟩; have hx3 := hx2.nw hN3 (by omega); clear d0 d1; obtain ⟨d0, d1⟩ := hx3.work; have hB3 := Nw.below hB22 hN3 (by omega) (by omega))) | (go_at_call 115; go_loud (refine (HCP.out _ hB1).mono ?_; rintro e w2 ⟨g0, c1, rfl, hO2, hB2⟩; have hB12 := hB1.trans (hB2.mono hB1.size); have hO2b := hO2.base hB1.size; have hlt : g0 < w2.heap.size := (by obtain ⟨cur, hbr, _⟩ := hO2.box (by decide); exact hbr.lt); have hgb : w1.heap.size ≤ g0 := (by obtain ⟨cur, hbr, hge, _⟩ := hO2.box (by decide); exact hge); have hz1 := hB1.size; have hz2 := hB2.size; have hx2 := Bx.new w2 97 #[.slice (some ⟨g0, 0, none⟩) 9 c1, .bool o]; have hB22 := hB12.alloc hB12.size (.cells #[.slice (some ⟨g0, 0, none⟩) 9 c1, .bool o] 97); have hO2c := hO2b.on (al w2 (.cells #[.slice (some ⟨g0, 0, none⟩) 9 c1, .bool o] 97)); obtain ⟨d0, d1⟩ := hx2.work; have hz3 : (w2.alloc (.cells #[.slice (some ⟨g0, 0, none⟩) 9 c1, .bool o] 97)).heap.size = w2.heap.size + 1 := (by simp))) | (go_at_call 15; go_loud (refine HMA.out.mono ?_; rintro e w1 ⟨rfl, hB1⟩)))
    go_ret2
    exact ⟨_, _, rfl, hT3 (by simp), hB3⟩
  · have hqb : (er == 0) = false := by simpa using hz
    have hxt : x = t := HNO.out hz
    subst hxt
    clear hz
    go_enter Tryz.func69, Tryz.ntmps69
    go_wp2_with (first | (go_at_call 115; refine (HCP.out _ hB3).mono ?_; rintro e w4 ⟨g4, c4, rfl, hO4, hB4⟩) | (go_at_call 80; go_loud (refine (HCL.out g0 c1 _ hB22 (HML.out.below hB22) hO2c).mono ?_; rintro e w3 ⟨rfl, hT3, hN3⟩; have hx3 := hx2.nw hN3 (by omega); clear d0 d1; obtain ⟨d0, d1⟩ := hx3.work; have hB3 := Nw.below hB22 hN3 (by omega) (by omega))) | (go_at_call 115; go_loud (refine (HCP.out _ hB1).mono ?_; rintro e w2 ⟨g0, c1, rfl, hO2, hB2⟩; have hB12 := hB1.trans (hB2.mono hB1.size); have hO2b := hO2.base hB1.size; have hlt : g0 < w2.heap.size := (by obtain ⟨cur, hbr, _⟩ := hO2.box (by decide); exact hbr.lt); have hgb : w1.heap.size ≤ g0 := (by obtain ⟨cur, hbr, hge, _⟩ := hO2.box (by decide); exact hge); have hz1 := hB1.size; have hz2 := hB2.size; have hx2 := Bx.new w2 97 #[.slice (some ⟨g0, 0, none⟩) 9 c1, .bool o]; have hB22 := hB12.alloc hB12.size (.cells #[.slice (some ⟨g0, 0, none⟩) 9 c1, .bool o] 97); have hO2c := hO2b.on (al w2 (.cells #[.slice (some ⟨g0, 0, none⟩) 9 c1, .bool o] 97)); obtain ⟨d0, d1⟩ := hx2.work; have hz3 : (w2.alloc (.cells #[.slice (some ⟨g0, 0, none⟩) 9 c1, .bool o] 97)).heap.size = w2.heap.size + 1 := (by simp))) | (go_at_call 15; go_loud (refine HMA.out.mono ?_; rintro e w1 ⟨rfl, hB1⟩)))
    go_ret2
    exact ⟨_, _, rfl, hO4.base hB3.size, hB3.trans (hB4.mono hB3.size)⟩
set_option maxRecDepth 100000 in
set_option maxHeartbeats 4000000 in
theorem emoveF_any (A : Option Addr) (c : Nat) (t : List PT.N) (o : Bool) (s1 s2 : ByteArray) (w : World) (hml : Ml w) (h : Ts w (.slice A 9 c) t) (g : PT.Fine t) (hs1 : s1.size ≤ 65535) (hs2 : s2.size ≤ 65535) :
    Calls Tryz.prog 29 #[.slice A 9 c, .string s1, .string s2, .bool o] w fun e w' => ∃ g' c', e = .returned (.tuple #[.slice (some ⟨g', 0, none⟩) 9 c', .int .i64 (PT.move t (PT.pp o s1) (PT.pp o s2)).2]) ∧ To 27 w' w.heap.size (.slice (some ⟨g', 0, none⟩) 9 c') (PT.move t (PT.pp o s1) (PT.pp o s2)).1 ∧ Below w.heap.size w w' := by
  have hb0 := (Below.refl w.heap.size w).alloc (Below.refl w.heap.size w).size (.cells #[.string s1] 9)
  have hx0 := Bx.new w 9 #[.string s1]
  have hz0 : (w.alloc (.cells #[.string s1] 9)).heap.size = w.heap.size + 1 := by simp
  have hb1 := hb0.alloc hb0.size (.cells #[.string s2] 9)
  have hx1 := Bx.new (w.alloc (.cells #[.string s1] 9)) 9 #[.string s2]
  have hx0 := hx0.alloc (.cells #[.string s2] 9)
  have hz1 : ((w.alloc (.cells #[.string s1] 9)).alloc (.cells #[.string s2] 9)).heap.size = w.heap.size + 2 := by simp
  rw [hz0] at hx1
  have hch := echanged_move A c t o s1 s2 w.heap.size (w.heap.size + 1) _ (hml.below hb1) (h.below hb1) g hs1 hs2 hx0 hx1
  obtain ⟨⟨x, er⟩, hx⟩ : ∃ x, PT.move t (PT.pp o s1) (PT.pp o s2) = x := ⟨_, rfl⟩
  rw [hx] at hch ⊢
  dsimp only at hch ⊢
  have HC := Lib.hid hch
  have HB := Lib.hid hb1
  clear hml h g hx hch hx0 hx1 hb0 hb1
  go_enter Tryz.func29, Tryz.ntmps29
  go_wp2_with (go_at_call 69; go_loud (refine HC.out.mono ?_; rintro e w2 ⟨g', c', rfl, hO, hB⟩))
  go_ret2
  exact ⟨_, _, rfl, hO.base HB.out.size, HB.out.trans (hB.mono HB.out.size)⟩
set_option maxRecDepth 100000 in
set_option maxHeartbeats 4000000 in
theorem eclos_drop (g0 c base : Nat) (t : List PT.N) (o : Bool) (s : ByteArray) (b0 : Nat) (w : World) (hml : Ml w) (hto : To 27 w base (.slice (some ⟨g0, 0, none⟩) 9 c) t) (g : PT.Fine t) (hs : s.size ≤ 65535) (h0 : Bx w b0 9 #[.string s]) :
    Calls Tryz.prog 84 #[.agg #[.slice (some ⟨g0, 0, none⟩) 9 c, .bool o], .pointer (some ⟨b0, 0, none⟩)] w fun e w' => e = .returned (.int .i64 (PT.drop t (PT.pp o s)).2) ∧ ((PT.drop t (PT.pp o s)).2 = 0 → To 27 w' base (.slice (some ⟨g0, 0, none⟩) 9 c) (PT.drop t (PT.pp o s)).1) ∧ Nw g0 w w' := by
  have hb1 := al w (.cells #[.slice (some ⟨g0, 0, none⟩) 9 c, .bool o] 97)
  have hx1 := Bx.new w 97 #[.slice (some ⟨g0, 0, none⟩) 9 c, .bool o]
  have hml1 := hml.below hb1
  have hto1 := hto.on hb1
  have h0' := h0.alloc (.cells #[.slice (some ⟨g0, 0, none⟩) 9 c, .bool o] 97)
  have hcall0 := (edrop_any g0 c base t o s _ hml1 hto1 g hs)
  have hcall := hcall0.mono (R' := fun e w' => e = .returned (.int .i64 (PT.drop t (PT.pp o s)).2) ∧ ((PT.drop t (PT.pp o s)).2 = 0 → To 27 w' base (.slice (some ⟨g0, 0, none⟩) 9 c) (PT.drop t (PT.pp o s)).1) ∧ Nw g0 (w.alloc (.cells #[.slice (some ⟨g0, 0, none⟩) 9 c, .bool o] 97)) w') fun e w' H => by
    obtain ⟨t', rfl, h1, h2, h3, h4, h5⟩ := H
    exact ⟨rfl, fun h => h2 h ▸ h1, h5⟩
  obtain ⟨⟨x, er⟩, hx⟩ : ∃ x, PT.drop t (PT.pp o s) = x := ⟨_, rfl⟩
  rw [hx] at hcall ⊢
  dsimp only at hcall ⊢
  have HC := Lib.hid hcall
  have HB := Lib.hid hb1
  clear hml hto g hcall0 hcall hml1 hto1 hx
  have c00 := h0'.cell 0
  simp at c00
  go_enter Tryz.func84, Tryz.ntmps84
  go_upto_region 1 with fail
  generalize w.alloc (.cells #[.slice (some ⟨g0, 0, none⟩) 9 c, .bool o] 97) = w1 at *
  generalize hgx : w.heap.size = g1 at *
  obtain ⟨c0, c1⟩ := hx1.work
  clear hx1 hb1 h0 h0'
  go_wp2_with (go_at_call 85; go_loud (refine HC.out.mono ?_; rintro e w2 ⟨rfl, h2, h5⟩))
  go_ret
  subst hgx
  exact ⟨rfl, h2, (Nw.of HB.out).trans h5⟩
set_option maxRecDepth 100000 in
set_option maxHeartbeats 4000000 in
theorem echanged_drop (A : Option Addr) (c : Nat) (t : List PT.N) (o : Bool) (s : ByteArray) (b0 : Nat) (w : World) (hml : Ml w) (h : Ts w (.slice A 9 c) t) (g : PT.Fine t) (hs : s.size ≤ 65535) (h0 : Bx w b0 9 #[.string s]) :
    Calls Tryz.prog 69 #[.slice A 9 c, .bool o, .func (.func 84) #[] #[.pointer (some ⟨b0, 0, none⟩)]] w fun e w' => ∃ g' c', e = .returned (.tuple #[.slice (some ⟨g', 0, none⟩) 9 c', .int .i64 (PT.drop t (PT.pp o s)).2]) ∧ To 27 w' w.heap.size (.slice (some ⟨g', 0, none⟩) 9 c') (PT.drop t (PT.pp o s)).1 ∧ Below w.heap.size w w' := by
  have hma := may_any' (.slice A 9 c) t w h
  rw [(PT.may_iff t).2 g] at hma
  have hcp := fun W (hW : Below w.heap.size w W) => ecopied_any A c t W (h.below hW) g.len (fun n hn => by obtain ⟨k, hk⟩ := List.mem_iff_getElem?.1 hn; exact PT.shape_small (g.shape k n hk))
  have hcl := fun g0 c1 W (hW : Below w.heap.size w W) (hm : Ml W) (hto : To 27 W w.heap.size (.slice (some ⟨g0, 0, none⟩) 9 c1) t) => eclos_drop g0 c1 w.heap.size t o s b0 W hm hto g hs (h0.on hW)
  have hno := fun (h : (PT.drop t (PT.pp o s)).2 ≠ 0) => PT.drop_no h
  obtain ⟨⟨x, er⟩, hx⟩ : ∃ x, PT.drop t (PT.pp o s) = x := ⟨_, rfl⟩
  rw [hx] at hcl hno ⊢
  dsimp only at hcl hno ⊢
  have HMA := Lib.hid hma
  have HCP := Lib.hid hcp
  have HCL := Lib.hid hcl
  have HML := Lib.hid hml
  have HNO := Lib.hid hno
  clear hma hcp hcl hml h g hx hno h0
  by_cases hz : er = 0
  · subst hz
    go_enter Tryz.func69, Tryz.ntmps69
    go_wp2_with (first | (go_at_call 84; go_loud (refine (HCL.out g0 c1 _ hB22 (HML.out.below hB22) hO2c).mono ?_; rintro e w3 ⟨rfl, hT3, hN3⟩; have hx3 := hx2.nw hN3 (by omega); clear d0 d1; obtain ⟨d0, d1⟩ := hx3.work; have hB3 := Nw.below hB22 hN3 (by omega) (by omega))) | (go_at_call 115; go_loud (refine (HCP.out _ hB1).mono ?_; rintro e w2 ⟨g0, c1, rfl, hO2, hB2⟩; have hB12 := hB1.trans (hB2.mono hB1.size); have hO2b := hO2.base hB1.size; have hlt : g0 < w2.heap.size := (by obtain ⟨cur, hbr, _⟩ := hO2.box (by decide); exact hbr.lt); have hgb : w1.heap.size ≤ g0 := (by obtain ⟨cur, hbr, hge, _⟩ := hO2.box (by decide); exact hge); have hz1 := hB1.size; have hz2 := hB2.size; have hx2 := Bx.new w2 97 #[.slice (some ⟨g0, 0, none⟩) 9 c1, .bool o]; have hB22 := hB12.alloc hB12.size (.cells #[.slice (some ⟨g0, 0, none⟩) 9 c1, .bool o] 97); have hO2c := hO2b.on (al w2 (.cells #[.slice (some ⟨g0, 0, none⟩) 9 c1, .bool o] 97)); obtain ⟨d0, d1⟩ := hx2.work; have hz3 : (w2.alloc (.cells #[.slice (some ⟨g0, 0, none⟩) 9 c1, .bool o] 97)).heap.size = w2.heap.size + 1 := (by simp))) | (go_at_call 15; go_loud (refine HMA.out.mono ?_; rintro e w1 ⟨rfl, hB1⟩)))
    go_ret2
    exact ⟨_, _, rfl, hT3 (by simp), hB3⟩
  · have hqb : (er == 0) = false := by simpa using hz
    have hxt : x = t := HNO.out hz
    subst hxt
    clear hz
    go_enter Tryz.func69, Tryz.ntmps69
    go_wp2_with (first | (go_at_call 115; refine (HCP.out _ hB3).mono ?_; rintro e w4 ⟨g4, c4, rfl, hO4, hB4⟩) | (go_at_call 84; go_loud (refine (HCL.out g0 c1 _ hB22 (HML.out.below hB22) hO2c).mono ?_; rintro e w3 ⟨rfl, hT3, hN3⟩; have hx3 := hx2.nw hN3 (by omega); clear d0 d1; obtain ⟨d0, d1⟩ := hx3.work; have hB3 := Nw.below hB22 hN3 (by omega) (by omega))) | (go_at_call 115; go_loud (refine (HCP.out _ hB1).mono ?_; rintro e w2 ⟨g0, c1, rfl, hO2, hB2⟩; have hB12 := hB1.trans (hB2.mono hB1.size); have hO2b := hO2.base hB1.size; have hlt : g0 < w2.heap.size := (by obtain ⟨cur, hbr, _⟩ := hO2.box (by decide); exact hbr.lt); have hgb : w1.heap.size ≤ g0 := (by obtain ⟨cur, hbr, hge, _⟩ := hO2.box (by decide); exact hge); have hz1 := hB1.size; have hz2 := hB2.size; have hx2 := Bx.new w2 97 #[.slice (some ⟨g0, 0, none⟩) 9 c1, .bool o]; have hB22 := hB12.alloc hB12.size (.cells #[.slice (some ⟨g0, 0, none⟩) 9 c1, .bool o] 97); have hO2c := hO2b.on (al w2 (.cells #[.slice (some ⟨g0, 0, none⟩) 9 c1, .bool o] 97)); obtain ⟨d0, d1⟩ := hx2.work; have hz3 : (w2.alloc (.cells #[.slice (some ⟨g0, 0, none⟩) 9 c1, .bool o] 97)).heap.size = w2.heap.size + 1 := (by simp))) | (go_at_call 15; go_loud (refine HMA.out.mono ?_; rintro e w1 ⟨rfl, hB1⟩)))
    go_ret2
    exact ⟨_, _, rfl, hO4.base hB3.size, hB3.trans (hB4.mono hB3.size)⟩
set_option maxRecDepth 100000 in
set_option maxHeartbeats 4000000 in
theorem edropF_any (A : Option Addr) (c : Nat) (t : List PT.N) (o : Bool) (s : ByteArray) (w : World) (hml : Ml w) (h : Ts w (.slice A 9 c) t) (g : PT.Fine t) (hs : s.size ≤ 65535) :
    Calls Tryz.prog 31 #[.slice A 9 c, .string s, .bool o] w fun e w' => ∃ g' c', e = .returned (.tuple #[.slice (some ⟨g', 0, none⟩) 9 c', .int .i64 (PT.drop t (PT.pp o s)).2]) ∧ To 27 w' w.heap.size (.slice (some ⟨g', 0, none⟩) 9 c') (PT.drop t (PT.pp o s)).1 ∧ Below w.heap.size w w' := by
  have hb0 := (Below.refl w.heap.size w).alloc (Below.refl w.heap.size w).size (.cells #[.string s] 9)
  have hx0 := Bx.new w 9 #[.string s]
  have hz0 : (w.alloc (.cells #[.string s] 9)).heap.size = w.heap.size + 1 := by simp
  have hch := echanged_drop A c t o s w.heap.size _ (hml.below hb0) (h.below hb0) g hs hx0
  obtain ⟨⟨x, er⟩, hx⟩ : ∃ x, PT.drop t (PT.pp o s) = x := ⟨_, rfl⟩
  rw [hx] at hch ⊢
  dsimp only at hch ⊢
  have HC := Lib.hid hch
  have HB := Lib.hid hb0
  clear hml h g hx hch hx0 hb0
  go_enter Tryz.func31, Tryz.ntmps31
  go_wp2_with (go_at_call 69; go_loud (refine HC.out.mono ?_; rintro e w2 ⟨g', c', rfl, hO, hB⟩))
  go_ret2
  exact ⟨_, _, rfl, hO.base HB.out.size, HB.out.trans (hB.mono HB.out.size)⟩
set_option maxRecDepth 100000 in
set_option maxHeartbeats 4000000 in
theorem eclos_make (g0 c base : Nat) (t : List PT.N) (o : Bool) (s : ByteArray) (kd md ino : Int) (b0 b1 b2 : Nat) (w : World) (hml : Ml w) (hto : To 27 w base (.slice (some ⟨g0, 0, none⟩) 9 c) t) (g : PT.Fine t) (hs : s.size ≤ 65535) (h0 : Bx w b0 9 #[.string s]) (h1 : Bx w b1 94 #[.int .i64 kd, .int .i64 md, .string { data := #[] }]) (h2 : Bx w b2 3 #[.int .i64 ino]) :
    Calls Tryz.prog 70 #[.agg #[.slice (some ⟨g0, 0, none⟩) 9 c, .bool o], .pointer (some ⟨b0, 0, none⟩), .pointer (some ⟨b1, 0, none⟩), .pointer (some ⟨b2, 0, none⟩)] w fun e w' => e = .returned (.int .i64 (PT.make t (PT.pp o s) kd md ino).2) ∧ ((PT.make t (PT.pp o s) kd md ino).2 = 0 → To 27 w' base (.slice (some ⟨g0, 0, none⟩) 9 c) (PT.make t (PT.pp o s) kd md ino).1) ∧ Nw g0 w w' := by
  have hb1 := al w (.cells #[.slice (some ⟨g0, 0, none⟩) 9 c, .bool o] 97)
  have hx1 := Bx.new w 97 #[.slice (some ⟨g0, 0, none⟩) 9 c, .bool o]
  have hml1 := hml.below hb1
  have hto1 := hto.on hb1
  have h0' := h0.alloc (.cells #[.slice (some ⟨g0, 0, none⟩) 9 c, .bool o] 97)
  have h1' := h1.alloc (.cells #[.slice (some ⟨g0, 0, none⟩) 9 c, .bool o] 97)
  have h2' := h2.alloc (.cells #[.slice (some ⟨g0, 0, none⟩) 9 c, .bool o] 97)
  have hcall0 := (ecreate_any g0 c base t o s kd md ino _ hml1 hto1 g hs)
  have hcall := hcall0.mono (R' := fun e w' => e = .returned (.int .i64 (PT.make t (PT.pp o s) kd md ino).2) ∧ ((PT.make t (PT.pp o s) kd md ino).2 = 0 → To 27 w' base (.slice (some ⟨g0, 0, none⟩) 9 c) (PT.make t (PT.pp o s) kd md ino).1) ∧ Nw g0 (w.alloc (.cells #[.slice (some ⟨g0, 0, none⟩) 9 c, .bool o] 97)) w') fun e w' H => by
    rcases H with ⟨h1, rfl, h3⟩ | ⟨t', rfl, h1, h2, h3, h4, h5⟩
    · exact ⟨by rw [h1], fun h => (by rw [h1] at h; cases h), h3⟩
    · exact ⟨rfl, fun h => h2 h ▸ h1, h5⟩
  obtain ⟨⟨x, er⟩, hx⟩ : ∃ x, PT.make t (PT.pp o s) kd md ino = x := ⟨_, rfl⟩
  rw [hx] at hcall ⊢
  dsimp only at hcall ⊢
  have HC := Lib.hid hcall
  have HB := Lib.hid hb1
  clear hml hto g hcall0 hcall hml1 hto1 hx
  have c00 := h0'.cell 0
  have c10 := h1'.cell 0; have c11 := h1'.cell 1; have c12 := h1'.cell 2
  have c20 := h2'.cell 0
  simp at c00 c10 c11 c12 c20
  go_enter Tryz.func70, Tryz.ntmps70
  go_upto_region 1 with fail
  generalize w.alloc (.cells #[.slice (some ⟨g0, 0, none⟩) 9 c, .bool o] 97) = w1 at *
  generalize hgx : w.heap.size = g1 at *
  obtain ⟨c0, c1⟩ := hx1.work
  clear hx1 hb1 h0 h0' h1 h1' h2 h2'
  go_wp2_with (go_at_call 71; go_loud (refine HC.out.mono ?_; rintro e w2 ⟨rfl, h2, h5⟩))
  go_ret
  subst hgx
  exact ⟨rfl, h2, (Nw.of HB.out).trans h5⟩
set_option maxRecDepth 100000 in
set_option maxHeartbeats 4000000 in
theorem echanged_make (A : Option Addr) (c : Nat) (t : List PT.N) (o : Bool) (s : ByteArray) (kd md ino : Int) (b0 b1 b2 : Nat) (w : World) (hml : Ml w) (h : Ts w (.slice A 9 c) t) (g : PT.Fine t) (hs : s.size ≤ 65535) (h0 : Bx w b0 9 #[.string s]) (h1 : Bx w b1 94 #[.int .i64 kd, .int .i64 md, .string { data := #[] }]) (h2 : Bx w b2 3 #[.int .i64 ino]) :
    Calls Tryz.prog 69 #[.slice A 9 c, .bool o, .func (.func 70) #[] #[.pointer (some ⟨b0, 0, none⟩), .pointer (some ⟨b1, 0, none⟩), .pointer (some ⟨b2, 0, none⟩)]] w fun e w' => ∃ g' c', e = .returned (.tuple #[.slice (some ⟨g', 0, none⟩) 9 c', .int .i64 (PT.make t (PT.pp o s) kd md ino).2]) ∧ To 27 w' w.heap.size (.slice (some ⟨g', 0, none⟩) 9 c') (PT.make t (PT.pp o s) kd md ino).1 ∧ Below w.heap.size w w' := by
  have hma := may_any' (.slice A 9 c) t w h
  rw [(PT.may_iff t).2 g] at hma
  have hcp := fun W (hW : Below w.heap.size w W) => ecopied_any A c t W (h.below hW) g.len (fun n hn => by obtain ⟨k, hk⟩ := List.mem_iff_getElem?.1 hn; exact PT.shape_small (g.shape k n hk))
  have hcl := fun g0 c1 W (hW : Below w.heap.size w W) (hm : Ml W) (hto : To 27 W w.heap.size (.slice (some ⟨g0, 0, none⟩) 9 c1) t) => eclos_make g0 c1 w.heap.size t o s kd md ino b0 b1 b2 W hm hto g hs (h0.on hW) (h1.on hW) (h2.on hW)
  have hno := fun (h : (PT.make t (PT.pp o s) kd md ino).2 ≠ 0) => PT.make_no h
  obtain ⟨⟨x, er⟩, hx⟩ : ∃ x, PT.make t (PT.pp o s) kd md ino = x := ⟨_, rfl⟩
  rw [hx] at hcl hno ⊢
  dsimp only at hcl hno ⊢
  have HMA := Lib.hid hma
  have HCP := Lib.hid hcp
  have HCL := Lib.hid hcl
  have HML := Lib.hid hml
  have HNO := Lib.hid hno
  clear hma hcp hcl hml h g hx hno h0 h1 h2
  by_cases hz : er = 0
  · subst hz
    go_enter Tryz.func69, Tryz.ntmps69
    go_wp2_with (first | (go_at_call 70; go_loud (refine (HCL.out g0 c1 _ hB22 (HML.out.below hB22) hO2c).mono ?_; rintro e w3 ⟨rfl, hT3, hN3⟩; have hx3 := hx2.nw hN3 (by omega); clear d0 d1; obtain ⟨d0, d1⟩ := hx3.work; have hB3 := Nw.below hB22 hN3 (by omega) (by omega))) | (go_at_call 115; go_loud (refine (HCP.out _ hB1).mono ?_; rintro e w2 ⟨g0, c1, rfl, hO2, hB2⟩; have hB12 := hB1.trans (hB2.mono hB1.size); have hO2b := hO2.base hB1.size; have hlt : g0 < w2.heap.size := (by obtain ⟨cur, hbr, _⟩ := hO2.box (by decide); exact hbr.lt); have hgb : w1.heap.size ≤ g0 := (by obtain ⟨cur, hbr, hge, _⟩ := hO2.box (by decide); exact hge); have hz1 := hB1.size; have hz2 := hB2.size; have hx2 := Bx.new w2 97 #[.slice (some ⟨g0, 0, none⟩) 9 c1, .bool o]; have hB22 := hB12.alloc hB12.size (.cells #[.slice (some ⟨g0, 0, none⟩) 9 c1, .bool o] 97); have hO2c := hO2b.on (al w2 (.cells #[.slice (some ⟨g0, 0, none⟩) 9 c1, .bool o] 97)); obtain ⟨d0, d1⟩ := hx2.work; have hz3 : (w2.alloc (.cells #[.slice (some ⟨g0, 0, none⟩) 9 c1, .bool o] 97)).heap.size = w2.heap.size + 1 := (by simp))) | (go_at_call 15; go_loud (refine HMA.out.mono ?_; rintro e w1 ⟨rfl, hB1⟩)))
    go_ret2
    exact ⟨_, _, rfl, hT3 (by simp), hB3⟩
  · have hqb : (er == 0) = false := by simpa using hz
    have hxt : x = t := HNO.out hz
    subst hxt
    clear hz
    go_enter Tryz.func69, Tryz.ntmps69
    go_wp2_with (first | (go_at_call 115; refine (HCP.out _ hB3).mono ?_; rintro e w4 ⟨g4, c4, rfl, hO4, hB4⟩) | (go_at_call 70; go_loud (refine (HCL.out g0 c1 _ hB22 (HML.out.below hB22) hO2c).mono ?_; rintro e w3 ⟨rfl, hT3, hN3⟩; have hx3 := hx2.nw hN3 (by omega); clear d0 d1; obtain ⟨d0, d1⟩ := hx3.work; have hB3 := Nw.below hB22 hN3 (by omega) (by omega))) | (go_at_call 115; go_loud (refine (HCP.out _ hB1).mono ?_; rintro e w2 ⟨g0, c1, rfl, hO2, hB2⟩; have hB12 := hB1.trans (hB2.mono hB1.size); have hO2b := hO2.base hB1.size; have hlt : g0 < w2.heap.size := (by obtain ⟨cur, hbr, _⟩ := hO2.box (by decide); exact hbr.lt); have hgb : w1.heap.size ≤ g0 := (by obtain ⟨cur, hbr, hge, _⟩ := hO2.box (by decide); exact hge); have hz1 := hB1.size; have hz2 := hB2.size; have hx2 := Bx.new w2 97 #[.slice (some ⟨g0, 0, none⟩) 9 c1, .bool o]; have hB22 := hB12.alloc hB12.size (.cells #[.slice (some ⟨g0, 0, none⟩) 9 c1, .bool o] 97); have hO2c := hO2b.on (al w2 (.cells #[.slice (some ⟨g0, 0, none⟩) 9 c1, .bool o] 97)); obtain ⟨d0, d1⟩ := hx2.work; have hz3 : (w2.alloc (.cells #[.slice (some ⟨g0, 0, none⟩) 9 c1, .bool o] 97)).heap.size = w2.heap.size + 1 := (by simp))) | (go_at_call 15; go_loud (refine HMA.out.mono ?_; rintro e w1 ⟨rfl, hB1⟩)))
    go_ret2
    exact ⟨_, _, rfl, hO4.base hB3.size, hB3.trans (hB4.mono hB3.size)⟩
set_option maxRecDepth 100000 in
set_option maxHeartbeats 4000000 in
theorem emakeF_any (A : Option Addr) (c : Nat) (t : List PT.N) (o : Bool) (s : ByteArray) (kd md ino : Int) (w : World) (hml : Ml w) (h : Ts w (.slice A 9 c) t) (g : PT.Fine t) (hs : s.size ≤ 65535) :
    Calls Tryz.prog 24 #[.slice A 9 c, .string s, .int .i64 kd, .int .i64 md, .int .i64 ino, .bool o] w fun e w' => ∃ g' c', e = .returned (.tuple #[.slice (some ⟨g', 0, none⟩) 9 c', .int .i64 (PT.make t (PT.pp o s) kd md ino).2]) ∧ To 27 w' w.heap.size (.slice (some ⟨g', 0, none⟩) 9 c') (PT.make t (PT.pp o s) kd md ino).1 ∧ Below w.heap.size w w' := by
  have hb0 := (Below.refl w.heap.size w).alloc (Below.refl w.heap.size w).size (.cells #[.string s] 9)
  have hx0 := Bx.new w 9 #[.string s]
  have hz0 : (w.alloc (.cells #[.string s] 9)).heap.size = w.heap.size + 1 := by simp
  have hb1 := hb0.alloc hb0.size (.cells #[.int .i64 ino] 3)
  have hx2 := Bx.new (w.alloc (.cells #[.string s] 9)) 3 #[.int .i64 ino]
  have hx0 := hx0.alloc (.cells #[.int .i64 ino] 3)
  have hz1 : ((w.alloc (.cells #[.string s] 9)).alloc (.cells #[.int .i64 ino] 3)).heap.size = w.heap.size + 2 := by simp
  rw [hz0] at hx2
  have hb2 := hb1.alloc hb1.size (.cells #[.int .i64 kd, .int .i64 md, .string { data := #[] }] 94)
  have hx1 := Bx.new ((w.alloc (.cells #[.string s] 9)).alloc (.cells #[.int .i64 ino] 3)) 94 #[.int .i64 kd, .int .i64 md, .string { data := #[] }]
  have hx0 := hx0.alloc (.cells #[.int .i64 kd, .int .i64 md, .string { data := #[] }] 94)
  have hx2 := hx2.alloc (.cells #[.int .i64 kd, .int .i64 md, .string { data := #[] }] 94)
  have hz2 : (((w.alloc (.cells #[.string s] 9)).alloc (.cells #[.int .i64 ino] 3)).alloc (.cells #[.int .i64 kd, .int .i64 md, .string { data := #[] }] 94)).heap.size = w.heap.size + 3 := by simp
  rw [hz1] at hx1
  have hch := echanged_make A c t o s kd md ino w.heap.size (w.heap.size + 2) (w.heap.size + 1) _ (hml.below hb2) (h.below hb2) g hs hx0 hx1 hx2
  obtain ⟨⟨x, er⟩, hx⟩ : ∃ x, PT.make t (PT.pp o s) kd md ino = x := ⟨_, rfl⟩
  rw [hx] at hch ⊢
  dsimp only at hch ⊢
  have HC := Lib.hid hch
  have HB := Lib.hid hb2
  clear hml h g hx hch hx0 hx1 hx2 hb0 hb1 hb2
  go_enter Tryz.func24, Tryz.ntmps24
  go_wp2_with (go_at_call 69; go_loud (refine HC.out.mono ?_; rintro e w2 ⟨g', c', rfl, hO, hB⟩))
  go_ret2
  exact ⟨_, _, rfl, hO.base HB.out.size, HB.out.trans (hB.mono HB.out.size)⟩
end Go.Proofs.YtdnobplhfbgbaaaGreatDoor
