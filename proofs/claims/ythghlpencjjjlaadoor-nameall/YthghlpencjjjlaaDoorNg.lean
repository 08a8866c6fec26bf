/-
  Contract: glacislaw6.begun.
-/
import Derived.Test.YthghlpencjjjlaaDoorNf
namespace Go.Proofs.YthghlpencjjjlaaDoor
open Go.RowKit Go.Joins

theorem Ro.form {w : World} {base : Nat} {v : Value} {ss : List ByteArray} (h : Ro w base v ss) : ∃ A c, v = .slice A ss.length c ∧ ss.length ≤ c := own_cap h
theorem Ro.small {w : World} {base : Nat} {v : Value} {o : Bool} {s : ByteArray} (h : Ro w base v (PN.pt o s)) : Ss w v (PN.pt o s) :=
  h.row (fun x hx => by have := (PN.pt_le o s).2 x hx; omega) (by have := (PN.pt_le o s).1; omega)
theorem Ss.alloc {w : World} {v : Value} {ss : List ByteArray} (h : Ss w v ss) (o : Obj) : Ss (w.alloc o) v ss := h.below (al _ _)
theorem Ml.alloc {w : World} (h : Ml w) (o : Obj) : Ml (w.alloc o) := h.below (al _ _)

theorem ab_is : PN.is false { data := #[47, 97, 47, 98] } = true := by decide
theorem ab_pt : PN.pt false { data := #[47, 97, 47, 98] } = [{ data := #[97] }, { data := #[98] }] := by decide
theorem t1_no : PN.is false { data := #[47, 126, 49] } = false := by decide
theorem t1_own : PN.is true { data := #[47, 126, 49] } = true := by decide

set_option maxHeartbeats 8000000 in
set_option maxRecDepth 100000 in
theorem begun_any (w : World) (hw : Ml w) : Calls Tryd.prog 7 #[] w fun e w' => e = .returned (.bool true) ∧ Below w.heap.size w w' := by
  have c1 := parts_any { data := #[47, 97, 47, 98] } false w hw (by decide)
  rw [ab_is] at c1
  go_enter Tryd.func7, Tryd.ntmps7
  go_wp2_with fail
  refine c1.mono ?_
  rintro e w1 ⟨v1, rfl, hO1, hB1⟩
  have hS1 := hO1.small
  rw [ab_pt] at hS1
  have hw1 := hw.below hB1
  obtain ⟨A1, k1, hv1, _⟩ := hO1.form
  rw [ab_pt] at hv1
  subst hv1
  clear c1 hO1
  have c2 := parts_any { data := #[47, 126, 49] } false w1 hw1 (by decide)
  rw [t1_no] at c2
  go_wp2_with fail
  refine c2.mono ?_
  rintro e w2 ⟨v2, rfl, hO2, hB2⟩
  have hw2 := hw1.below hB2
  have hS2 := hS1.below hB2
  have hb2 := hB1.trans (hB2.mono hB1.size)
  obtain ⟨A2, k2, hv2, _⟩ := hO2.form
  subst hv2
  clear c2 hO2 hS1 hw1 hB1 hB2
  have c3 := parts_any { data := #[47, 126, 49] } true w2 hw2 (by decide)
  rw [t1_own] at c3
  go_wp2_with fail
  refine c3.mono ?_
  rintro e w3 ⟨v3, rfl, hO3, hB3⟩
  have hw3 := hw2.below hB3
  have hS3 := hS2.below hB3
  have hb3 := hb2.trans (hB3.mono hb2.size)
  obtain ⟨A3, k3, hv3, _⟩ := hO3.form
  subst hv3
  clear c3 hO3 hS2 hw2 hb2 hB3
  obtain ⟨b0, o0, rfl, _, hcell⟩ := hS3.at (by decide)
  have g1 := hcell 1 { data := #[98] } rfl
  clear hcell
  have c4 := path_any (.slice (some ⟨w3.heap.size, 0, none⟩) 2 2) [{ data := #[97] }, { data := #[98] }] _ (Ss.new w3 #[.string { data := #[97] }, .string { data := #[98] }] (0, 0) 2 2 _ rfl _ rfl rfl (by decide) (by decide)) (fun A n c h => by injection h with _ h1 h2; omega)
  rw [show PN.path [({ data := #[97] } : ByteArray), { data := #[98] }] = { data := #[47, 97, 47, 98] } from by decide] at c4
  have ha3 := al w3 (.cells #[.string { data := #[97] }, .string { data := #[98] }] 9)
  clear hS3
  go_wp2_with fail
  refine c4.mono ?_
  rintro e w4 ⟨rfl, hB4⟩
  have hb4 := hb3.trans ((ha3.trans (hB4.mono ha3.size)).mono hb3.size)
  clear c4 hb3 ha3 hB4 hw3 hw g1
  have c5 := path_any (.slice none 0 0) [] w4 (Ss.nil _) (fun A n c h => by injection h with _ h1 h2; omega)
  rw [show PN.path [] = { data := #[47] } from by decide] at c5
  go_wp2_with fail
  refine c5.mono ?_
  rintro e w5 ⟨rfl, hB5⟩
  have hb5 := hb4.trans (hB5.mono hb4.size)
  clear c5 hb4 hB5
  have m1 := may_any { data := #[97] } w5
  rw [show PN.may ({ data := #[97] } : ByteArray).data.toList = true from by decide] at m1
  have m2 := may_any { data := #[126] } w5
  rw [show PN.may ({ data := #[126] } : ByteArray).data.toList = false from by decide] at m2
  have m3 := own_any { data := #[126] } w5
  rw [show PN.own ({ data := #[126] } : ByteArray).data.toList = true from by decide] at m3
  have m4 := own_any { data := #[] } w5
  rw [show PN.own ({ data := #[] } : ByteArray).data.toList = false from by decide] at m4
  go_wp2_with fail
  refine m1.mono ?_
  rintro e w6 ⟨rfl, hw6⟩
  rw [hw6]
  clear hw6 m1
  go_wp2_with fail
  refine m2.mono ?_
  rintro e w6 ⟨rfl, hw6⟩
  rw [hw6]
  clear hw6 m2
  go_wp2_with fail
  refine m3.mono ?_
  rintro e w6 ⟨rfl, hw6⟩
  rw [hw6]
  clear hw6 m3
  go_wp2_with fail
  refine m4.mono ?_
  rintro e w6 ⟨rfl, hw6⟩
  rw [hw6]
  clear hw6 m4
  go_wp2
  go_ret
  exact ⟨rfl, hb5⟩
end Go.Proofs.YthghlpencjjjlaaDoor
