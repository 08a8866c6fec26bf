/-
  The law DiskForms: its walk.
-/
import Derived.Test.YtgoggancldipcaaDm
import Derived.Deep.RegionWith
namespace Go.Proofs.Ytgoggancldipcaa
open Go.RowKit

def e0 : D := ⟨[blank, blank], [], 0, false⟩
def e1 : D := ⟨[blank, blank], [(0, blk 1)], 0, false⟩
def e2 : D := ⟨[blank, blank], [(0, blk 1), (0, blk 2)], 0, false⟩
theorem ew1 : M.write e0 0 (blk 1) = (⟨[blank, blank], [(0, blk 1)], 0, false⟩, true) := by simp [M.write, M.can, hasB, e0, blk_size, M.pushed]
theorem ew2 : M.write e1 0 (blk 2) = (⟨[blank, blank], [(0, blk 1), (0, blk 2)], 0, false⟩, true) := by simp [M.write, M.can, hasB, e1, blk_size, M.pushed]
theorem ew3 : M.write e2 2 (blk 1) = (⟨[blank, blank], [(0, blk 1), (0, blk 2)], 0, false⟩, false) := by simp [M.write, M.can, hasB, e2]
theorem ew4 : M.write e2 (-1) (blk 1) = (⟨[blank, blank], [(0, blk 1), (0, blk 2)], 0, false⟩, false) := by simp [M.write, M.can, hasB, e2]
theorem ew5 : M.write e2 0 { data := #[115, 104, 111, 114, 116] } = (⟨[blank, blank], [(0, blk 1), (0, blk 2)], 0, false⟩, false) := by
  simp [M.write, M.can, hasB, e2, ByteArray.size]
theorem ec1 : M.crash e2 [true] = ⟨[blk 1, blank], [], 0, false⟩ := by simp [hasB, e2, M.crash, M.kept, M.lasting, M.put]
theorem ec2 : M.crash e2 [true, true] = ⟨[blk 2, blank], [], 0, false⟩ := by simp [hasB, e2, M.crash, M.kept, M.lasting, M.put]
theorem ec3 : M.crash e2 [false, false, true] = ⟨[blank, blank], [], 0, false⟩ := by simp [e2, M.crash, M.kept, M.lasting]
theorem er1 : M.read ⟨[blk 1, blank], [], 0, false⟩ 0 = (blk 1, true) := by simp [M.read, M.can, hasB, M.get, M.waits]
theorem er2 : M.read ⟨[blk 2, blank], [], 0, false⟩ 0 = (blk 2, true) := by simp [M.read, M.can, hasB, M.get, M.waits]
theorem er3 : M.read ⟨[blank, blank], [], 0, false⟩ 0 = (blank, true) := by simp [M.read, M.can, hasB, M.get, M.waits]
theorem er4 : M.read e2 0 = (blk 2, true) := by simp [M.read, M.can, hasB, M.get, M.waits, e2]

set_option maxRecDepth 100000 in
set_option maxHeartbeats 8000000 in
theorem forms_any (w : World) : Calls Try.prog 6 #[] w fun e w' => e = .returned (.bool true) ∧ Below w.heap.size w w' := by
  go_enter Try.func6, Try.ntmps6
  go_wp2_with fail
  refine (begun_any _).mono ?_
  rintro e w0 ⟨rfl, hb0⟩
  go_wp2_with fail
  refine (new_o 2 _ (l := [blank, blank]) (wt := []) (arm := 0) (down := false) (n0 := 2) (n1 := 0) rfl rfl rfl).mono ?_
  rintro e w1 ⟨A, c, A1, c1, rfl, hD, hb1⟩
  go_upto_region 4 with fail
  have hD1 := hD.alloc (.cells #[.slice A 2 c, .slice A1 0 c1, .int .i64 0, .bool false] 28)
  have hX1 := Bx.new w1 28 #[.slice A 2 c, .slice A1 0 c1, .int .i64 0, .bool false]
  have hbw1 := (hb0.trans (hb1.mono hb0.size)).alloc (by have := hb0.size; have := hb1.size; omega) (.cells #[.slice A 2 c, .slice A1 0 c1, .int .i64 0, .bool false] 28)
  have hgw : w.heap.size ≤ w1.heap.size := by have := hb0.size; have := hb1.size; omega
  generalize w1.alloc (.cells #[.slice A 2 c, .slice A1 0 c1, .int .i64 0, .bool false] 28) = W at hD1 hX1 hbw1 ⊢
  generalize w1.heap.size = g at hX1 hgw ⊢
  clear hD hb1 hb0
  have hs1 := hX1.lt
  go_cut [2] (fun s wx => s = .bool true ∧ HoldsAt w wx g e1 2 1)
  case first =>
    obtain ⟨x0, x1, x2, x3, y0, y1, y2, y3⟩ := hX1.four
    go_region_with (first
      | (go_at_call 19; refine (block_f W 1 (by decide) (by decide) _ ?_).mono ?_; exact (Below.refl _ _).drew; rintro e w2 ⟨rfl, hc2, hb2⟩; have hx2 := hX1.below hb2 hs1; have hf2 := hx2.four; obtain ⟨q0, q1, q2, q3, _, _, _, _⟩ := hf2)
      | (go_at_call 17; refine (write_f W _ e0 0 (blk 1) _ hD1 (by decide) (by decide) (by decide) (by decide) ew1 (n0 := 2) (n1 := 1) rfl rfl ?_).mono ?_; exact hb2; rintro e w3 ⟨A', c', A1', c1', rfl, hD3, hc3, hb3⟩; have hx3 := hX1.below hb3 hs1; have hf3 := hx3.four; obtain ⟨p0, p1, p2, p3, _, _, _, _⟩ := hf3))
    all_goals go_wp2_with fail
    all_goals go_meet
    all_goals exact ⟨rfl, A', c', A1', c1', hx3.put4 _ _ _ _, hD3.far4 hx3 _ _ _ _, below_set4 (hbw1.trans (hb3.mono hbw1.size)) hgw _ _ _ _⟩
  case rest =>
  clear hX1 hD1 hbw1 hs1
  obtain ⟨rfl, A, c, A1, c1, hX1, hD1, hbw1⟩ := hcut
  simp only [e1] at hX1 hD1
  have hs1 := hX1.lt
  rename World => W
  go_upto_region 5 with fail
  go_cut [3] (fun s wx => s = .bool true ∧ HoldsAt w wx g e2 2 2)
  case first =>
    obtain ⟨x0, x1, x2, x3, y0, y1, y2, y3⟩ := hX1.four
    go_region_with (first
      | (go_at_call 19; refine (block_f W 2 (by decide) (by decide) _ ?_).mono ?_; exact (Below.refl _ _).drew; rintro e w2 ⟨rfl, hc2, hb2⟩; have hx2 := hX1.below hb2 hs1; have hf2 := hx2.four; obtain ⟨q0, q1, q2, q3, _, _, _, _⟩ := hf2)
      | (go_at_call 17; refine (write_f W _ e1 0 (blk 2) _ hD1 (by decide) (by decide) (by decide) (by decide) ew2 (n0 := 2) (n1 := 2) rfl rfl ?_).mono ?_; exact hb2; rintro e w3 ⟨A', c', A1', c1', rfl, hD3, hc3, hb3⟩; have hx3 := hX1.below hb3 hs1; have hf3 := hx3.four; obtain ⟨p0, p1, p2, p3, _, _, _, _⟩ := hf3))
    all_goals go_wp2_with fail
    all_goals go_meet
    all_goals exact ⟨rfl, A', c', A1', c1', hx3.put4 _ _ _ _, hD3.far4 hx3 _ _ _ _, below_set4 (hbw1.trans (hb3.mono hbw1.size)) hgw _ _ _ _⟩
  case rest =>
  clear hX1 hD1 hbw1 hs1
  obtain ⟨rfl, A, c, A1, c1, hX1, hD1, hbw1⟩ := hcut
  simp only [e2] at hX1 hD1
  have hs1 := hX1.lt
  rename World => W
  go_upto_region 6 with fail
  go_cut [5] (fun s wx => s = .bool false ∧ HoldsAt w wx g e2 2 2)
  case first =>
    have hneW : g ≠ W.heap.size := by omega
    go_region_held3 (fun w' => w'.cell? ⟨g, 0, none⟩ = some (.slice A 2 c) ∧ w'.cell? ⟨g, 1, none⟩ = some (.slice A1 2 c1) ∧ w'.cell? ⟨g, 2, none⟩ = some (.int .i64 0) ∧ w'.cell? ⟨g, 3, none⟩ = some (.bool false))
      (first | (with_reducible exact hX1.drew.c4) | (with_reducible exact (hX1.alloc _).drew.c4) | (with_reducible exact hx2.c4) | (with_reducible exact (hx2.alloc _).c4) | (with_reducible exact hx3.c4) | (with_reducible exact (hx3.alloc _).c4) | (with_reducible exact (hx3.far4 hne2 _ _ _ _).c4) | (with_reducible exact (hx3.far4 hneW _ _ _ _).c4))
      (first
        | (go_at_call 19; refine (block_f W 1 (by decide) (by decide) _ ?_).mono ?_; (first | exact (Below.refl _ _).drew | exact ((Below.refl _ _).alloc (Nat.le_refl _) _).drew); rintro e w2 ⟨rfl, hc2, hb2⟩; (try (have hz2 : Bx w2 W.heap.size 28 z4 := (Bx.new W 28 z4).below (below_undrew hc2) (by simp))); have hne2 : g ≠ w2.heap.size := (by have := hb2.size; omega); have hx2 := hX1.below hb2 hs1)
        | (go_at_call 17; refine (write_f W _ e2 2 (blk 1) _ hD1 (by decide) (by decide) (by decide) (by decide) ew3 (n0 := 2) (n1 := 2) rfl rfl ?_).mono ?_; (first | exact hb2 | exact hb2.alloc hb2.size _); rintro e w3 ⟨A', c', A1', c1', rfl, hD3, hc3, hb3⟩; (try (have hz3 : Bx w3 W.heap.size 28 z4 := hz2.below hc3 hz2.lt; have hz4 := hz3.four; obtain ⟨z0, z1, z2, z3, y0, y1, y2, y3⟩ := hz4)); (try (have hz3 : Bx w3 w2.heap.size 28 z4 := (Bx.new w2 28 z4).below hc3 (by simp); have hz4 := hz3.four; obtain ⟨z0, z1, z2, z3, y0, y1, y2, y3⟩ := hz4)); have hne3 : g ≠ w3.heap.size := (by have := hb3.size; omega); have hx3 := hX1.below hb3 hs1))
    all_goals go_wp2_with fail
    all_goals go_meet
    · have hbz := hbw1.trans (hb3.mono hbw1.size)
      exact ⟨rfl, A, c, A1, c1, hx3.alloc _, (hD1.below hb3).alloc _, hbz.alloc hbz.size _⟩
    · have hbz := hbw1.trans (hb3.mono hbw1.size)
      exact ⟨rfl, A, c, A1, c1, hx3.far4 hne2 _ _ _ _, (hD1.below hb3).far4 hz3 _ _ _ _, below_set4 hbz (by have := hb2.size; have := hbw1.size; omega) _ _ _ _⟩
    · have hbz := hbw1.trans (hb3.mono hbw1.size)
      exact ⟨rfl, A, c, A1, c1, hx3.far4 hneW _ _ _ _, (hD1.below hb3).far4 hz3 _ _ _ _, below_set4 hbz hbw1.size _ _ _ _⟩
  case rest =>
  clear hX1 hD1 hbw1 hs1
  obtain ⟨rfl, A, c, A1, c1, hX1, hD1, hbw1⟩ := hcut
  simp only [e2] at hX1 hD1
  have hs1 := hX1.lt
  rename World => W
  go_upto_region 7 with fail
  go_cut [7] (fun s wx => s = .bool false ∧ HoldsAt w wx g e2 2 2)
  case first =>
    have hneW : g ≠ W.heap.size := by omega
    go_region_held3 (fun w' => w'.cell? ⟨g, 0, none⟩ = some (.slice A 2 c) ∧ w'.cell? ⟨g, 1, none⟩ = some (.slice A1 2 c1) ∧ w'.cell? ⟨g, 2, none⟩ = some (.int .i64 0) ∧ w'.cell? ⟨g, 3, none⟩ = some (.bool false))
      (first | (with_reducible exact hX1.drew.c4) | (with_reducible exact (hX1.alloc _).drew.c4) | (with_reducible exact hx2.c4) | (with_reducible exact (hx2.alloc _).c4) | (with_reducible exact hx3.c4) | (with_reducible exact (hx3.alloc _).c4) | (with_reducible exact (hx3.far4 hne2 _ _ _ _).c4) | (with_reducible exact (hx3.far4 hneW _ _ _ _).c4))
      (first
        | (go_at_call 19; refine (block_f W 1 (by decide) (by decide) _ ?_).mono ?_; (first | exact (Below.refl _ _).drew | exact ((Below.refl _ _).alloc (Nat.le_refl _) _).drew); rintro e w2 ⟨rfl, hc2, hb2⟩; (try (have hz2 : Bx w2 W.heap.size 28 z4 := (Bx.new W 28 z4).below (below_undrew hc2) (by simp))); have hne2 : g ≠ w2.heap.size := (by have := hb2.size; omega); have hx2 := hX1.below hb2 hs1)
        | (go_at_call 17; refine (write_f W _ e2 (-1) (blk 1) _ hD1 (by decide) (by decide) (by decide) (by decide) ew4 (n0 := 2) (n1 := 2) rfl rfl ?_).mono ?_; (first | exact hb2 | exact hb2.alloc hb2.size _); rintro e w3 ⟨A', c', A1', c1', rfl, hD3, hc3, hb3⟩; (try (have hz3 : Bx w3 W.heap.size 28 z4 := hz2.below hc3 hz2.lt; have hz4 := hz3.four; obtain ⟨z0, z1, z2, z3, y0, y1, y2, y3⟩ := hz4)); (try (have hz3 : Bx w3 w2.heap.size 28 z4 := (Bx.new w2 28 z4).below hc3 (by simp); have hz4 := hz3.four; obtain ⟨z0, z1, z2, z3, y0, y1, y2, y3⟩ := hz4)); have hne3 : g ≠ w3.heap.size := (by have := hb3.size; omega); have hx3 := hX1.below hb3 hs1))
    all_goals go_wp2_with fail
    all_goals go_meet
    · have hbz := hbw1.trans (hb3.mono hbw1.size)
      exact ⟨rfl, A, c, A1, c1, hx3.alloc _, (hD1.below hb3).alloc _, hbz.alloc hbz.size _⟩
    · have hbz := hbw1.trans (hb3.mono hbw1.size)
      exact ⟨rfl, A, c, A1, c1, hx3.far4 hne2 _ _ _ _, (hD1.below hb3).far4 hz3 _ _ _ _, below_set4 hbz (by have := hb2.size; have := hbw1.size; omega) _ _ _ _⟩
    · have hbz := hbw1.trans (hb3.mono hbw1.size)
      exact ⟨rfl, A, c, A1, c1, hx3.far4 hneW _ _ _ _, (hD1.below hb3).far4 hz3 _ _ _ _, below_set4 hbz hbw1.size _ _ _ _⟩
  case rest =>
  clear hX1 hD1 hbw1 hs1
  obtain ⟨rfl, A, c, A1, c1, hX1, hD1, hbw1⟩ := hcut
  simp only [e2] at hX1 hD1
  have hs1 := hX1.lt
  rename World => W
  obtain ⟨x0, x1, x2, x3, _, _, _, _⟩ := hX1.four
  go_wp2_with fail
  refine (write_o _ e2 0 _ _ hD1 (by decide) (by decide) (by decide) (by decide) ew5 (n0 := 2) (n1 := 2) rfl rfl).mono ?_
  rintro e w2 ⟨A2, c2, A12, c12, rfl, hD2, hb2⟩
  clear hD2 x0 x1 x2 x3
  have hX2 := hX1.below hb2 hs1
  have hE2 := hD1.below hb2
  have hbw2 := hbw1.trans (hb2.mono hbw1.size)
  have hs2 := hX2.lt
  obtain ⟨x0, x1, x2, x3, _, _, _, _⟩ := hX2.four
  go_wp2_with fail
  refine (crash_o _ e2 _ 1 1 [true] _ ((hE2.alloc _).alloc _) (Sl_made _ 4 [.bool true] _ 1 (by simp) rfl) (by decide) (by decide) (by decide) ec1 (n0 := 2) (n1 := 0) rfl rfl rfl).mono ?_
  rintro e w3 ⟨A3, c3, A13, c13, rfl, hD3, hb3⟩
  clear x0 x1 x2 x3
  have hX3 := ((hX2.alloc (.cells #[.slice A2 2 c2, .slice A12 2 c12, .int .i64 0, .bool false] 28)).alloc (.cells #[.bool true] 4)).below hb3 (by simp; omega)
  have hE3 := ((hE2.alloc (.cells #[.slice A2 2 c2, .slice A12 2 c12, .int .i64 0, .bool false] 28)).alloc (.cells #[.bool true] 4)).below hb3
  have hbw3 := ((hbw2.alloc hbw2.size (.cells #[.slice A2 2 c2, .slice A12 2 c12, .int .i64 0, .bool false] 28)).alloc (by have := hbw2.size; simp; omega) (.cells #[.bool true] 4)).trans (hb3.mono (by have := hbw2.size; simp; omega))
  have hs3 := hX3.lt
  obtain ⟨x0, x1, x2, x3, _, _, _, _⟩ := hX3.four
  clear hX2 hE2 hbw2 hX1 hD1 hbw1 hs2 hs1 hb3 hb2
  go_wp2_with fail
  refine (crash_o _ e2 _ 2 2 [true, true] _ ((hE3.alloc _).alloc _) (Sl_made _ 4 [.bool true, .bool true] _ 2 (by simp) rfl) (by decide) (by decide) (by decide) ec2 (n0 := 2) (n1 := 0) rfl rfl rfl).mono ?_
  rintro e w4 ⟨A4, c4, A14, c14, rfl, hD4, hb4⟩
  clear x0 x1 x2 x3
  have hX4 := ((hX3.alloc (.cells #[.slice A3 2 c3, .slice A13 0 c13, .int .i64 0, .bool false] 28)).alloc (.cells #[.bool true, .bool true] 4)).below hb4 (by simp; omega)
  have hx10 := ((Bx.new w3 28 #[.slice A3 2 c3, .slice A13 0 c13, .int .i64 0, .bool false]).alloc (.cells #[.bool true, .bool true] 4)).below hb4 (by simp; omega)
  have hD3' := ((hD3.alloc (.cells #[.slice A3 2 c3, .slice A13 0 c13, .int .i64 0, .bool false] 28)).alloc (.cells #[.bool true, .bool true] 4)).below hb4
  have hE4 := ((hE3.alloc (.cells #[.slice A3 2 c3, .slice A13 0 c13, .int .i64 0, .bool false] 28)).alloc (.cells #[.bool true, .bool true] 4)).below hb4
  have hbw4 := ((hbw3.alloc hbw3.size (.cells #[.slice A3 2 c3, .slice A13 0 c13, .int .i64 0, .bool false] 28)).alloc (by have := hbw3.size; simp; omega) (.cells #[.bool true, .bool true] 4)).trans (hb4.mono (by have := hbw3.size; simp; omega))
  have hs4 := hX4.lt
  have hl10 := hx10.lt
  obtain ⟨x0, x1, x2, x3, _, _, _, _⟩ := hX4.four
  generalize w3.heap.size = g10 at hx10 hl10 ⊢
  clear hX3 hE3 hbw3 hs3 hb4 hD3
  go_wp2_with fail
  refine (crash_o _ e2 _ 3 3 [false, false, true] _ ((hE4.alloc _).alloc _) (Sl_made _ 4 [.bool false, .bool false, .bool true] _ 3 (by simp) rfl) (by decide) (by decide) (by decide) ec3 (n0 := 2) (n1 := 0) rfl rfl rfl).mono ?_
  rintro e w5 ⟨A5, c5, A15, c15, rfl, hD5, hb5⟩
  clear x0 x1 x2 x3
  have hX5 := ((hX4.alloc (.cells #[.slice A4 2 c4, .slice A14 0 c14, .int .i64 0, .bool false] 28)).alloc (.cells #[.bool false, .bool false, .bool true] 4)).below hb5 (by simp; omega)
  have hx10' := ((hx10.alloc (.cells #[.slice A4 2 c4, .slice A14 0 c14, .int .i64 0, .bool false] 28)).alloc (.cells #[.bool false, .bool false, .bool true] 4)).below hb5 (by simp; omega)
  have hx11 := ((Bx.new w4 28 #[.slice A4 2 c4, .slice A14 0 c14, .int .i64 0, .bool false]).alloc (.cells #[.bool false, .bool false, .bool true] 4)).below hb5 (by simp; omega)
  have hD3'' := ((hD3'.alloc (.cells #[.slice A4 2 c4, .slice A14 0 c14, .int .i64 0, .bool false] 28)).alloc (.cells #[.bool false, .bool false, .bool true] 4)).below hb5
  have hD4' := ((hD4.alloc (.cells #[.slice A4 2 c4, .slice A14 0 c14, .int .i64 0, .bool false] 28)).alloc (.cells #[.bool false, .bool false, .bool true] 4)).below hb5
  have hE5 := ((hE4.alloc (.cells #[.slice A4 2 c4, .slice A14 0 c14, .int .i64 0, .bool false] 28)).alloc (.cells #[.bool false, .bool false, .bool true] 4)).below hb5
  have hbw5 := ((hbw4.alloc hbw4.size (.cells #[.slice A4 2 c4, .slice A14 0 c14, .int .i64 0, .bool false] 28)).alloc (by have := hbw4.size; simp; omega) (.cells #[.bool false, .bool false, .bool true] 4)).trans (hb5.mono (by have := hbw4.size; simp; omega))
  have hs5 := hX5.lt
  have hl10' := hx10'.lt
  have hl11 := hx11.lt
  generalize w4.heap.size = g11 at hx11 hl11 ⊢
  clear hX4 hE4 hbw4 hs4 hb5 hD4 hD3' hx10 hl10
  obtain ⟨x0, x1, x2, x3, _, _, _, _⟩ := hx10'.four
  go_wp2_with fail
  refine (read_o _ ⟨[blk 1, blank], [], 0, false⟩ 0 _ (hD3''.alloc _) (by decide) er1).mono ?_
  rintro e w6 ⟨rfl, hb6⟩
  clear x0 x1 x2 x3
  have hX6 := (hX5.alloc (.cells #[.slice A5 2 c5, .slice A15 0 c15, .int .i64 0, .bool false] 28)).below hb6 (by simp; omega)
  have hy11 := (hx11.alloc (.cells #[.slice A5 2 c5, .slice A15 0 c15, .int .i64 0, .bool false] 28)).below hb6 (by simp; omega)
  have hy12 := (Bx.new w5 28 #[.slice A5 2 c5, .slice A15 0 c15, .int .i64 0, .bool false]).below hb6 (by simp)
  have hF4 := (hD4'.alloc (.cells #[.slice A5 2 c5, .slice A15 0 c15, .int .i64 0, .bool false] 28)).below hb6
  have hF5 := (hD5.alloc (.cells #[.slice A5 2 c5, .slice A15 0 c15, .int .i64 0, .bool false] 28)).below hb6
  have hE6 := (hE5.alloc (.cells #[.slice A5 2 c5, .slice A15 0 c15, .int .i64 0, .bool false] 28)).below hb6
  have hbw6 := (hbw5.alloc hbw5.size (.cells #[.slice A5 2 c5, .slice A15 0 c15, .int .i64 0, .bool false] 28)).trans (hb6.mono (by have := hbw5.size; simp; omega))
  generalize w5.heap.size = g12 at hy12 ⊢
  clear hX5 hE5 hbw5 hs5 hb6 hD5 hD4' hx10' hl10' hx11 hl11 hD3''
  obtain ⟨x0, x1, x2, x3, _, _, _, _⟩ := hy11.four
  go_wp2_with fail
  refine (read_o _ ⟨[blk 2, blank], [], 0, false⟩ 0 _ hF4 (by decide) er2).mono ?_
  rintro e w7 ⟨rfl, hb7⟩
  clear x0 x1 x2 x3
  have hX7 := hX6.below hb7 hX6.lt
  have hz12 := hy12.below hb7 hy12.lt
  have hG5 := hF5.below hb7
  have hE7 := hE6.below hb7
  have hbw7 := hbw6.trans (hb7.mono hbw6.size)
  obtain ⟨x0, x1, x2, x3, _, _, _, _⟩ := hz12.four
  go_wp2_with fail
  refine (read_o _ ⟨[blank, blank], [], 0, false⟩ 0 _ hG5 (by decide) er3).mono ?_
  rintro e w8 ⟨rfl, hb8⟩
  clear x0 x1 x2 x3
  have hX8 := hX7.below hb8 hX7.lt
  have hE8 := hE7.below hb8
  have hbw8 := hbw7.trans (hb8.mono hbw7.size)
  obtain ⟨x0, x1, x2, x3, _, _, _, _⟩ := hX8.four
  go_wp2_with fail
  refine (read_o _ e2 0 _ hE8 (by decide) er4).mono ?_
  rintro e w9 ⟨rfl, hb9⟩
  have hbw9 := hbw8.trans (hb9.mono hbw8.size)
  clear x0 x1 x2 x3 hb7 hb8 hb9 hX6 hX7 hX8 hE6 hE7 hE8 hbw6 hbw7 hbw8 hy11 hy12 hz12 hF4 hF5 hG5
  go_wp2_with fail
  refine (block_any 1 (by decide) (by decide) _).mono ?_
  rintro e w10 ⟨rfl, hb10⟩
  have hbw10 := hbw9.trans (hb10.mono hbw9.size)
  clear hb10 hbw9
  go_wp2_with fail
  refine (block_any 2 (by decide) (by decide) _).mono ?_
  rintro e w11 ⟨rfl, hb11⟩
  have hbw11 := hbw10.trans (hb11.mono hbw10.size)
  clear hb11 hbw10
  have hmk := make64 w11
  have hcv := conv64 w11
  go_wp2_with fail
  refine (block_any 2 (by decide) (by decide) _).mono ?_
  rintro e w12 ⟨rfl, hb12⟩
  have hbw12 := (hbw11.alloc hbw11.size (.cells zeros64 5)).trans (hb12.mono (by have := hbw11.size; simp; omega))
  clear hb12 hbw11 hmk hcv
  go_wp2_with fail
  refine (new_o 0 _ (l := []) (wt := []) (arm := 0) (down := false) (n0 := 0) (n1 := 0) rfl rfl rfl).mono ?_
  rintro e w13 ⟨A7, c7, A17, c17, rfl, _, hb13⟩
  have hfd := field28 A7 0 c7 (.slice A17 0 c17) w13
  have hbw13 := hbw12.trans (hb13.mono hbw12.size)
  clear hb13 hbw12
  go_wp2_with fail
  refine (new_o 771 _ (l := []) (wt := []) (arm := 0) (down := false) (n0 := 0) (n1 := 0) rfl rfl rfl).mono ?_
  rintro e w14 ⟨A8, c8, A18, c18, rfl, _, hb14⟩
  have hfd := field28 A8 0 c8 (.slice A18 0 c18) w14
  have hbw14 := hbw13.trans (hb14.mono hbw13.size)
  clear hb14 hbw13
  go_wp2_with fail
  refine (new_o 770 _ (l := List.replicate 770 blank) (wt := []) (arm := 0) (down := false) (n0 := 770) (n1 := 0) rfl (by simp) rfl).mono ?_
  rintro e w15 ⟨A9, c9, A19, c19, rfl, _, hb15⟩
  have hfd := field28 A9 770 c9 (.slice A19 0 c19) w15
  have hbw15 := hbw14.trans (hb15.mono hbw14.size)
  go_wp2
  go_ret
  exact ⟨rfl, hbw15⟩

end Go.Proofs.Ytgoggancldipcaa
