/-
  The law CrcForms: its walk.
-/
import Derived.Test.YtoablohigdkbkaaDoorCe
namespace Go.Proofs.YtoablohigdkbkaaDoor
open Go.RowKit Go.Joins

theorem Tryd.info5 : (Tryd.prog.info? 5).map (fun i => (i.zero, i.size, i.bytes)) = some (some (.int .u8 0), 1, 1) := by kernel_rfl

def zeros32 : Array Value := madeCells #[.int .u8 0] 32
theorem make32 (w : World) : (Instr.makeSlice 22 (.int .i64 32) (.int .i64 32)).run Tryd.prog w = .ok (.slice (some ⟨w.heap.size, 0, none⟩) 32 32) (w.alloc (.cells zeros32 5)) := by
  obtain ⟨i0, hi, hz0, hz1, hz2⟩ := info_parts Tryd.info5
  have h := run_make (P := Tryd.prog) w 22 5 i0 (.int .u8 0) Tryd.underlying22 hi hz0 .i64 .i64 32 32 (by decide) (by decide) (by rw [hz2]; decide) (by decide)
  rw [hz1] at h
  exact h
theorem zeros32_list : zeros32.toList = (List.replicate 32 0).map bv := by
  unfold zeros32
  rw [toList_madeCells_one]
  rfl

set_option maxHeartbeats 4000000 in
theorem forms_any (w : World) (hT : Tab w) : Calls Tryd.prog 6 #[] w fun e w' => e = .returned (.bool true) ∧ Below w.heap.size w w' := by
  have s32 : PlainCrc.sum (List.replicate 32 0) = 2324772522 := by kernel_rfl
  have sa : PlainCrc.sum [97] = 3251651376 := by kernel_rfl
  have s0 : PlainCrc.sum [] = 0 := by kernel_rfl
  have hcv := conv22
  have hmk := make32
  go_enter Tryd.func6, Tryd.ntmps6
  go_wp2_with fail
  refine (begun_any _ hT).mono ?_
  rintro e w0 ⟨rfl, hb0⟩
  have hT0 := hT.below hb0
  have z0 := hb0.size
  go_wp2_with fail
  refine (sum_any _ [List.replicate 32 0] _ ((hT0.alloc _).alloc _) (Ls.new1 (by simp) (Tx.new w0 _ _ 32 32 _ rfl _ zeros32_list rfl (by decide) (by decide)))).mono ?_
  rintro e w1 ⟨rfl, hw1⟩
  have hT1 : Tab w1 := by rw [← hw1]; exact (hT0.alloc _).alloc _
  have hb1 : Below w.heap.size w w1 := by rw [← hw1]; exact (hb0.alloc z0 _).alloc (by simp; omega) _
  have z1 := hb1.size
  simp only [List.flatten_cons, List.flatten_nil, List.append_nil, s32]
  clear hw1 hT0 hb0 z0
  go_wp2_with fail
  refine (sum_any _ [[97]] _ ((hT1.alloc _).alloc _) (Ls.new1 (by simp) (Tx.new w1 _ _ 1 1 _ rfl _ rfl rfl (by decide) (by decide)))).mono ?_
  rintro e w2 ⟨rfl, hw2⟩
  have hT2 : Tab w2 := by rw [← hw2]; exact (hT1.alloc _).alloc _
  have hb2 : Below w.heap.size w w2 := by rw [← hw2]; exact (hb1.alloc z1 _).alloc (by simp; omega) _
  have z2 := hb2.size
  simp only [List.flatten_cons, List.flatten_nil, List.append_nil, sa]
  clear hw2 hT1 hb1 z1
  go_wp2_with fail
  refine (sum_any _ [[], []] _ (hT2.alloc _) (Ls.new2 rfl (Tx.nil _) (Tx.nil _))).mono ?_
  rintro e w3 ⟨rfl, hw3⟩
  have hT3 : Tab w3 := by rw [← hw3]; exact hT2.alloc _
  have hb3 : Below w.heap.size w w3 := by rw [← hw3]; exact hb2.alloc z2 _
  have z3 := hb3.size
  simp only [List.flatten_cons, List.flatten_nil, List.append_nil, s0]
  clear hw3 hT2 hb2 z2
  go_wp2_with fail
  refine (sum_any _ [[97], []] _ ((hT3.alloc _).alloc _) (Ls.new2 (by simp) (Tx.new w3 _ _ 1 1 _ rfl _ rfl rfl (by decide) (by decide)) (Tx.nil _))).mono ?_
  rintro e w4 ⟨rfl, hw4⟩
  have hb4 : Below w.heap.size w w4 := by rw [← hw4]; exact (hb3.alloc z3 _).alloc (by simp; omega) _
  simp only [List.flatten_cons, List.flatten_nil, List.append_nil, sa]
  clear hw4
  go_wp2
  go_ret
  exact ⟨rfl, hb4⟩
end Go.Proofs.YtoablohigdkbkaaDoor
