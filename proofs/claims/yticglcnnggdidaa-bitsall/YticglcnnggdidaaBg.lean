/-
  The law BitsForms: its walk.
-/
import Derived.Test.YticglcnnggdidaaBf
import Derived.Test.YticglcnnggdidaaRg
import Derived.RegionTactic
import Derived.ChangeAlike
import Derived.Deep.QuietTactic
import Derived.BigQuiet
import Derived.Deep.DeepCutAuto
namespace Go.Proofs.Yticglcnnggdidaa
open Go.RowKit Go.Joins

theorem slot_bool {x : Option Value} {b : Bool} (h : x.getD undef = .bool b) : x = some (.bool b) := by
  cases x with
  | none => cases h
  | some v => exact congrArg some h

/-- '[]byte("..")' of a constant, at once: the text, with room. -/
theorem lit_cap (A : Option Addr) (n : Nat) : Cp (.slice A n n) := ⟨_, _, _, rfl, Nat.le_refl _⟩

def zeros256 : Array Value := madeCells #[.int .u8 0] 256
theorem make256 (w : World) : (Instr.makeSlice 23 (.int .i64 256) (.int .i64 256)).run Try.prog w = .ok (.slice (some ⟨w.heap.size, 0, none⟩) 256 256) (w.alloc (.cells zeros256 5)) := by
  obtain ⟨i0, hi, hz0, hz1, hz2⟩ := info_parts Try.info5
  have h := run_make (P := Try.prog) w 23 5 i0 (.int .u8 0) Try.underlying23 hi hz0 .i64 .i64 256 256 (by decide) (by decide) (by rw [hz2]; decide) (by decide)
  rw [hz1] at h
  exact h
theorem zeros_list (n : Nat) : (madeCells #[.int .u8 0] n).toList = (List.replicate n 0).map bv := by
  rw [toList_madeCells_one, List.map_replicate]
  rfl
theorem str_size (l : List Nat) : (str l).size = l.length := by rw [str, strOfNums_size, List.length_map]
theorem zeros_tx (w : World) (fr : Nat × Nat) (n g : Nat) (hg : g = w.heap.size) (hn : n ≤ 1048576) : Tx (w.alloc (.cells (madeCells #[.int .u8 0] n) 5 fr)) (.slice (some ⟨g, 0, none⟩) n n) (List.replicate n 0) :=
  Tx.new w _ fr n n g hg _ (zeros_list n) List.length_replicate (fun b hb => by rw [(List.mem_replicate.1 hb).2]; decide) hn
theorem zeros256_str : ∃ Z : ByteArray, Z.size = 256 ∧ ∀ (w : World) (fr : Nat × Nat) (g : Nat), g = w.heap.size → (convert 23 9 (.slice (some ⟨g, 0, none⟩) 256 256)).run Try.prog (w.alloc (.cells zeros256 5 fr)) = .ok (.string Z) (w.alloc (.cells zeros256 5 fr)) := by
  refine ⟨str (List.replicate 256 0), by rw [str_size, List.length_replicate], fun w fr g hg => ?_⟩
  exact (zeros_tx w fr 256 g hg (by decide)).string

set_option maxHeartbeats 4000000 in
theorem forms_any (w : World) : Calls Try.prog 5 #[] w fun e w' => e = .returned (.bool true) ∧ Below w.heap.size w w' := by
  have hcv := conv23
  have p1 : PlainBits.takeN [1, 2, 0, 128, 5] 4 = 2147484161 := by decide
  have p2 : PlainBits.can [1, 2, 0, 128, 5].length 4 = true := by decide
  have p3 : PlainBits.can [1].length 2 = false := by decide
  have p4 : PlainBits.can [49, 50, 51, 52, 53, 54, 55, 56].length 5 = false := by decide
  have p5 : PlainBits.can [49].length 0 = false := by decide
  have p6 : PlainBits.takeT [2, 97, 98, 99] = [97, 98] := by decide
  have p7 : PlainBits.takeL [2, 97, 98, 99] = 3 := by decide
  have p8 : PlainBits.hasT [2, 97, 98, 99] = true := by decide
  have p9 : PlainBits.hasT [3, 97, 98] = false := by decide
  have s2 : str [97, 98] = { data := #[97, 98] } := by decide
  go_enter Try.func5, Try.ntmps5
  go_wp2_with fail
  refine (begun_any _).mono ?_
  rintro e w0 ⟨rfl, hb0⟩
  have z0 := hb0.size
  go_wp2_with fail
  refine (take_any _ [1, 2, 0, 128, 5] 4 _ (Tx.new w0 _ _ 5 5 _ rfl _ rfl rfl (by decide) (by decide))).mono ?_
  rintro e w1 ⟨rfl, hw1⟩
  rw [p1, p2]
  have hb1 : Below w.heap.size w w1 := by rw [← hw1]; exact hb0.alloc z0 _
  have z1 := hb1.size
  clear hw1 hb0 z0
  go_wp2_with fail
  refine (take_any _ [1] 2 _ (Tx.new w1 _ _ 1 1 _ rfl _ rfl rfl (by decide) (by decide))).mono ?_
  rintro e w2 ⟨rfl, hw2⟩
  rw [p3]
  have hb2 : Below w.heap.size w w2 := by rw [← hw2]; exact hb1.alloc z1 _
  have z2 := hb2.size
  clear hw2 hb1 z1
  go_wp2_with fail
  refine (take_any _ [49, 50, 51, 52, 53, 54, 55, 56] 5 _ (Tx.new w2 _ _ 8 8 _ rfl _ rfl rfl (by decide) (by decide))).mono ?_
  rintro e w3 ⟨rfl, hw3⟩
  rw [p4]
  have hb3 : Below w.heap.size w w3 := by rw [← hw3]; exact hb2.alloc z2 _
  have z3 := hb3.size
  clear hw3 hb2 z2
  go_wp2_with fail
  refine (take_any _ [49] 0 _ (Tx.new w3 _ _ 1 1 _ rfl _ rfl rfl (by decide) (by decide))).mono ?_
  rintro e w4 ⟨rfl, hw4⟩
  rw [p5]
  have hb4 : Below w.heap.size w w4 := by rw [← hw4]; exact hb3.alloc z3 _
  have z4 := hb4.size
  clear hw4 hb3 z3
  go_wp2_with fail
  refine (takeText_any _ [2, 97, 98, 99] _ (Tx.new w4 _ _ 4 4 _ rfl _ rfl rfl (by decide) (by decide)) (lit_cap _ _)).mono ?_
  rintro e w5 ⟨rfl, hw5⟩
  rw [p6, p7, p8, s2]
  have hb5 : Below w.heap.size w w5 := by rw [← hw5]; exact hb4.alloc z4 _
  have z5 := hb5.size
  clear hw5 hb4 z4
  go_wp2_with fail
  refine (takeText_any _ [3, 97, 98] _ (Tx.new w5 _ _ 3 3 _ rfl _ rfl rfl (by decide) (by decide)) (lit_cap _ _)).mono ?_
  rintro e w6 ⟨rfl, hw6⟩
  rw [p9]
  have hb6 : Below w.heap.size w w6 := by rw [← hw6]; exact hb5.alloc z5 _
  have z6 := hb6.size
  clear hw6 hb5 z5
  go_wp2_with fail
  refine (put_any _ _ [97] [4294967554] 4 _ ((Tx.new w6 _ _ 1 1 _ rfl _ rfl rfl (by decide) (by decide)).alloc _) (In.new _ _ _ 1 1 _ (by simp) _ rfl rfl (i64s _ (by decide)) (by decide)) (by decide)).mono ?_
  rintro e w7 ⟨v7, rfl, hO, hB⟩
  rw [show PlainBits.putS [97] 4 [4294967554] = [97, 2, 1, 0, 0] by decide] at hO
  have hb7 : Below w.heap.size w w7 := ((hb6.alloc z6 (.cells #[.int .u8 97] 5 (1, 2))).alloc (by simp; omega) (.cells #[.int .i64 (4294967554)] 3)).trans (hB.mono (by simp; omega))
  have x := hO.text (by decide)
  obtain ⟨A7, c7, rfl⟩ := x.form
  have hs7 : (convert 23 9 (.slice A7 5 c7)).run Try.prog w7 = .ok (.string { data := #[97, 2, 1, 0, 0] }) w7 := by
    rw [show ({ data := #[97, 2, 1, 0, 0] } : ByteArray) = str [97, 2, 1, 0, 0] by decide]; exact x.string
  have z7 := hb7.size
  clear hO hB x hb6 z6
  go_wp2_with fail
  refine (put_any _ _ [] [-1] 2 _ (Tx.nil _) (In.new w7 _ _ 1 1 _ rfl _ rfl rfl (i64s _ (by decide)) (by decide)) (by decide)).mono ?_
  rintro e w8 ⟨v8, rfl, hO, hB⟩
  rw [show PlainBits.putS [] 2 [-1] = [255, 255] by decide] at hO
  have hb8 : Below w.heap.size w w8 := ((hb7.alloc z7 (.cells #[.int .i64 (-1)] 3))).trans (hB.mono (by simp; omega))
  have x := hO.text (by decide)
  obtain ⟨A8, c8, rfl⟩ := x.form
  have hs8 : (convert 23 9 (.slice A8 2 c8)).run Try.prog w8 = .ok (.string { data := #[255, 255] }) w8 := by
    rw [show ({ data := #[255, 255] } : ByteArray) = str [255, 255] by decide]; exact x.string
  have z8 := hb8.size
  clear hO hB x hb7 z7
  go_wp2_with fail
  refine (put_any _ _ [97] [5] 0 _ ((Tx.new w8 _ _ 1 1 _ rfl _ rfl rfl (by decide) (by decide)).alloc _) (In.new _ _ _ 1 1 _ (by simp) _ rfl rfl (i64s _ (by decide)) (by decide)) (by decide)).mono ?_
  rintro e w9 ⟨v9, rfl, hO, hB⟩
  rw [show PlainBits.putS [97] 0 [5] = [97] by decide] at hO
  have hb9 : Below w.heap.size w w9 := ((hb8.alloc z8 (.cells #[.int .u8 97] 5 (1, 2))).alloc (by simp; omega) (.cells #[.int .i64 (5)] 3)).trans (hB.mono (by simp; omega))
  have x := hO.text (by decide)
  obtain ⟨A9, c9, rfl⟩ := x.form
  have hs9 : (convert 23 9 (.slice A9 1 c9)).run Try.prog w9 = .ok (.string { data := #[97] }) w9 := by
    rw [show ({ data := #[97] } : ByteArray) = str [97] by decide]; exact x.string
  have z9 := hb9.size
  clear hO hB x hb8 z8
  go_wp2_with fail
  refine (put_any _ _ [97] [5] 5 _ ((Tx.new w9 _ _ 1 1 _ rfl _ rfl rfl (by decide) (by decide)).alloc _) (In.new _ _ _ 1 1 _ (by simp) _ rfl rfl (i64s _ (by decide)) (by decide)) (by decide)).mono ?_
  rintro e w10 ⟨v10, rfl, hO, hB⟩
  rw [show PlainBits.putS [97] 5 [5] = [97] by decide] at hO
  have hb10 : Below w.heap.size w w10 := ((hb9.alloc z9 (.cells #[.int .u8 97] 5 (1, 2))).alloc (by simp; omega) (.cells #[.int .i64 (5)] 3)).trans (hB.mono (by simp; omega))
  have x := hO.text (by decide)
  obtain ⟨A10, c10, rfl⟩ := x.form
  have hs10 : (convert 23 9 (.slice A10 1 c10)).run Try.prog w10 = .ok (.string { data := #[97] }) w10 := by
    rw [show ({ data := #[97] } : ByteArray) = str [97] by decide]; exact x.string
  have z10 := hb10.size
  clear hO hB x hb9 z9
  have hmk := make256
  obtain ⟨Z, hZ, hzs⟩ := zeros256_str
  go_wp2_with fail
  refine (text_any _ [122] Z _ ((Tx.new w10 _ _ 1 1 _ rfl _ rfl rfl (by decide) (by decide)).alloc _) (by decide)).mono ?_
  rintro e w11 ⟨v11, rfl, hO, hB⟩
  rw [show PlainBits.textS [122] (nums Z) = [122] by simp [PlainBits.textS, nums_length, hZ]] at hO
  have hb11 : Below w.heap.size w w11 := ((hb10.alloc z10 (.cells #[.int .u8 122] 5 (1, 2))).alloc (by simp; omega) (.cells zeros256 5)).trans (hB.mono (by simp; omega))
  have x := hO.text (by decide)
  obtain ⟨A11, c11, rfl⟩ := x.form
  have hs11 : (convert 23 9 (.slice A11 1 c11)).run Try.prog w11 = .ok (.string { data := #[122] }) w11 := by
    rw [show ({ data := #[122] } : ByteArray) = str [122] by decide]; exact x.string
  clear hO hB x hb10 z10
  go_wp2
  go_ret
  exact ⟨rfl, hb11⟩
end Go.Proofs.Yticglcnnggdidaa
