/-
  The contract of glacislaw4.begun.
-/
import Derived.Test.YtjgjhbgadekceaaKf
namespace Go.Proofs.Ytjgjhbgadekceaa
open Go.RowKit Go.Joins

def zeroCellsN (n : Nat) : Array Value := madeCells #[.int .u8 0] n
theorem makeN (n : Nat) (hn : n ≤ 1048576) (w : World) : (Instr.makeSlice 24 (.int .i64 (n : Int)) (.int .i64 (n : Int))).run Try.prog w = .ok (.slice (some ⟨w.heap.size, 0, none⟩) n n) (w.alloc (.cells (zeroCellsN n) 5)) := by
  obtain ⟨i0, hi, hz0, hz1, hz2⟩ := info_parts Try.info5
  have h := run_make (P := Try.prog) w 24 5 i0 (.int .u8 0) Try.underlying24 hi hz0 .i64 .i64 (n : Int) (n : Int) (by omega) (by omega) (by rw [hz2]; omega) (by omega)
  rw [hz1] at h
  simp only [Int.toNat_natCast, Nat.mul_one] at h
  exact h
/-- n noughts, as a string. -/
def noughts (n : Nat) : ByteArray := str (List.replicate n 0)
theorem noughts_size (n : Nat) : (noughts n).size = n := by rw [noughts, str_size, List.length_replicate]
theorem noughts_conv (n : Nat) (hn : n ≤ 1048576) (w : World) (fr : Nat × Nat) (g : Nat) (hg : g = w.heap.size) : (convert 24 9 (.slice (some ⟨g, 0, none⟩) n n)).run Try.prog (w.alloc (.cells (zeroCellsN n) 5 fr)) = .ok (.string (noughts n)) (w.alloc (.cells (zeroCellsN n) 5 fr)) :=
  (zeros_tx w fr n g hg hn).string
theorem took_noughts : PB.took (noughts 64) = false := by decide +kernel

def ab : ByteArray := { data := #[97, 98] }
theorem i64_lit {z : Int} (h : (decide (-9223372036854775808 ≤ z) && decide (z ≤ 9223372036854775807)) = true) : I64 z := by simpa [I64] using h

set_option maxHeartbeats 2000000 in
theorem begun_any (w : World) : Calls Try.prog 7 #[] w fun e w' => e = .returned (.bool true) ∧ Below w.heap.size w w' := by
  have hm : PB.may 1 258 ab.size = true := by decide
  have hps := PB.put_size hm
  obtain ⟨t0, t1, t2, t3⟩ := PB.took_of hm rfl
  have hx := Bx.new w 23 #[.int .i64 1, .int .i64 258, .string ab]
  have hB := al w (.cells #[.int .i64 1, .int .i64 258, .string ab] 23)
  have hmk := makeN 64 (by decide)
  rw [show (((64 : Nat) : Int)) = 64 from rfl] at hmk
  have hcv := noughts_conv 64 (by decide)
  have hn0 := took_noughts
  obtain ⟨n1, n2, n3⟩ := PB.took_no hn0
  have hmay0 : PB.may 0 0 (ByteArray.mk #[]).size = false := by decide
  generalize hP : PB.put 1 258 ab = p at *
  have HP := Lib.hid hP
  have HM := Lib.hid hm
  have hp64 : (p.size : Int) = 64 := by omega
  clear hP
  generalize hAB : ab = s at *
  have hab : (ByteArray.mk #[97, 98]) = s := hAB
  clear hAB
  go_enter Try.func7, Try.ntmps7
  go_wp2_with fail
  refine (bput_any 1 258 s (i64_lit (by decide)) (i64_lit (by decide)) _).mono ?_
  rintro e w1 ⟨rfl, hB1⟩
  rw [HP.out]
  have hx1 := hx.on hB1
  have hb1 := hB.trans (hB1.mono (by simp))
  clear hx hB hB1
  go_wp2_with fail
  refine (btake_any p _ (by omega)).mono ?_
  rintro e w2 ⟨rfl, hB2⟩
  rw [t0, t1, t2, t3]
  have hx2 := (hx1.on hB2).alloc (.cells #[.int .i64 1, .int .i64 258, .string s] 23)
  have hb2 := hb1.trans (hB2.mono hb1.size)
  have hy2 := Bx.new w2 23 #[.int .i64 1, .int .i64 258, .string s]
  have hb3 := hb2.alloc hb2.size (.cells #[.int .i64 1, .int .i64 258, .string s] 23)
  clear hx1 hB2 hb1 hb2
  go_upto_region 4 with fail
  generalize w2.alloc (.cells #[.int .i64 1, .int .i64 258, .string s] 23) = w3 at *
  have hx4 := hx2.alloc (.cells (zeroCellsN 64) 5)
  have hy4 := hy2.alloc (.cells (zeroCellsN 64) 5)
  have hb4 := hb3.alloc hb3.size (.cells (zeroCellsN 64) 5)
  go_wp2_with fail
  refine (btake_any (noughts 64) _ (by rw [noughts_size]; decide)).mono ?_
  rintro e w5 ⟨rfl, hB5⟩
  rw [hn0, n1, n2, n3]
  have hx6 := (hx4.on hB5).alloc (.cells #[.int .i64 0, .int .i64 0, .string (str [])] 23)
  have hy6 := (hy4.on hB5).alloc (.cells #[.int .i64 0, .int .i64 0, .string (str [])] 23)
  have hb5 := hb4.trans (hB5.mono hb4.size)
  have hb6 := hb5.alloc hb5.size (.cells #[.int .i64 0, .int .i64 0, .string (str [])] 23)
  clear hx2 hy2 hb3 hx4 hy4 hb4 hB5 hb5 hmk hcv
  go_upto_region 5 with fail
  generalize w5.alloc (.cells #[.int .i64 0, .int .i64 0, .string (str [])] 23) = w6 at *
  obtain ⟨c0, c1, c2, _, _, _⟩ := hx6.three
  obtain ⟨d0, d1, d2, _, _, _⟩ := hy6.three
  go_wp2_with fail
  refine (may_any 1 258 s _).mono ?_
  rintro e w7 ⟨rfl, hB7⟩
  rw [HM.out]
  have hb7 := hb6.trans (hB7.mono hb6.size)
  go_wp2_with fail
  refine (may_any 0 0 _ _).mono ?_
  rintro e w8 ⟨rfl, hB8⟩
  rw [hmay0]
  have hb8 := hb7.trans (hB8.mono hb7.size)
  go_wp2
  go_ret
  exact ⟨rfl, hb8⟩
end Go.Proofs.Ytjgjhbgadekceaa
