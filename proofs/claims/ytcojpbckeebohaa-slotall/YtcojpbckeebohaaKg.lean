/-
  'make' of noughts, and noughts as a string.
-/
import Derived.Test.YtcojpbckeebohaaKf
namespace Go.Proofs.Ytcojpbckeebohaa
open Go.RowKit Go.Joins

def zeroCellsN (n : Nat) : Array Value := madeCells #[.int .u8 0] n
theorem makeN (n : Nat) (hn : n ≤ 1048576) (w : World) : (Instr.makeSlice 30 (.int .i64 (n : Int)) (.int .i64 (n : Int))).run Try.prog w = .ok (.slice (some ⟨w.heap.size, 0, none⟩) n n) (w.alloc (.cells (zeroCellsN n) 5)) := by
  obtain ⟨i0, hi, hz0, hz1, hz2⟩ := info_parts Try.info5
  have h := run_make (P := Try.prog) w 30 5 i0 (.int .u8 0) Try.underlying30 hi hz0 .i64 .i64 (n : Int) (n : Int) (by omega) (by omega) (by rw [hz2]; omega) (by omega)
  rw [hz1] at h
  simp only [Int.toNat_natCast, Nat.mul_one] at h
  exact h
/-- n noughts, as a string. -/
def noughts (n : Nat) : ByteArray := str (List.replicate n 0)
theorem noughts_size (n : Nat) : (noughts n).size = n := by rw [noughts, str_size, List.length_replicate]
theorem noughts_conv (n : Nat) (hn : n ≤ 1048576) (w : World) (fr : Nat × Nat) (g : Nat) (hg : g = w.heap.size) : (convert 30 9 (.slice (some ⟨g, 0, none⟩) n n)).run Try.prog (w.alloc (.cells (zeroCellsN n) 5 fr)) = .ok (.string (noughts n)) (w.alloc (.cells (zeroCellsN n) 5 fr)) :=
  (zeros_tx w fr n g hg hn).string
theorem i64_lit {z : Int} (h : (decide (-9223372036854775808 ≤ z) && decide (z ≤ 9223372036854775807)) = true) : I64 z := by simpa [I64] using h
end Go.Proofs.Ytcojpbckeebohaa
