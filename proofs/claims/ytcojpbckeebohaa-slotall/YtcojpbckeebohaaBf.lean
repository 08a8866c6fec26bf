/-
  Small facts: noughts, strings of texts, rows of numbers written out.
-/
import Derived.Test.YtcojpbckeebohaaBe
namespace Go.Proofs.Ytcojpbckeebohaa
open Go.RowKit Go.Joins

theorem nil_cap : Cp (.slice none 0 0) := ⟨_, _, _, rfl, Nat.le_refl _⟩
theorem i64s (l : List Int) (h : (l.all fun z => decide (-9223372036854775808 ≤ z) && decide (z ≤ 9223372036854775807)) = true) : ∀ z ∈ l, -9223372036854775808 ≤ z ∧ z ≤ 9223372036854775807 := by
  intro z hz
  simpa using List.all_eq_true.1 h z hz
theorem slot_bool {x : Option Value} {b : Bool} (h : x.getD undef = .bool b) : x = some (.bool b) := by
  cases x with
  | none => cases h
  | some v => exact congrArg some h
theorem lit_cap (A : Option Addr) (n : Nat) : Cp (.slice A n n) := ⟨_, _, _, rfl, Nat.le_refl _⟩
theorem zeros_list (n : Nat) : (madeCells #[.int .u8 0] n).toList = (List.replicate n 0).map bv := by
  rw [toList_madeCells_one, List.map_replicate]
  rfl
theorem str_size (l : List Nat) : (str l).size = l.length := by rw [str, strOfNums_size, List.length_map]
theorem zeros_tx (w : World) (fr : Nat × Nat) (n g : Nat) (hg : g = w.heap.size) (hn : n ≤ 1048576) : Tx (w.alloc (.cells (madeCells #[.int .u8 0] n) 5 fr)) (.slice (some ⟨g, 0, none⟩) n n) (List.replicate n 0) :=
  Tx.new w _ fr n n g hg _ (zeros_list n) List.length_replicate (fun b hb => by rw [(List.mem_replicate.1 hb).2]; decide) hn
end Go.Proofs.Ytcojpbckeebohaa
