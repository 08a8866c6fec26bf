/-
  The contract of glacislaw3.begun.
-/
import Derived.Test.YticglcnnggdidaaBe
namespace Go.Proofs.Yticglcnnggdidaa
open Go.RowKit Go.Joins

theorem nil_cap : Cp (.slice none 0 0) := ⟨_, _, _, rfl, Nat.le_refl _⟩
theorem i64s (l : List Int) (h : (l.all fun z => decide (-9223372036854775808 ≤ z) && decide (z ≤ 9223372036854775807)) = true) : ∀ z ∈ l, -9223372036854775808 ≤ z ∧ z ≤ 9223372036854775807 := by
  intro z hz
  simpa using List.all_eq_true.1 h z hz

set_option maxHeartbeats 4000000 in
theorem begun_any (w : World) : Calls Try.prog 7 #[] w fun e w' => e = .returned (.bool true) ∧ Below w.heap.size w w' := by
  have p1 : PlainBits.putS [] 2 [258, 3] = [2, 1, 3, 0] := by decide
  have p2 : PlainBits.takeN [2, 1, 3, 0] 2 = 258 := by decide
  have p3 : PlainBits.can [2, 1, 3, 0].length 2 = true := by decide
  have p4 : PlainBits.textS [] (nums { data := #[97, 98] }) = [2, 97, 98] := by decide
  have p5 : PlainBits.takeT [2, 97, 98] = [97, 98] := by decide
  have p6 : PlainBits.takeL [2, 97, 98] = 3 := by decide
  have p7 : PlainBits.hasT [2, 97, 98] = true := by decide
  have s1 : str [2, 1, 3, 0] = { data := #[2, 1, 3, 0] } := by decide
  have s2 : str [97, 98] = { data := #[97, 98] } := by decide
  go_enter Try.func7, Try.ntmps7
  go_wp2_with fail
  refine (put_any _ _ [] [258, 3] 2 _ (Tx.nil _) (In.new w _ _ 2 2 _ rfl _ rfl rfl (i64s _ (by decide)) (by decide)) (by decide)).mono ?_
  rintro e w1 ⟨v1, rfl, hO1, hB1⟩
  rw [p1] at hO1
  have hb1 : Below w.heap.size w w1 := ((Below.refl _ w).alloc (Nat.le_refl _) (.cells #[.int .i64 258, .int .i64 3] 3)).trans (hB1.mono (by simp))
  have x1 := hO1.text (by decide)
  obtain ⟨A, c, rfl⟩ := x1.form
  clear hO1 hB1
  have z1 := hb1.size
  go_wp2_with fail
  refine (take_any _ _ 2 _ x1).mono ?_
  rintro e w2 ⟨rfl, rfl⟩
  rw [p2, p3]
  go_wp2_with fail
  refine (text_any _ [] { data := #[97, 98] } w1 (Tx.nil _) (by decide)).mono ?_
  rintro e w2 ⟨v2, rfl, hO2, hB2⟩
  rw [p4] at hO2
  have x2 := hO2.text (by decide)
  have c2 := hO2.cap
  have hb2 := hb1.trans (hB2.mono z1)
  replace x1 := x1.below hB2
  clear hO2 hB2 hb1
  go_wp2_with fail
  refine (takeText_any _ _ _ x2 c2).mono ?_
  rintro e w3 ⟨rfl, rfl⟩
  rw [p5, p6, p7, s2]
  clear x2 c2
  go_wp2_with fail
  refine (takeText_any _ [] _ (Tx.nil _) nil_cap).mono ?_
  rintro e w3 ⟨rfl, rfl⟩
  have q3 : PlainBits.hasT [] = false := by decide
  rw [q3]
  have hs : (convert 23 9 (.slice A 4 c)).run Try.prog w2 = .ok (.string { data := #[2, 1, 3, 0] }) w2 := by rw [← s1]; exact x1.string
  clear x1
  go_wp2
  go_ret
  exact ⟨rfl, hb2⟩
end Go.Proofs.Yticglcnnggdidaa
