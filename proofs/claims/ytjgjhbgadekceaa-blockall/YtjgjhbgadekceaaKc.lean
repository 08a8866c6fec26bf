/-
  Contracts: (head).known, (whole).may, block.of, block.May.
-/
import Derived.Test.YtjgjhbgadekceaaKb
namespace Go.Proofs.Ytjgjhbgadekceaa
open Go.RowKit Go.Joins

set_option maxHeartbeats 1000000 in
theorem known_any (k g : Int) (w : World) : Calls Try.prog 24 #[.agg #[.int .i64 k, .int .i64 g]] w fun e w' => e = .returned (.bool (PB.known k g)) ∧ Below w.heap.size w w' := by
  have hB := al w (.cells #[.int .i64 k, .int .i64 g] 43)
  by_cases h1 : 1 ≤ k
  · by_cases h2 : k ≤ 5
    · by_cases h3 : 0 ≤ g
      · go_enter Try.func24, Try.ntmps24
        go_wp2
        go_ret
        exact ⟨by simp [PB.known, h1, h2, h3], hB⟩
      · have hd : decide (0 ≤ g) = false := by simpa using h3
        go_enter Try.func24, Try.ntmps24
        go_wp2
        go_ret
        exact ⟨by simp [PB.known, hd], hB⟩
    · have hd : decide (k ≤ 5) = false := by simpa using h2
      go_enter Try.func24, Try.ntmps24
      go_wp2
      go_ret
      exact ⟨by simp [PB.known, hd], hB⟩
  · have hd : decide (1 ≤ k) = false := by simpa using h1
    go_enter Try.func24, Try.ntmps24
    go_wp2
    go_ret
    exact ⟨by simp [PB.known, hd], hB⟩

set_option maxHeartbeats 1000000 in
theorem wmay_any (k g : Int) (s : ByteArray) (w : World) : Calls Try.prog 18 #[.agg #[.int .i64 k, .int .i64 g, .string s]] w fun e w' => e = .returned (.bool (PB.may k g s.size)) ∧ Below w.heap.size w w' := by
  have hx := Bx.new w 45 #[.int .i64 k, .int .i64 g, .string s]
  have hB := al w (.cells #[.int .i64 k, .int .i64 g, .string s] 45)
  unfold PB.may
  go_enter Try.func18, Try.ntmps18
  go_wp2_with fail
  refine (known_any k g _).mono ?_
  rintro e w1 ⟨rfl, hB1⟩
  obtain ⟨c0, c1, c2, f0, f1, f2⟩ := (hx.on hB1).three
  have hb := hB.trans (hB1.mono (by simp))
  clear hx hB hB1
  cases hk : PB.known k g with
  | true =>
    go_wp2
    go_ret
    exact ⟨by simp only [hk, Bool.true_and]; congr 2; simp; omega, hb⟩
  | false =>
    go_wp2
    go_ret
    exact ⟨by simp [hk], hb⟩

set_option maxHeartbeats 1000000 in
theorem of_any (k g : Int) (s : ByteArray) (w : World) : Calls Try.prog 17 #[.agg #[.int .i64 k, .int .i64 g, .string s]] w fun e w' => e = .returned (.agg #[.int .i64 k, .int .i64 g, .string s]) ∧ Below w.heap.size w w' := by
  go_enter Try.func17, Try.ntmps17
  go_wp2
  refine bodyPost_ret (v := .agg #[.int .i64 k, .int .i64 g, .string s]) (by simp [results, Try.results17, go_sem]) rfl ⟨rfl, ?_⟩
  exact (al w _).alloc (by simp) _

set_option maxHeartbeats 1000000 in
theorem may_any (k g : Int) (s : ByteArray) (w : World) : Calls Try.prog 10 #[.agg #[.int .i64 k, .int .i64 g, .string s]] w fun e w' => e = .returned (.bool (PB.may k g s.size)) ∧ Below w.heap.size w w' := by
  have hB := al w (.cells #[.int .i64 k, .int .i64 g, .string s] 23)
  go_enter Try.func10, Try.ntmps10
  go_wp2_with fail
  refine (of_any k g s _).mono ?_
  rintro e w1 ⟨rfl, hB1⟩
  have hb := hB.trans (hB1.mono (by simp))
  clear hB hB1
  go_wp2_with fail
  refine (wmay_any k g s _).mono ?_
  rintro e w2 ⟨rfl, hB2⟩
  have hb2 := hb.trans (hB2.mono hb.size)
  clear hb hB2
  go_wp2
  go_ret
  exact ⟨rfl, hb2⟩
end Go.Proofs.Ytjgjhbgadekceaa
