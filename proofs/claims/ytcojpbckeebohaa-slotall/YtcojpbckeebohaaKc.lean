/-
  Contracts: (head).known, (whole).may, block.of.
-/
import Derived.Test.YtcojpbckeebohaaKb
namespace Go.Proofs.Ytcojpbckeebohaa
open Go.RowKit Go.Joins

set_option maxHeartbeats 1000000 in
theorem known_any (k g : Int) (w : World) : Calls Try.prog 41 #[.agg #[.int .i64 k, .int .i64 g]] w fun e w' => e = .returned (.bool (PB.known k g)) ∧ Below w.heap.size w w' := by
  have hB := al w (.cells #[.int .i64 k, .int .i64 g] 64)
  by_cases h1 : 1 ≤ k
  · by_cases h2 : k ≤ 5
    · by_cases h3 : 0 ≤ g
      · go_enter Try.func41, Try.ntmps41
        go_wp2
        go_ret
        exact ⟨by simp [PB.known, h1, h2, h3], hB⟩
      · have hd : decide (0 ≤ g) = false := by simpa using h3
        go_enter Try.func41, Try.ntmps41
        go_wp2
        go_ret
        exact ⟨by simp [PB.known, hd], hB⟩
    · have hd : decide (k ≤ 5) = false := by simpa using h2
      go_enter Try.func41, Try.ntmps41
      go_wp2
      go_ret
      exact ⟨by simp [PB.known, hd], hB⟩
  · have hd : decide (1 ≤ k) = false := by simpa using h1
    go_enter Try.func41, Try.ntmps41
    go_wp2
    go_ret
    exact ⟨by simp [PB.known, hd], hB⟩

set_option maxHeartbeats 1000000 in
theorem wmay_any (k g : Int) (s : ByteArray) (w : World) : Calls Try.prog 34 #[.agg #[.int .i64 k, .int .i64 g, .string s]] w fun e w' => e = .returned (.bool (PB.may k g s.size)) ∧ Below w.heap.size w w' := by
  have hx := Bx.new w 66 #[.int .i64 k, .int .i64 g, .string s]
  have hB := al w (.cells #[.int .i64 k, .int .i64 g, .string s] 66)
  unfold PB.may
  go_enter Try.func34, Try.ntmps34
  go_wp2_with fail
  refine (known_any k g _).mono ?_
  rintro e w1 ⟨rfl, hB1⟩
  obtain ⟨c0, c1, c2, f0, f1, f2⟩ := (hx.on hB1).three
  have hb := hB.trans (hB1.mono (by simp))
  clear hx hB hB1
  cases hk : PB.known k g with
  | true =>
    go_wp2
    go_ret
    exact ⟨by simp only [hk, Bool.true_and]; congr 2; simp; omega, hb⟩
  | false =>
    go_wp2
    go_ret
    exact ⟨by simp [hk], hb⟩

set_option maxHeartbeats 1000000 in
theorem of_any (k g : Int) (s : ByteArray) (w : World) : Calls Try.prog 38 #[.agg #[.int .i64 k, .int .i64 g, .string s]] w fun e w' => e = .returned (.agg #[.int .i64 k, .int .i64 g, .string s]) ∧ Below w.heap.size w w' := by
  go_enter Try.func38, Try.ntmps38
  go_wp2
  refine bodyPost_ret (v := .agg #[.int .i64 k, .int .i64 g, .string s]) (by simp [results, Try.results38, go_sem]) rfl ⟨rfl, ?_⟩
  exact (al w _).alloc (by simp) _

end Go.Proofs.Ytcojpbckeebohaa
