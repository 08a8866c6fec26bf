/-
  Contracts: glacislaw1.block and glacisref1.noughts.
-/
import Derived.Test.YtgoggancldipcaaDb
namespace Go.Proofs.Ytgoggancldipcaa
open Go.RowKit

theorem Try.info5 : (Try.prog.info? 5).map (fun i => (i.zero, i.size, i.bytes)) = some (some (.int .u8 0), 1, 1) := by kernel_rfl

/-- The numbers of block n, and their text. -/
def blkL (n : Int) : List Int := (List.range 64).map fun (i : Nat) => (n * 7 + (i : Int) + 1) % 256
def blk (n : Int) : ByteArray := strOfNums (blkL n)
def blkTo (n : Int) (k : Nat) : List Value := (List.range 64).map fun (i : Nat) => if i < k then Value.int .u8 ((n * 7 + (i : Int) + 1) % 256) else Value.int .u8 0

theorem blkTo_set (n : Int) (k : Nat) : (blkTo n k).set k (Value.int .u8 ((n * 7 + (k : Int) + 1) % 256)) = blkTo n (k + 1) := by
  unfold blkTo
  apply List.ext_getElem?
  intro j
  rw [List.getElem?_set]
  by_cases hkj : k = j
  · subst hkj
    by_cases hk : k < 64 <;> simp [hk]
  · simp only [if_neg hkj, List.getElem?_map]
    by_cases hj : j < 64
    · simp only [List.getElem?_range hj, Option.map_some]
      congr 1
      by_cases h1 : j < k
      · rw [if_pos h1, if_pos (by omega)]
      · rw [if_neg h1, if_neg (by omega)]
    · simp [List.getElem?_eq_none (show (List.range 64).length ≤ j by simp; omega)]

theorem blkTo_zero (n : Int) : (madeCells #[Value.int .u8 0] 64).toList = blkTo n 0 := by
  rw [toList_madeCells_one]
  rfl

set_option maxHeartbeats 1000000 in
theorem block_any (n : Int) (hn0 : 0 ≤ n) (hn : n ≤ 255) (w : World) :
    Calls Try.prog 19 #[.int .u8 n] w fun e w' => e = .returned (.string (blk n)) ∧ Below w.heap.size w w' := by
  obtain ⟨i0, hi, hz0, hz1, hz2⟩ := info_parts Try.info5
  go_enter Try.func19, Try.ntmps19
  go_wp2_with (refine wpList_make_full _ rfl _ _ 45 rfl w.heap.size 5 i0 (.int .u8 0) 1 Try.underlying45 hi hz0 hz1 .i64 .i64 64 64 64 rfl rfl rfl rfl (by rw [hz2]; decide) (by decide) (Nat.le_refl _) ?_)
  intro w1 hown hgrow
  have hb1 : Below w.heap.size w w1 := (Below.refl _ _).grown hgrow (Nat.le_refl _) (by simp)
  have hown1 : w1.ownsRow w.heap.size 5 1 (.slice (some ⟨w.heap.size, 0, none⟩) 64 64) 64 (blkTo n 0) := by rw [← blkTo_zero n]; exact hown
  clear hown hgrow
  go_wp2
  go_loopw [4] (fun i wr => ∃ k : Nat, k ≤ 64 ∧ i = .int .i64 k ∧ wr.ownsRow w.heap.size 5 1 (.slice (some ⟨w.heap.size, 0, none⟩) 64 64) 64 (blkTo n k) ∧ Below w.heap.size w wr) (fun i _ => 64 - (intOf i).toNat)
  case atStart => exact ⟨0, Nat.zero_le _, rfl, hown1, hb1⟩
  case round =>
    obtain ⟨k, hk, rfl, hok, hbk⟩ := hrel
    by_cases hlt : k < 64
    · have hcell := hok.cellAt k (by omega)
      have hc2 : (blkTo n k)[k]? = some (.int .u8 0) := by simp [blkTo, hlt]
      rw [hc2] at hcell
      have hfz := hok.frozenAt k
      clear hc2
      go_wp2
      go_roundw
      case rel =>
        exact ⟨k + 1, by omega, by go_num, by rw [← blkTo_set]; exact (hok.stored k _).1, hbk.setCell (Nat.le_refl _) _⟩
      case measure => simp [intOf]; omega
    · have hk64 : k = 64 := by omega
      subst hk64
      have hconv : ∀ w' : World, (∀ i, i < 64 → w'.cell? ⟨w.heap.size, 0 + i, none⟩ = some (.int .u8 ((blkL n).getD i 0))) → (convert 45 9 (.slice (some ⟨w.heap.size, 0, none⟩) 64 64)).run Try.prog w' = .ok (.string (blk n)) w' :=
        fun w' h => run_convert_bytes_arg w' 45 5 Try.underlying45 Try.underlying5 w.heap.size 0 64 64 (blkL n) (by simp [blkL]) h 9 Try.underlying9
      have hcv := hconv wr (fun i hi => by
        rw [Nat.zero_add, hok.cellAt i (by omega)]
        simp [blkTo, blkL, hi])
      clear hconv
      go_wp2
      go_ret
      exact ⟨rfl, hbk⟩

theorem rep_at (z : Value) (f : Int → Value) (hf : f 0 = z) (n i : Nat) (hi : i < n) : (List.replicate n z)[i]? = some (f ((List.replicate n (0 : Int)).getD i 0)) := by
  simp [List.getElem?_replicate, hi, List.getD, hf]

/-- Size noughts. -/
def blank : ByteArray := strOfNums (List.replicate 64 0)

set_option maxHeartbeats 1000000 in
theorem noughts_any (w : World) :
    Calls Try.prog 22 #[] w fun e w' => e = .returned (.string blank) ∧ Below w.heap.size w w' := by
  obtain ⟨i0, hi, hz0, hz1, hz2⟩ := info_parts Try.info5
  go_enter Try.func22, Try.ntmps22
  go_wp2_with (refine wpList_make_full _ rfl _ _ 45 rfl w.heap.size 5 i0 (.int .u8 0) 1 Try.underlying45 hi hz0 hz1 .i64 .i64 64 64 64 rfl rfl rfl rfl (by rw [hz2]; decide) (by decide) (Nat.le_refl _) ?_)
  intro w1 hown hgrow
  have hb1 : Below w.heap.size w w1 := (Below.refl _ _).grown hgrow (Nat.le_refl _) (by simp)
  have hcv : (convert 45 9 (.slice (some ⟨w.heap.size, 0, none⟩) 64 64)).run Try.prog w1 = .ok (.string blank) w1 :=
    run_convert_bytes_arg w1 45 5 Try.underlying45 Try.underlying5 w.heap.size 0 64 64 (List.replicate 64 0) (by simp) (fun i hi => by
      rw [Nat.zero_add, hown.cellAt i (by omega)]
      show (madeCells #[Value.int .u8 0] 64).toList[i]? = _
      rw [toList_madeCells_one]
      exact rep_at _ (Value.int .u8) rfl 64 i hi) 9 Try.underlying9
  clear hown hgrow
  go_wp2
  go_ret
  exact ⟨rfl, hb1⟩

end Go.Proofs.Ytgoggancldipcaa
