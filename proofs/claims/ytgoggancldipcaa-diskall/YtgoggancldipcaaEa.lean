/-
  Contracts of the document's answer: is, Read.
-/
import Derived.Test.YtgoggancldipcaaDp
namespace Go.Proofs.Ytgoggancldipcaa
open Go.RowKit

set_option maxHeartbeats 1000000 in
theorem is_any (v : Value) (d : D) (i : Int) (w : World) (h : IsD w v d) :
    Calls Try.prog 28 #[v, .int .i64 i] w fun e w' => e = .returned (.bool (M.can d i)) ∧ Below w.heap.size w w' := by
  obtain ⟨A, c, A1, c1, rfl, h0, h1⟩ := h.open_
  clear h h0 h1
  obtain ⟨l, wt, arm, down⟩ := d
  dsimp only
  cases down with
  | true =>
    go_enter Try.func28, Try.ntmps28
    go_wp2
    go_ret
    exact ⟨by simp [M.can], (Below.refl _ _).alloc (Nat.le_refl _) _⟩
  | false =>
    by_cases hi : 0 ≤ i
    · have hi' : decide (0 ≤ i) = true := by simpa using hi
      go_enter Try.func28, Try.ntmps28
      go_wp2
      go_ret
      exact ⟨by simp [M.can, hasB, hi], (Below.refl _ _).alloc (Nat.le_refl _) _⟩
    · have hi' : decide (0 ≤ i) = false := by simpa using hi
      go_enter Try.func28, Try.ntmps28
      go_wp2
      go_ret
      exact ⟨by simp [M.can, hasB, hi'], (Below.refl _ _).alloc (Nat.le_refl _) _⟩

set_option maxHeartbeats 1000000
theorem rread_no (v : Value) (d : D) (i : Int) (w : World) (h : IsD w v d) (hc : M.can d i = false) :
    Calls Try.prog 16 #[v, .int .i64 i] w fun e w' => e = .returned (.tuple #[.string ByteArray.empty, .bool false]) ∧ Below w.heap.size w w' := by
  have hD := h
  obtain ⟨A, c, A1, c1, rfl, h0, h1⟩ := h.open_
  clear h h0 h1
  go_enter Try.func16, Try.ntmps16
  go_wp2_with fail
  refine (is_any _ d i _ (hD.alloc _)).mono ?_
  rintro e w1 ⟨rfl, hb1⟩
  rw [hc]
  have hbw := ((Below.refl _ w).alloc (Nat.le_refl _) _).trans (hb1.mono (by simp))
  go_wp2
  go_ret2
  exact ⟨rfl, hbw⟩

theorem rread_yes (v : Value) (d : D) (i : Int) (w : World) (h : IsD w v d) (hc : M.can d i = true) (hw : d.wait.length ≤ 65536) :
    Calls Try.prog 16 #[v, .int .i64 i] w fun e w' => e = .returned (.tuple #[.string (M.get d i), .bool true]) ∧ Below w.heap.size w w' := by
  have hD := h
  obtain ⟨A, c, A1, c1, rfl, h0, h1⟩ := h.open_
  clear h
  obtain ⟨l, wt, arm, down⟩ := d
  dsimp only at h0 h1 hw hD ⊢
  have hbi : 0 ≤ i ∧ i < l.length := by
    simp [M.can, hasB] at hc
    omega
  go_enter Try.func16, Try.ntmps16
  go_wp2_with fail
  refine (is_any _ ⟨l, wt, arm, down⟩ i _ (hD.alloc _)).mono ?_
  rintro e w1 ⟨rfl, hb1⟩
  rw [hc]
  obtain ⟨hX, _, hbw⟩ := one_box hb1
  have h0' := h0.below hbw
  have h1' := h1.below hbw
  clear hc hb1 h0 h1 hD
  obtain ⟨x0, x1, x2, x3, _, _, _, _⟩ := hX.four
  go_wp2
  go_loop [6] (fun s => ∃ k : Nat, k ≤ wt.length ∧ s = .int .i64 ((k : Int) - 1) ∧ M.waits (wt.drop k) i = none) (fun s => (intOf s + 1).toNat)
  case atStart => exact ⟨wt.length, Nat.le_refl _, rfl, by simp [M.waits]⟩
  case round =>
    obtain ⟨k, hk, rfl, hno⟩ := hrel
    by_cases hk0 : 0 < k
    · obtain ⟨b, o, rfl, hbb, hcl⟩ := h1'.at (by omega)
      obtain ⟨p, hp⟩ : ∃ p, wt[k - 1]? = some p := ⟨_, List.getElem?_eq_getElem (by omega)⟩
      have hp2 := waitCells_at wt (k - 1) p hp
      have hc0 := hcl ((k - 1) * 2) (by omega)
      have hc1 := hcl ((k - 1) * 2 + 1) (by omega)
      rw [hp2.1] at hc0
      rw [hp2.2] at hc1
      rw [← Nat.add_assoc] at hc1
      have HW := Lib.hid (waits_drop hp (by rw [show k - 1 + 1 = k by omega]; exact hno))
      clear hno hp2 hcl hp
      go_wp2
      · have hpi : p.1 = i := by have h : (p.fst == i) = true := by assumption
                                 simpa using h
        have hg : M.get ⟨l, wt, arm, down⟩ i = p.2 := by
          have := HW.out
          rw [if_pos hpi] at this
          simp [M.get, waits_of_drop this]
        go_ret2
        exact ⟨by rw [hg]; rfl, hbw⟩
      · have hpi : ¬ p.1 = i := by have h : (p.fst == i) = false := by assumption
                                   simpa using h
        go_round
        case rel => exact ⟨k - 1, by omega, by congr 1; omega, by have := HW.out; rw [if_neg hpi] at this; exact this⟩
        case measure => simp [intOf]; omega
    · have hk0' : k = 0 := by omega
      subst hk0'
      obtain ⟨b, o, rfl, hbb, hcl⟩ := h0'.at (by omega)
      obtain ⟨j, rfl⟩ := Int.eq_ofNat_of_zero_le hbi.1
      have hc0 := hcl j (by omega)
      have hg : M.get ⟨l, wt, arm, down⟩ (j : Int) = l.getD j ByteArray.empty := by
        simp at hno
        simp [M.get, hno]
      have hj : j < l.length := by omega
      have hl : (l.map Value.string)[j]? = some (.string (l.getD j ByteArray.empty)) := by simp [hj, List.getD]
      rw [hl] at hc0
      generalize l.getD j ByteArray.empty = s at hc0 hg
      have HG := Lib.hid hg
      clear hg hl hcl hno
      go_wp2
      go_ret2
      exact ⟨by rw [HG.out]; rfl, hbw⟩

theorem rread_any (v : Value) (d : D) (i : Int) (w : World) (h : IsD w v d) (hw : d.wait.length ≤ 65536) :
    Calls Try.prog 16 #[v, .int .i64 i] w fun e w' => e = .returned (.tuple #[.string (M.read d i).1, .bool (M.read d i).2]) ∧ Below w.heap.size w w' := by
  unfold M.read
  cases hc : M.can d i with
  | true => simpa [hc] using rread_yes v d i w h hc hw
  | false => simpa [hc] using rread_no v d i w h hc

end Go.Proofs.Ytgoggancldipcaa
