/-
  The law DiskWhole: plain facts, and its walk.
-/
import Derived.Test.YtgoggancldipcaaDr
namespace Go.Proofs.Ytgoggancldipcaa
open Go.RowKit

theorem whole_write (l1 : List ByteArray) (hl : l1.length = 5) (ps : List (Int × ByteArray)) (k j : Nat) (b : ByteArray) (hp : ps[k]? = some ((j : Int), b)) (hj : j < 5) (hb : b.size = 64) :
    M.write ⟨l1, ps.take k, 0, false⟩ (j : Int) b = (⟨l1, ps.take (k + 1), 0, false⟩, true) := by
  have hc : M.can ⟨l1, ps.take k, 0, false⟩ (j : Int) = true := by simp [M.can, hasB, hl]; omega
  simp [M.write, hc, hb, M.pushed, take_snoc' _ _ _ hp]

theorem kept_one {ps : List (Int × ByteArray)} {ks : List Bool} {k : Nat} {p : Int × ByteArray} (hp : ps[k]? = some p) :
    M.kept (ps.take (k + 1)) (ks.take (k + 1)) = M.kept (ps.take k) (ks.take k) ++ if ks[k]? = some true then [p] else [] := by
  cases hk : ks[k]? with
  | some b =>
    rw [kept_snoc hp hk]
    cases b <;> simp
  | none =>
    have hl : ks.length ≤ k := by simpa using hk
    rw [List.take_of_length_le (show ks.length ≤ k + 1 by omega), List.take_of_length_le hl]
    have h1 : M.kept (ps.take (k + 1)) ks = M.kept (ps.take ks.length) ks := by
      have h := kept_all (ps := ps.take (k + 1)) (ks := ks) (n := ks.length) (by have := (List.getElem?_eq_some_iff.1 hp).1; simp; omega)
      rw [← h, List.take_of_length_le (Nat.le_refl _), List.take_take]
      congr 2
      omega
    have h2 : M.kept (ps.take k) ks = M.kept (ps.take ks.length) ks := by
      have h := kept_all (ps := ps.take k) (ks := ks) (n := ks.length) (by have := (List.getElem?_eq_some_iff.1 hp).1; simp; omega)
      rw [← h, List.take_of_length_le (Nat.le_refl _), List.take_take]
      congr 2
      omega
    rw [h1, h2]
    simp

/-- What is wanted of block i when k of the later writes have been looked at. -/
def wantTo (l1 : List ByteArray) (ps : List (Int × ByteArray)) (ks : List Bool) (i k : Nat) : ByteArray :=
  (M.waits (M.kept (ps.take k) (ks.take k)) (i : Int)).getD (l1.getD i ByteArray.empty)

theorem want_zero (l1 : List ByteArray) (ps : List (Int × ByteArray)) (ks : List Bool) (i : Nat) : wantTo l1 ps ks i 0 = l1.getD i ByteArray.empty := by simp [wantTo, M.kept, M.waits]
theorem want_yes {l1 : List ByteArray} {ps : List (Int × ByteArray)} {ks : List Bool} {i k : Nat} {b : ByteArray} (hp : ps[k]? = some ((i : Int), b)) (hk : ks[k]? = some true) : wantTo l1 ps ks i (k + 1) = b := by
  simp [wantTo, kept_one hp, hk, waits_snoc]
theorem want_no {l1 : List ByteArray} {ps : List (Int × ByteArray)} {ks : List Bool} {i k j : Nat} {b : ByteArray} (hp : ps[k]? = some ((j : Int), b)) (h : j ≠ i ∨ ks[k]? ≠ some true) : wantTo l1 ps ks i (k + 1) = wantTo l1 ps ks i k := by
  unfold wantTo
  rw [kept_one hp]
  by_cases hk : ks[k]? = some true
  · have hji : ¬ ((j : Int) = (i : Int)) := by rcases h with h | h <;> simp_all <;> omega
    rw [if_pos hk, waits_snoc, if_neg hji]
  · rw [if_neg hk, List.append_nil]
theorem want_all (l1 : List ByteArray) (ps : List (Int × ByteArray)) (ks : List Bool) (i : Nat) (hi : i < l1.length) : wantTo l1 ps ks i ps.length = (M.lasting l1 (M.kept ps ks)).getD i ByteArray.empty := by
  rw [lasting_get _ _ _ hi]
  unfold wantTo
  rw [List.take_of_length_le (Nat.le_refl ps.length)]
  congr 2
  rcases Nat.le_total ps.length ks.length with h | h
  · have := kept_all (ps := ps) (ks := ks) (n := ps.length) (by omega)
    rw [← this, List.take_of_length_le (Nat.le_refl ps.length)]
  · rw [List.take_of_length_le h]

end Go.Proofs.Ytgoggancldipcaa
