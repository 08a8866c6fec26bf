/-
  Plain facts on the plain disk: what is read behind a write, behind a flush.
-/
import Derived.Test.YtgoggancldipcaaDo
namespace Go.Proofs.Ytgoggancldipcaa
open Go.RowKit

theorem waits_snoc (ps : List (Int × ByteArray)) (i j : Int) (b : ByteArray) : M.waits (ps ++ [(i, b)]) j = if i = j then some b else M.waits ps j := by
  induction ps with
  | nil => simp [M.waits]
  | cons p ps ih =>
    simp only [List.cons_append, M.waits, ih]
    by_cases h : i = j <;> simp [h]

theorem put_get (l : List ByteArray) (p : Int × ByteArray) (k : Nat) (hk : k < l.length) : (M.put l p).getD k ByteArray.empty = if p.1 = (k : Int) then p.2 else l.getD k ByteArray.empty := by
  unfold M.put
  by_cases h : p.1 = (k : Int)
  · have hh : hasB l.length p.1 = true := by simp [hasB, h]; omega
    rw [if_pos hh, if_pos h, h]
    simp [hk, List.getD]
  · rw [if_neg h]
    split
    · rename_i hh
      have h1 : 0 ≤ p.1 ∧ p.1 < l.length := by simpa [hasB] using hh
      have : p.1.toNat ≠ k := by omega
      simp [List.getD, List.getElem?_set, this]
    · rfl

theorem lasting_get (ps : List (Int × ByteArray)) (l : List ByteArray) (k : Nat) (hk : k < l.length) : (M.lasting l ps).getD k ByteArray.empty = (M.waits ps (k : Int)).getD (l.getD k ByteArray.empty) := by
  unfold M.lasting
  induction ps generalizing l with
  | nil => simp [M.waits]
  | cons p ps ih =>
    rw [List.foldl_cons, ih (M.put l p) (by rw [M.put_length]; exact hk), put_get l p k hk]
    simp only [M.waits]
    cases h : M.waits ps (k : Int) with
    | some b => simp
    | none => by_cases h1 : p.1 = (k : Int) <;> simp [h1]

/-- A disk of m blocks that reads as L, no power to go. -/
structure Good (m : Nat) (d : D) (L : List ByteArray) (n : Nat) : Prop where
  down : d.down = false
  arm : d.arm = 0
  len : d.last.length = m
  lenL : L.length = m
  wait : d.wait.length ≤ n
  get : ∀ k : Nat, k < m → M.get d (k : Int) = L.getD k ByteArray.empty

theorem Good.can {m : Nat} {d : D} {L : List ByteArray} {n : Nat} (h : Good m d L n) (k : Nat) (hk : k < m) : M.can d (k : Int) = true := by
  simp [M.can, h.down, hasB, h.len]; omega
theorem Good.read {m : Nat} {d : D} {L : List ByteArray} {n : Nat} (h : Good m d L n) (k : Nat) (hk : k < m) : M.read d (k : Int) = (L.getD k ByteArray.empty, true) := by
  unfold M.read
  rw [h.can k hk, h.get k hk]; rfl
theorem Good.flush {m : Nat} {d : D} {L : List ByteArray} {n : Nat} (h : Good m d L n) : M.flush d = (⟨M.lasting d.last d.wait, [], 0, false⟩, true) ∧ Good m ⟨M.lasting d.last d.wait, [], 0, false⟩ L n := by
  refine ⟨by simp [M.flush, h.down, h.arm], rfl, rfl, by rw [M.lasting_length]; exact h.len, h.lenL, by simp, fun k hk => ?_⟩
  have := h.get k hk
  have hk' : k < d.last.length := by rw [h.len]; exact hk
  rw [← this]
  simp only [M.get, M.waits, Option.getD_none, Int.toNat_natCast]
  exact lasting_get d.wait d.last k hk'
theorem Good.write {m : Nat} {d : D} {L : List ByteArray} {n : Nat} (h : Good m d L n) (j : Nat) (hj : j < m) (b : ByteArray) (hb : b.size = 64) :
    M.write d (j : Int) b = (⟨d.last, d.wait ++ [((j : Int), b)], 0, false⟩, true) ∧ Good m ⟨d.last, d.wait ++ [((j : Int), b)], 0, false⟩ (L.set j b) (n + 1) := by
  refine ⟨by simp [M.write, h.can j hj, hb, M.pushed, h.arm, h.down], rfl, rfl, h.len, by simp [h.lenL], by have := h.wait; simp; omega, fun k hk => ?_⟩
  have hg := h.get k hk
  have hl := h.lenL
  simp only [M.get, waits_snoc] at hg ⊢
  by_cases hjk : j = k
  · subst hjk
    simp [List.getD, hl, hk]
  · have h1 : ¬ ((j : Int) = (k : Int)) := by omega
    rw [if_neg h1, hg]
    simp [List.getD, List.getElem?_set, hjk]

theorem IsD.farT {w : World} {v : Value} {d : D} (h : IsD w v d) {g : Nat} {t : TypeId} {cs : Array Value} (hx : Bx w g t cs) (h9 : (9 : TypeId) ≠ t) (h56 : (56 : TypeId) ≠ t) (i : Nat) (u : Value) : IsD (w.setCell ⟨g, i, none⟩ u) v d := by
  obtain ⟨v0, v1, rfl, h0, h1⟩ := h
  exact ⟨v0, v1, rfl, h0.far hx h9 i u, h1.far hx h56 i u⟩

theorem good_new (m : Nat) (h1 : 1 ≤ m) (h2 : m ≤ 770) : M.new m = ⟨List.replicate m blank, [], 0, false⟩ ∧ Good m ⟨List.replicate m blank, [], 0, false⟩ (List.replicate m blank) 0 := by
  refine ⟨?_, rfl, rfl, by simp, by simp, by simp, fun k hk => ?_⟩
  · unfold M.new
    rw [if_neg (by omega), Int.toNat_natCast]
  · simp [M.get, M.waits]

end Go.Proofs.Ytgoggancldipcaa
