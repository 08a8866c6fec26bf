/-
  Contract: disk.Read.
-/
import Derived.Test.YtgoggancldipcaaDe
namespace Go.Proofs.Ytgoggancldipcaa
open Go.RowKit

theorem Sl.form {w : World} {size : Nat} {v : Value} {n : Nat} {xs : List Value} (h : Sl w size v n xs) : ∃ A c, v = .slice A n c := by
  obtain ⟨A, c, rfl, _⟩ := h
  exact ⟨A, c, rfl⟩
theorem Sl.at {w : World} {size : Nat} {A : Option Addr} {c n : Nat} {xs : List Value} (h : Sl w size (.slice A n c) n xs) (hn : 0 < n) :
    ∃ b o, A = some ⟨b, o, none⟩ ∧ b < w.heap.size ∧ ∀ j, j < n * size → w.cell? ⟨b, o + j, none⟩ = xs[j]? := by
  obtain ⟨A', c', hv, _, h⟩ := h
  injection hv with hA _ _
  subst hA
  exact h hn

theorem waits_drop {wt : List (Int × ByteArray)} {k : Nat} {i : Int} {p : Int × ByteArray} (hp : wt[k]? = some p) (hno : M.waits (wt.drop (k + 1)) i = none) :
    M.waits (wt.drop k) i = if p.1 = i then some p.2 else none := by
  have hk : k < wt.length := (List.getElem?_eq_some_iff.1 hp).1
  have e : wt.drop k = p :: wt.drop (k + 1) := by
    rw [List.drop_eq_getElem_cons hk]
    congr 1
    exact (List.getElem?_eq_some_iff.1 hp).2
  rw [e]
  simp only [M.waits, hno]

theorem waits_front {a b : List (Int × ByteArray)} {i : Int} {x : ByteArray} (h : M.waits b i = some x) : M.waits (a ++ b) i = some x := by
  induction a with
  | nil => exact h
  | cons q a ih => simp only [List.cons_append, M.waits, ih]

theorem waits_of_drop {wt : List (Int × ByteArray)} {k : Nat} {i : Int} {x : ByteArray} (h : M.waits (wt.drop k) i = some x) : M.waits wt i = some x := by
  have := waits_front (a := wt.take k) h
  rwa [List.take_append_drop] at this

set_option maxHeartbeats 1000000
theorem read_no (v : Value) (d : D) (i : Int) (w : World) (h : IsD w v d) (hc : M.can d i = false) :
    Calls Try.prog 15 #[v, .int .i64 i] w fun e w' => e = .returned (.tuple #[.string ByteArray.empty, .bool false]) ∧ Below w.heap.size w w' := by
  obtain ⟨v0, v1, rfl, ⟨h0, _⟩, ⟨h1, _⟩⟩ := h
  obtain ⟨A, c, rfl⟩ := h0.form
  obtain ⟨l, wt, arm, down⟩ := d
  cases down with
  | true =>
    clear hc
    go_enter Try.func15, Try.ntmps15
    go_wp2
    go_ret2
    exact ⟨rfl, (Below.refl _ _).alloc (Nat.le_refl _) _⟩
  | false =>
    have hb : hasB l.length i = false := by simpa [M.can] using hc
    clear hc
    go_enter Try.func15, Try.ntmps15
    go_wp2_with fail
    refine (has_any _ _ _ _ _).mono ?_
    rintro e w' ⟨rfl, rfl⟩
    rw [hb]
    go_wp2
    go_ret2
    exact ⟨rfl, (Below.refl _ _).alloc (Nat.le_refl _) _⟩

theorem read_yes (v : Value) (d : D) (i : Int) (w : World) (h : IsD w v d) (hc : M.can d i = true) (hw : d.wait.length ≤ 65536) :
    Calls Try.prog 15 #[v, .int .i64 i] w fun e w' => e = .returned (.tuple #[.string (M.get d i), .bool true]) ∧ Below w.heap.size w w' := by
  obtain ⟨v0, v1, rfl, ⟨h0, _⟩, ⟨h1, _⟩⟩ := h
  obtain ⟨A, c, rfl⟩ := h0.form
  obtain ⟨A1, c1, rfl⟩ := h1.form
  obtain ⟨l, wt, arm, down⟩ := d
  cases down with
  | true => simp [M.can] at hc
  | false =>
    have hb : hasB l.length i = true := by simpa [M.can] using hc
    have hbi : 0 ≤ i ∧ i < l.length := by simpa [hasB] using hb
    clear hc
    dsimp only at h0 h1 hw ⊢
    go_enter Try.func15, Try.ntmps15
    go_wp2_with fail
    refine (has_any _ _ _ _ _).mono ?_
    rintro e w' ⟨rfl, rfl⟩
    rw [hb]
    go_wp2
    go_loop [6] (fun s => ∃ k : Nat, k ≤ wt.length ∧ s = .int .i64 ((k : Int) - 1) ∧ M.waits (wt.drop k) i = none) (fun s => (intOf s + 1).toNat)
    case atStart => exact ⟨wt.length, Nat.le_refl _, rfl, by simp [M.waits]⟩
    case round =>
      obtain ⟨k, hk, rfl, hno⟩ := hrel
      by_cases hk0 : 0 < k
      · obtain ⟨b, o, rfl, hbb, hcl⟩ := h1.at (by omega)
        obtain ⟨p, hp⟩ : ∃ p, wt[k - 1]? = some p := ⟨_, List.getElem?_eq_getElem (by omega)⟩
        have hp2 := waitCells_at wt (k - 1) p hp
        have hc0 := hcl ((k - 1) * 2) (by omega)
        have hc1 := hcl ((k - 1) * 2 + 1) (by omega)
        rw [hp2.1] at hc0
        rw [hp2.2] at hc1
        rw [← Nat.add_assoc] at hc1
        have HW := Lib.hid (waits_drop hp (by rw [show k - 1 + 1 = k by omega]; exact hno))
        clear hno hp2 hcl hp
        go_wp2
        · have hpi : p.1 = i := by have h : (p.fst == i) = true := by assumption
                                   simpa using h
          have hg : M.get ⟨l, wt, arm, false⟩ i = p.2 := by
            have := HW.out
            rw [if_pos hpi] at this
            simp [M.get, waits_of_drop this]
          go_ret2
          exact ⟨by rw [hg]; rfl, (Below.refl _ _).alloc (Nat.le_refl _) _⟩
        · have hpi : ¬ p.1 = i := by have h : (p.fst == i) = false := by assumption
                                     simpa using h
          go_round
          case rel => exact ⟨k - 1, by omega, by congr 1; omega, by have := HW.out; rw [if_neg hpi] at this; exact this⟩
          case measure => simp [intOf]; omega
      · have hk0' : k = 0 := by omega
        subst hk0'
        obtain ⟨b, o, rfl, hbb, hcl⟩ := h0.at (by omega)
        obtain ⟨j, rfl⟩ := Int.eq_ofNat_of_zero_le hbi.1
        have hc0 := hcl j (by omega)
        have hg : M.get ⟨l, wt, arm, false⟩ (j : Int) = l.getD j ByteArray.empty := by
          simp at hno
          simp [M.get, hno]
        have hj : j < l.length := by omega
        have hl : (l.map Value.string)[j]? = some (.string (l.getD j ByteArray.empty)) := by simp [hj, List.getD]
        rw [hl] at hc0
        generalize l.getD j ByteArray.empty = s at hc0 hg
        have HG := Lib.hid hg
        clear hg hl hcl hno hb
        go_wp2
        go_ret2
        exact ⟨by rw [HG.out]; rfl, (Below.refl _ _).alloc (Nat.le_refl _) _⟩

theorem read_any (v : Value) (d : D) (i : Int) (w : World) (h : IsD w v d) (hw : d.wait.length ≤ 65536) :
    Calls Try.prog 15 #[v, .int .i64 i] w fun e w' => e = .returned (.tuple #[.string (M.read d i).1, .bool (M.read d i).2]) ∧ Below w.heap.size w w' := by
  unfold M.read
  cases hc : M.can d i with
  | true => simpa [hc] using read_yes v d i w h hc hw
  | false => simpa [hc] using read_no v d i w h hc

end Go.Proofs.Ytgoggancldipcaa
