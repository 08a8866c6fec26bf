/-
  Contract: disk.New.
-/
import Derived.Test.YtgoggancldipcaaDd
namespace Go.Proofs.Ytgoggancldipcaa
open Go.RowKit

theorem IsD_empty (w : World) : IsD w (.agg #[.slice none 0 0, .slice none 0 0, .int .i64 0, .bool false]) M.empty :=
  ⟨_, _, rfl, TS.nil _ _ _, TS.nil _ _ _⟩

def newTo (n k : Nat) : List Value := (List.range n).map fun (i : Nat) => if i < k then Value.string blank else Value.string { data := #[] }

theorem newTo_set (n k : Nat) : (newTo n k).set k (Value.string blank) = newTo n (k + 1) := by
  unfold newTo
  apply List.ext_getElem?
  intro j
  rw [List.getElem?_set]
  by_cases hkj : k = j
  · subst hkj
    by_cases hk : k < n <;> simp [hk]
  · simp only [if_neg hkj, List.getElem?_map]
    by_cases hj : j < n
    · simp only [List.getElem?_range hj, Option.map_some]
      congr 1
      by_cases h1 : j < k
      · rw [if_pos h1, if_pos (by omega)]
      · rw [if_neg h1, if_neg (by omega)]
    · simp [List.getElem?_eq_none (show (List.range n).length ≤ j by simp; omega)]

theorem newTo_zero (n : Nat) : (madeCells #[Value.string { data := #[] }] n).toList = newTo n 0 := by
  rw [toList_madeCells_one]
  unfold newTo
  apply List.ext_getElem?
  intro j
  by_cases hj : j < n <;> simp [hj, List.getElem?_replicate]

theorem newTo_full (n : Nat) : newTo n n = (List.replicate n blank).map Value.string := by
  unfold newTo
  apply List.ext_getElem?
  intro j
  by_cases hj : j < n <;> simp [hj, List.getElem?_replicate]

theorem new_none (n : Int) (h : n < 1 ∨ 770 < n) : M.new n = M.empty := by simp [M.new, h]

set_option maxHeartbeats 1000000 in
theorem new_out (n : Int) (w : World) (h : n < 1 ∨ 770 < n) :
    Calls Try.prog 9 #[.int .i64 n] w fun e w' => ∃ v, e = .returned v ∧ IsD w' v (M.new n) ∧ Below w.heap.size w w' := by
  rw [new_none n h]
  rcases h with h | h
  · go_enter Try.func9, Try.ntmps9
    go_wp2
    exact bodyPost_ret (v := .agg #[.slice none 0 0, .slice none 0 0, .int .i64 0, .bool false]) (by simp [results, Try.results9, go_sem]) rfl ⟨_, rfl, IsD_empty _, (Below.refl _ _).alloc (Nat.le_refl _) _⟩
  · have h' : decide (n < 1) = false := by simp; omega
    go_enter Try.func9, Try.ntmps9
    go_wp2
    exact bodyPost_ret (v := .agg #[.slice none 0 0, .slice none 0 0, .int .i64 0, .bool false]) (by simp [results, Try.results9, go_sem]) rfl ⟨_, rfl, IsD_empty _, (Below.refl _ _).alloc (Nat.le_refl _) _⟩

set_option maxHeartbeats 1000000 in
theorem new_in (n : Nat) (w : World) (h1 : 1 ≤ n) (h2 : n ≤ 770) :
    Calls Try.prog 9 #[.int .i64 n] w fun e w' => ∃ v, e = .returned v ∧ IsD w' v (M.new n) ∧ Below w.heap.size w w' := by
  obtain ⟨i0, hi, hz0, hz1, hz2⟩ := info_parts Try.info9
  have h1' : decide ((n : Int) < 1) = false := by simp; omega
  have h2' : decide (770 < (n : Int)) = false := by simp; omega
  have hnew : M.new n = ⟨List.replicate n blank, [], 0, false⟩ := by
    unfold M.new
    rw [if_neg (by omega), Int.toNat_natCast]
  have HN := Lib.hid hnew
  clear hnew
  go_enter Try.func9, Try.ntmps9
  go_wp2_with fail
  refine (repeat_any _).mono ?_
  rintro e w1 ⟨rfl, hb1⟩
  have hx1 := (Bx.new w 28 #[.slice none 0 0, .slice none 0 0, .int .i64 0, .bool false]).below hb1 (by simp)
  have hbw : Below w.heap.size w w1 := ((Below.refl _ w).alloc (Nat.le_refl _) _).trans (hb1.mono (by simp))
  have hs1 : w.heap.size + 1 ≤ w1.heap.size := by have := hb1.size; simp at this; omega
  clear hb1
  go_wp2_with (refine wpList_make_full _ rfl _ _ 25 rfl (w.heap.size + 1) 9 i0 (.string { data := #[] }) 1 Try.underlying25 hi hz0 hz1 .i64 .i64 n n n rfl rfl rfl rfl (by rw [hz2]; omega) (by unfold maxLen; omega) hs1 ?_)
  intro w2 hown hgrow
  have hb2 : Below w1.heap.size w1 w2 := (Below.refl _ _).grown hgrow (Nat.le_refl _) (by simp)
  have hx2 := hx1.below hb2 (by omega)
  have hbw2 : Below w.heap.size w w2 := hbw.trans (hb2.mono (by omega))
  have hown1 : w2.ownsRow (w.heap.size + 1) 9 1 (.slice (some ⟨w1.heap.size, 0, none⟩) n n) n (newTo n 0) := by rw [← newTo_zero n]; exact hown
  obtain ⟨g, hg⟩ : ∃ g, g = w1.heap.size := ⟨_, rfl⟩
  rw [← hg] at hown1 hs1 ⊢
  clear hown hgrow hb2 hx1 hbw hg
  go_wp2
  go_loopw [5, 18] (fun _ i wr => ∃ k : Nat, k ≤ n ∧ i = .int .i64 k ∧ wr.ownsRow (w.heap.size + 1) 9 1 (.slice (some ⟨g, 0, none⟩) n n) n (newTo n k) ∧ Bx wr w.heap.size 28 #[.slice none 0 0, .slice none 0 0, .int .i64 0, .bool false] ∧ Below w.heap.size w wr) (fun _ i _ => n - (intOf i).toNat)
  case atStart => exact ⟨0, Nat.zero_le _, rfl, hown1, hx2, hbw2⟩
  case round =>
    obtain ⟨k, hk, rfl, hok, hxk, hbk⟩ := hrel
    by_cases hlt : k < n
    · have hcell := hok.cellAt k (by omega)
      have hc2 : (newTo n k)[k]? = some (.string { data := #[] }) := by simp [newTo, hlt]
      rw [hc2] at hcell
      have hfz := hok.frozenAt k
      clear hc2
      go_wp2
      go_roundw
      case rel =>
        exact ⟨k + 1, by omega, by go_num, by rw [← newTo_set]; exact (hok.stored k _).1, hxk.far (p := ⟨g, k, none⟩) (by show w.heap.size ≠ g; omega) _, hbk.setCell (p := ⟨g, k, none⟩) (by show w.heap.size ≤ g; omega) _⟩
      case measure => simp [intOf]; omega
    · have hkn : k = n := by omega
      subst hkn
      obtain ⟨c0, c1, c2, c3, f0, f1, f2, f3⟩ := hxk.four
      go_wp2
      refine bodyPost_ret (v := .agg #[.slice (some ⟨g, 0, none⟩) k k, .slice none 0 0, .int .i64 0, .bool false]) (by simp [results, Try.results9, go_sem, c0, c1, c2, c3]) rfl ⟨_, rfl, ?_, ?_⟩
      · rw [HN.out]
        exact ⟨_, _, rfl, by simpa [newTo_full] using TS.own (own_set4 hok (by omega) _ _ _ _), TS.nil _ _ _⟩
      · exact below_set4 hbk (Nat.le_refl _) _ _ _ _

theorem new_any (n : Int) (w : World) :
    Calls Try.prog 9 #[.int .i64 n] w fun e w' => ∃ v, e = .returned v ∧ IsD w' v (M.new n) ∧ Below w.heap.size w w' := by
  by_cases h : n < 1 ∨ 770 < n
  · exact new_out n w h
  · obtain ⟨k, rfl⟩ := Int.eq_ofNat_of_zero_le (show 0 ≤ n by omega)
    exact new_in k w (by omega) (by omega)

end Go.Proofs.Ytgoggancldipcaa
