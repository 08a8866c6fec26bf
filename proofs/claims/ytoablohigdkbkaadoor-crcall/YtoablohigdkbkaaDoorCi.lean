/-
  The law CrcAll: its walk.
-/
import Derived.Test.YtoablohigdkbkaaDoorCh
import Derived.Test.YtoablohigdkbkaaDoorCd
namespace Go.Proofs.YtoablohigdkbkaaDoor
open Go.RowKit Go.Joins

set_option maxHeartbeats 4000000 in
theorem all_big (A0 A1 A2 : Option Addr) (n0 c0 n1 c1 n2 c2 : Nat) (w : World) (hT : Tab w) (hbig : 100 < n0 ∨ 100 < n1 ∨ 100 < n2) :
    Calls Tryd.prog 3 #[.slice A0 n0 c0, .slice A1 n1 c1, .slice A2 n2 c2] w fun e w' => e = .returned (.bool true) ∧ Below w.heap.size w w' := by
  by_cases h0 : (100 : Int) < (n0 : Int)
  · go_enter Tryd.func3, Tryd.ntmps3
    go_wp2_with fail
    refine (begun_any _ hT).mono ?_
    rintro e w0 ⟨rfl, hb0⟩
    go_wp2
    go_ret
    exact ⟨rfl, hb0⟩
  by_cases h1 : (100 : Int) < (n1 : Int)
  · go_enter Tryd.func3, Tryd.ntmps3
    go_wp2_with fail
    refine (begun_any _ hT).mono ?_
    rintro e w0 ⟨rfl, hb0⟩
    go_wp2
    go_ret
    exact ⟨rfl, hb0⟩
  have h2 : (100 : Int) < (n2 : Int) := by omega
  go_enter Tryd.func3, Tryd.ntmps3
  go_wp2_with fail
  refine (begun_any _ hT).mono ?_
  rintro e w0 ⟨rfl, hb0⟩
  go_wp2
  go_ret
  exact ⟨rfl, hb0⟩

set_option maxHeartbeats 4000000 in
theorem all_any (A0 A1 A2 : Option Addr) (n0 c0 n1 c1 n2 c2 : Nat) (t0 t1 t2 : List Nat) (w : World) (hT : Tab w)
    (x0 : Tx w (.slice A0 n0 c0) t0) (x1 : Tx w (.slice A1 n1 c1) t1) (x2 : Tx w (.slice A2 n2 c2) t2) (l0 : t0.length = n0) (l1 : t1.length = n1)
    (h0 : n0 ≤ 100) (h1 : n1 ≤ 100) (h2 : n2 ≤ 100) :
    Calls Tryd.prog 3 #[.slice A0 n0 c0, .slice A1 n1 c1, .slice A2 n2 c2] w fun e w' => e = .returned (.bool true) ∧ Below w.heap.size w w' := by
  obtain ⟨i0, hi, hz0, hz1, hz2⟩ := info_parts Tryd.info5
  have g0 : ¬ (100 : Int) < (n0 : Int) := by omega
  have g1 : ¬ (100 : Int) < (n1 : Int) := by omega
  have g2 : ¬ (100 : Int) < (n2 : Int) := by omega
  go_enter Tryd.func3, Tryd.ntmps3
  go_wp2_with fail
  refine (begun_any _ hT).mono ?_
  rintro e w1 ⟨rfl, hb1⟩
  replace hT := hT.below hb1
  replace x0 := x0.below hb1
  replace x1 := x1.below hb1
  replace x2 := x2.below hb1
  have z1 := hb1.size
  go_wp2_with fail
  refine (sum_any _ [t0, t1, t2] _ (hT.alloc _) (Ls.new3 rfl x0 x1 x2)).mono ?_
  rintro e w2 ⟨rfl, hw2⟩
  generalize hS1 : PlainCrc.sum [t0, t1, t2].flatten = s1
  have hbn : Below w1.heap.size w1 w2 := by rw [← hw2]; exact al _ _
  clear hw2
  replace hT := hT.below hbn
  replace x0 := x0.below hbn
  replace x1 := x1.below hbn
  replace x2 := x2.below hbn
  have hb2 := hb1.trans (hbn.mono z1)
  have z2 := hb2.size
  clear hbn hb1 z1
  go_wp2_with fail
  refine (ref_any _ [t0, t1, t2] _ (Ls.new3 rfl x0 x1 x2)).mono ?_
  rintro e w3 ⟨rfl, hw3⟩
  have hbn : Below w2.heap.size w2 w3 := by rw [← hw3]; exact al _ _
  clear hw3 x2
  replace hT := hT.below hbn
  replace x0 := x0.below hbn
  replace x1 := x1.below hbn
  have hb3 := hb2.trans (hbn.mono z2)
  have z3 := hb3.size
  clear hbn hb2 z2
  rw [hS1]
  clear hS1
  go_wp2_with fail
  refine (sum_any _ [t0] _ (hT.alloc _) (Ls.new1 rfl x0)).mono ?_
  rintro e w4 ⟨rfl, hw4⟩
  generalize hS2 : PlainCrc.sum [t0].flatten = s2
  have hbn : Below w3.heap.size w3 w4 := by rw [← hw4]; exact al _ _
  clear hw4
  replace hT := hT.below hbn
  replace x0 := x0.below hbn
  replace x1 := x1.below hbn
  have hb4 := hb3.trans (hbn.mono z3)
  have z4 := hb4.size
  clear hbn hb3 z3
  go_wp2_with fail
  refine (ref_any _ [t0] _ (Ls.new1 rfl x0)).mono ?_
  rintro e w5 ⟨rfl, hw5⟩
  have hbn : Below w4.heap.size w4 w5 := by rw [← hw5]; exact al _ _
  clear hw5
  replace hT := hT.below hbn
  replace x0 := x0.below hbn
  replace x1 := x1.below hbn
  have hb5 := hb4.trans (hbn.mono z4)
  have z5 := hb5.size
  clear hbn hb4 z4
  rw [hS2]
  clear hS2
  go_wp2_with fail
  refine (sum_any _ [t0, [], t1] _ (hT.alloc _) (Ls.new3 rfl x0 (Tx.nil _) x1)).mono ?_
  rintro e w6 ⟨rfl, hw6⟩
  have hbn : Below w5.heap.size w5 w6 := by rw [← hw6]; exact al _ _
  clear hw6
  replace hT := hT.below hbn
  replace x0 := x0.below hbn
  replace x1 := x1.below hbn
  have hb6 := hb5.trans (hbn.mono z5)
  have z6 := hb6.size
  clear hbn hb5 z5
  have hs3 : PlainCrc.sum [t0, [], t1].flatten = PlainCrc.sum (t0 ++ t1) := by simp
  rw [hs3]
  clear hs3
  generalize hS3 : PlainCrc.sum (t0 ++ t1) = s3
  go_wp2_with (at_builtin; refine wpList_append_sl rfl _ _ 22 rfl w6.heap.size 5 i0 (.int .u8 0) 1 1 Tryd.underlying22 hi hz0 hz1 hz2 rfl (by decide) _ _ _ rfl (World.ownsRow_made w6 #[] 0 (Nat.le_refl _) (Nat.zero_le _) rfl) A0 n0 c0 (t0.map bv) rfl ?qa1 (bytes_one t0) ?qa2 ?qa3 ?qa4 ?_)
  case qa1 => rw [← l0]; have := (x0.alloc (.cells #[] 5)).1; rw [← l0] at this; exact this
  case qa2 => unfold maxLen; omega
  case qa3 => omega
  case qa4 => simp
  intro v' w7 hown hgrow
  have hbn : Below w6.heap.size w6 w7 := ((Below.refl _ w6).alloc (Nat.le_refl _) (.cells #[] 5)).grown hgrow (by simp) (fun k hk => by simp [Value.ownBlock] at hk; omega)
  have hown7 : w7.ownsRow w6.heap.size 5 1 v' n0 (t0.map bv) := by simpa using hown
  clear hown hgrow
  replace x1 := x1.below hbn
  have b0 := x0.lt
  have b1 := x1.lt
  obtain ⟨Av, cv, rfl⟩ := own_form hown7
  have z7 := hbn.size
  clear x0
  go_wp2_with (at_builtin; refine wpList_append_sl rfl _ _ 22 rfl w6.heap.size 5 i0 (.int .u8 0) 1 1 Tryd.underlying22 hi hz0 hz1 hz2 rfl (by decide) _ _ _ rfl hown7 A1 n1 c1 (t1.map bv) rfl ?qa1 (bytes_one t1) ?qa2 ?qa3 ?qa4 ?_)
  case qa1 => have := x1.1; rw [l1] at this; exact this
  case qa2 => unfold maxLen; omega
  case qa3 => omega
  case qa4 => exact z7
  intro v' w8 hown hgrow
  have hbn8 : Below w6.heap.size w6 w8 := hbn.grown hgrow z7 (fun k hk => own_ge hown7 hk)
  have hb8 := hb6.trans (hbn8.mono z6)
  have z8 := hb8.size
  have x3 : Tx w8 v' (t0 ++ t1) := Tx.own (by rw [List.map_append]; exact hown) (by simp [l0, l1]) (fun b hb => (List.mem_append.1 hb).elim (b0 b) (b1 b)) (by omega)
  have hT8 : Tab w8 := hT.below hbn8
  obtain ⟨Av', cv', rfl⟩ := own_form hown
  clear hown hgrow hown7 hbn hbn8 hb6 z6 z7
  go_wp2_with fail
  refine (sum_any _ [t0 ++ t1] _ (hT8.alloc _) (Ls.new1 rfl x3)).mono ?_
  rintro e w9 ⟨rfl, hw9⟩
  have hb9 : Below w.heap.size w w9 := by rw [← hw9]; exact hb8.alloc z8 _
  clear hw9
  have hs4 : PlainCrc.sum [t0 ++ t1].flatten = PlainCrc.sum (t0 ++ t1) := by simp
  rw [hs4, hS3]
  clear hs4 hS3
  go_wp2
  go_ret
  exact ⟨by simp, hb9⟩
end Go.Proofs.YtoablohigdkbkaaDoor
