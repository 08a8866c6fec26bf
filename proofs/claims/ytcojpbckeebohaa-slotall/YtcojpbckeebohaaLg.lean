/-
  Contract: glacislaw5.begun.
-/
import Derived.Test.YtcojpbckeebohaaLf
namespace Go.Proofs.Ytcojpbckeebohaa
open Go.RowKit Go.Joins

theorem empty_no : PS.took { data := #[] } = false := PS.took_size (by decide)
theorem step_first {x : PS.S} {s : ByteArray} (h : PS.may x = true) (hs : PS.put x = s) : PS.step PS.zero s = x := by
  obtain ⟨_, e⟩ := PS.took_of h hs
  have := (PS.may_spec.1 h).1.1
  rw [PS.step, e, if_pos (by simp only [PS.zero]; omega)]
theorem r5_lit {n q m g p : Int} (h : ([n, q, m, g, p].all fun z => decide (-9223372036854775808 ≤ z) && decide (z ≤ 9223372036854775807)) = true) : R5 ⟨n, q, m, g, p⟩ := by
  simp at h
  unfold R5 I64
  dsimp only
  omega

set_option maxHeartbeats 4000000 in
theorem begun_any (w : World) : Calls Try.prog 6 #[] w fun e w' => e = .returned (.bool true) ∧ Below w.heap.size w w' := by
  have hm : PS.may ⟨3, 2, 9, 1, 5⟩ = true := by decide
  have hps := PS.put_size hm
  obtain ⟨t0, t1⟩ := PS.took_of hm rfl
  have hr := R5.may hm
  have hpu := xput_any _ hr
  have hmy := xmay_any _ hr
  rw [hm] at hmy
  have hm0 := xmay_any PS.zero (r5_lit (by decide))
  rw [PS.may_zero] at hm0
  have hn : PS.newest [{ data := #[] }, PS.put ⟨3, 2, 9, 1, 5⟩] = ⟨3, 2, 9, 1, 5⟩ := by
    rw [PS.newest, List.foldl_cons, List.foldl_cons, List.foldl_nil, PS.step_no (Int.le_refl _) empty_no, step_first hm rfl]
  have hx := Bx.new w 23 (sv ⟨3, 2, 9, 1, 5⟩)
  have hB := al w (.cells (sv ⟨3, 2, 9, 1, 5⟩) 23)
  generalize hP : PS.put ⟨3, 2, 9, 1, 5⟩ = P at *
  have htk := fun W => xtake_any P W (by omega)
  rw [t0, t1] at htk
  have hrow : ∀ W : World, Ss (W.alloc (.cells #[.string { data := #[] }, .string P] 9)) (.slice (some ⟨W.heap.size, 0, none⟩) 2 2) [{ data := #[] }, P] := fun W =>
    Ss.new W _ (0, 0) 2 2 _ rfl _ rfl rfl (by
      intro s hs
      simp at hs
      rcases hs with rfl | rfl
      · decide
      · omega) (by decide)
  have hnw := fun W => xnewest_any _ _ _ (hrow W)
  have hn0 := fun W => xnewest_any _ _ W (Ss.nil W)
  rw [hn] at hnw
  simp only [sv, PS.newest, PS.zero, List.foldl_nil] at *
  clear hP hm hps t0 t1 hr hn hrow
  go_enter Try.func6, Try.ntmps6
  go_wp2_with fail
  refine (hpu _).mono ?_
  rintro e w1 ⟨rfl, hB1⟩
  have hx1 := hx.on hB1
  have hb1 := hB.trans (hB1.mono (by simp))
  clear hx hB hB1
  go_wp2_with fail
  refine (htk _).mono ?_
  rintro e w2 ⟨rfl, hB2⟩
  have hx2 := (hx1.on hB2).alloc (.cells #[.int .i64 3, .int .i64 2, .int .i64 9, .int .i64 1, .int .i64 5] 23)
  have hy2 := Bx.new w2 23 #[.int .i64 3, .int .i64 2, .int .i64 9, .int .i64 1, .int .i64 5]
  have hb2 := hb1.trans (hB2.mono hb1.size)
  have hb3 := hb2.alloc hb2.size (.cells #[.int .i64 3, .int .i64 2, .int .i64 9, .int .i64 1, .int .i64 5] 23)
  clear hx1 hB2 hb1 hb2
  go_upto_region 3 with fail
  generalize w2.alloc (.cells #[.int .i64 3, .int .i64 2, .int .i64 9, .int .i64 1, .int .i64 5] 23) = w3 at *
  obtain ⟨⟨c0, c1, c2, c3, c4⟩, _⟩ := hx2.five
  go_wp2_with fail
  refine (hpu _).mono ?_
  rintro e w4 ⟨rfl, hB4⟩
  have hx4 := (hx2.on hB4).alloc (.cells #[.string { data := #[] }, .string P] 9)
  have hy4 := (hy2.on hB4).alloc (.cells #[.string { data := #[] }, .string P] 9)
  have hb4 := hb3.trans (hB4.mono hb3.size)
  have hb5 := hb4.alloc hb4.size (.cells #[.string { data := #[] }, .string P] 9)
  clear hx2 hy2 hb3 hB4 hb4 c0 c1 c2 c3 c4
  go_wp2_with fail
  refine (hnw _).mono ?_
  rintro e w6 ⟨rfl, hB6⟩
  have hx6 := (hx4.on hB6).alloc (.cells #[.int .i64 3, .int .i64 2, .int .i64 9, .int .i64 1, .int .i64 5] 23)
  have hy6 := (hy4.on hB6).alloc (.cells #[.int .i64 3, .int .i64 2, .int .i64 9, .int .i64 1, .int .i64 5] 23)
  have hz6 := Bx.new w6 23 #[.int .i64 3, .int .i64 2, .int .i64 9, .int .i64 1, .int .i64 5]
  have hb6 := hb5.trans (hB6.mono hb5.size)
  have hb7 := hb6.alloc hb6.size (.cells #[.int .i64 3, .int .i64 2, .int .i64 9, .int .i64 1, .int .i64 5] 23)
  clear hx4 hy4 hB6 hb5 hb6
  go_upto_region 4 with fail
  generalize w6.alloc (.cells #[.int .i64 3, .int .i64 2, .int .i64 9, .int .i64 1, .int .i64 5] 23) = w7 at *
  go_wp2_with fail
  refine (hn0 _).mono ?_
  rintro e w8 ⟨rfl, hB8⟩
  have hx8 := (hx6.on hB8).alloc (.cells #[.int .i64 0, .int .i64 0, .int .i64 0, .int .i64 0, .int .i64 0] 23)
  have hy8 := (hy6.on hB8).alloc (.cells #[.int .i64 0, .int .i64 0, .int .i64 0, .int .i64 0, .int .i64 0] 23)
  have hz8 := (hz6.on hB8).alloc (.cells #[.int .i64 0, .int .i64 0, .int .i64 0, .int .i64 0, .int .i64 0] 23)
  have hb8 := hb7.trans (hB8.mono hb7.size)
  have hb9 := hb8.alloc hb8.size (.cells #[.int .i64 0, .int .i64 0, .int .i64 0, .int .i64 0, .int .i64 0] 23)
  clear hx6 hy6 hz6 hB8 hb7 hb8
  go_upto_region 5 with fail
  generalize w8.alloc (.cells #[.int .i64 0, .int .i64 0, .int .i64 0, .int .i64 0, .int .i64 0] 23) = w9 at *
  obtain ⟨⟨c0, c1, c2, c3, c4⟩, _⟩ := hx8.five
  obtain ⟨⟨d0, d1, d2, d3, d4⟩, _⟩ := hy8.five
  obtain ⟨⟨e0, e1, e2, e3, e4⟩, _⟩ := hz8.five
  go_wp2_with fail
  refine (hmy _).mono ?_
  rintro e w10 ⟨rfl, hB10⟩
  have hb10 := hb9.trans (hB10.mono hb9.size)
  go_wp2_with fail
  refine (hm0 _).mono ?_
  rintro e w11 ⟨rfl, hB11⟩
  have hb11 := hb10.trans (hB11.mono hb10.size)
  go_wp2
  go_ret
  exact ⟨rfl, hb11⟩
end Go.Proofs.Ytcojpbckeebohaa
