/-
  Contract: block.Take.
-/
import Derived.Test.YtcojpbckeebohaaKe
namespace Go.Proofs.Ytcojpbckeebohaa
open Go.RowKit Go.Joins

theorem took_has {s : ByteArray} (h : PB.has (nums s) = true) :
    PB.took s = (PB.may (PB.kindOf (nums s)) (PB.genOf (nums s)) (str (PB.loadOf (nums s))).size && decide (str (PB.full (PB.kindOf (nums s)) (PB.genOf (nums s)) (nums (str (PB.loadOf (nums s))))) = s)) := by
  rw [PB.took, h, str_size, nums_str _ (PB.loadOf_lt (nums_lt s)), Bool.true_and]

set_option maxHeartbeats 4000000 in
theorem btake_any (s : ByteArray) (w : World) (hs : s.size ≤ 1048576) : Calls Try.prog 22 #[.string s] w fun e w' => e = .returned (.tuple #[.agg #[.int .i64 (PB.tk s), .int .i64 (PB.tg s), .string (PB.tl s)], .bool (PB.took s)]) ∧ Below w.heap.size w w' := by
  have hB := al w (.cells #[.int .i64 0, .int .i64 0, .string { data := #[] }] 40)
  have hx := Bx.new w 40 #[.int .i64 0, .int .i64 0, .string { data := #[] }]
  obtain ⟨gb, c, w1, hconv, _, hc, hmk, hB1⟩ := to_bytes s (w.alloc (.cells #[.int .i64 0, .int .i64 0, .string { data := #[] }] 40))
  have hx1 := hx.on hB1
  have hb1 := hB.trans (hB1.mono (by simp))
  have htx := hmk.tx (nums_lt s) (by rw [nums_length]; exact hs) s.size c (nums_length s)
  have hcp : Cp (.slice (some ⟨gb, 0, none⟩) s.size c) := ⟨_, _, _, rfl, hc⟩
  have hbg := begin_any _ (nums s) w1 htx hcp
  clear hx hB hB1 hmk htx hcp
  obtain ⟨t, ht⟩ : ∃ t, PB.took s = t := ⟨_, rfl⟩
  obtain ⟨a0, ha0⟩ : ∃ t, PB.tk s = t := ⟨_, rfl⟩
  obtain ⟨a1, ha1⟩ : ∃ t, PB.tg s = t := ⟨_, rfl⟩
  obtain ⟨a2, ha2⟩ : ∃ t, PB.tl s = t := ⟨_, rfl⟩
  rw [ht, ha0, ha1, ha2]
  have HT := Lib.hid ht
  have H0 := Lib.hid ha0
  have H1 := Lib.hid ha1
  have H2 := Lib.hid ha2
  clear ht ha0 ha1 ha2
  go_enter Try.func22, Try.ntmps22
  go_wp2_with fail
  refine hbg.mono ?_
  rintro e w2 ⟨k, g, l, rfl, hkgl, hB2⟩
  have hx2 := hx1.on hB2
  have hb2 := hb1.trans (hB2.mono hb1.size)
  have hb3 := hb2.alloc hb2.size (.cells #[.int .i64 k, .int .i64 g, .string l] 66)
  have hx3 := hx2.alloc (.cells #[.int .i64 k, .int .i64 g, .string l] 66)
  have hy3 := Bx.new w2 66 #[.int .i64 k, .int .i64 g, .string l]
  have hne : w.heap.size ≠ w2.heap.size := by have := hx2.lt; omega
  clear hconv hbg hx1 hB2 hb1 hx2 hb2
  have HK := Lib.hid hkgl
  clear hkgl
  cases hh : PB.has (nums s) with
  | false =>
    have ht : PB.took s = false := by rw [PB.took, hh]; rfl
    obtain ⟨e1, e2, e3⟩ := PB.took_no ht
    have E : a0 = 0 ∧ a1 = 0 ∧ a2 = { data := #[] } ∧ t = false := ⟨H0.out.symm.trans e1, H1.out.symm.trans e2, H2.out.symm.trans e3, HT.out.symm.trans ht⟩
    have HE := Lib.hid E
    clear ht e1 e2 e3 hh E
    go_upto_region 2 with fail
    generalize w2.alloc (.cells #[.int .i64 k, .int .i64 g, .string l] 66) = w3 at *
    obtain ⟨c0, c1, c2, f0, f1, f2⟩ := hx3.three
    have hend := below_set3 hb3 (Nat.le_refl w.heap.size) (.int .i64 0) (.int .i64 0) (.string { data := #[] })
    have hendx := hx3.put3 (.int .i64 0) (.int .i64 0) (.string { data := #[] })
    clear hy3 hb3
    go_wp2
    generalize (((w3.setCell ⟨w.heap.size, 0, none⟩ (.int .i64 0)).setCell ⟨w.heap.size, 1, none⟩ (.int .i64 0)).setCell ⟨w.heap.size, 2, none⟩ (.string { data := #[] })) = wz at hend hendx ⊢
    obtain ⟨d0, d1, d2, _, _, _⟩ := hendx.three
    refine bodyPost_ret (v := .tuple #[.agg #[(.int .i64 0), (.int .i64 0), (.string { data := #[] })], .bool false]) (by simp [results, Try.results22, go_sem, d0, d1, d2]) rfl ⟨?_, hend⟩
    obtain ⟨e0, e1, e2, e3⟩ := HE.out
    rw [e0, e1, e2, e3]
  | true =>
    obtain ⟨ek, eg, el⟩ := HK.out hh
    have hte := took_has hh
    rw [← ek, ← eg, ← el] at hte
    have HTE := Lib.hid hte
    have EK := Lib.hid ek
    have EG := Lib.hid eg
    have EL := Lib.hid el
    clear hte hh HK ek eg el
    go_upto_region 2 with fail
    generalize w2.alloc (.cells #[.int .i64 k, .int .i64 g, .string l] 66) = w3 at *
    obtain ⟨y0, y1, y2, _, _, _⟩ := hy3.three
    cases hm : PB.may k g l.size with
    | false =>
      have ht : PB.took s = false := by rw [HTE.out, hm]; rfl
      obtain ⟨e1, e2, e3⟩ := PB.took_no ht
      have E : a0 = 0 ∧ a1 = 0 ∧ a2 = { data := #[] } ∧ t = false := ⟨H0.out.symm.trans e1, H1.out.symm.trans e2, H2.out.symm.trans e3, HT.out.symm.trans ht⟩
      have HE := Lib.hid E
      clear ht e1 e2 e3 E
      go_wp2_with fail
      refine (wmay_any k g l _).mono ?_
      rintro e w4 ⟨rfl, hB4⟩
      rw [hm]
      have hx4 := hx3.on hB4
      have hb4 := hb3.trans (hB4.mono hb3.size)
      clear hB4 hx3 hb3 hy3 y0 y1 y2 hm
      obtain ⟨c0, c1, c2, f0, f1, f2⟩ := hx4.three
      have hend := below_set3 hb4 (Nat.le_refl w.heap.size) (.int .i64 0) (.int .i64 0) (.string { data := #[] })
      have hendx := hx4.put3 (.int .i64 0) (.int .i64 0) (.string { data := #[] })
      clear hb4
      go_wp2
      generalize (((w4.setCell ⟨w.heap.size, 0, none⟩ (.int .i64 0)).setCell ⟨w.heap.size, 1, none⟩ (.int .i64 0)).setCell ⟨w.heap.size, 2, none⟩ (.string { data := #[] })) = wz at hend hendx ⊢
      obtain ⟨d0, d1, d2, _, _, _⟩ := hendx.three
      refine bodyPost_ret (v := .tuple #[.agg #[(.int .i64 0), (.int .i64 0), (.string { data := #[] })], .bool false]) (by simp [results, Try.results22, go_sem, d0, d1, d2]) rfl ⟨?_, hend⟩
      obtain ⟨e0, e1, e2, e3⟩ := HE.out
      rw [e0, e1, e2, e3]
    | true =>
      have hmr := PB.may_spec.1 hm
      have rk : I64 k := by unfold I64; omega
      have rg : I64 g := by unfold I64; omega
      go_wp2_with fail
      refine (wmay_any k g l _).mono ?_
      rintro e w4 ⟨rfl, hB4⟩
      rw [hm]
      have hx4 := hx3.on hB4
      have hy4 := hy3.on hB4
      have hb4 := hb3.trans (hB4.mono hb3.size)
      clear hB4 hx3 hb3 hy3 y0 y1 y2
      obtain ⟨y0, y1, y2, _, _, _⟩ := hy4.three
      go_wp2_with fail
      refine (wtext_any k g l rk rg hmr.2 _).mono ?_
      rintro e w5 ⟨rfl, hB5⟩
      have hx5 := hx4.on hB5
      have hy5 := hy4.on hB5
      have hb5 := hb4.trans (hB5.mono hb4.size)
      clear hB5 hx4 hb4 hy4 y0 y1 y2
      obtain ⟨y0, y1, y2, _, _, _⟩ := hy5.three
      by_cases hF : str (PB.full k g (nums l)) = s
      · have ht : PB.took s = true := by rw [HTE.out, hm, hF]; simp
        have E : a0 = k ∧ a1 = g ∧ a2 = l ∧ t = true := by
          refine ⟨?_, ?_, ?_, HT.out.symm.trans ht⟩
          · rw [← H0.out, PB.tk, if_pos ht, EK.out]
          · rw [← H1.out, PB.tg, if_pos ht, EG.out]
          · rw [← H2.out, PB.tl, if_pos ht, EL.out]
        have HE := Lib.hid E
        clear ht E hm
        obtain ⟨c0, c1, c2, f0, f1, f2⟩ := hx5.three
        have hend := below_set3 hb5 (Nat.le_refl w.heap.size) (.int .i64 k) (.int .i64 g) (.string l)
        have hendx := hx5.put3 (.int .i64 k) (.int .i64 g) (.string l)
        clear hb5
        go_wp2
        generalize (((w5.setCell ⟨w.heap.size, 0, none⟩ (.int .i64 k)).setCell ⟨w.heap.size, 1, none⟩ (.int .i64 g)).setCell ⟨w.heap.size, 2, none⟩ (.string l)) = wz at hend hendx ⊢
        obtain ⟨d0, d1, d2, _, _, _⟩ := hendx.three
        refine bodyPost_ret (v := .tuple #[.agg #[(.int .i64 k), (.int .i64 g), (.string l)], .bool true]) (by simp [results, Try.results22, go_sem, d0, d1, d2]) rfl ⟨?_, hend⟩
        obtain ⟨e0, e1, e2, e3⟩ := HE.out
        rw [e0, e1, e2, e3]
      · have ht : PB.took s = false := by rw [HTE.out, hm]; simp [hF]
        have hne2 := seq_no hF
        obtain ⟨e1, e2, e3⟩ := PB.took_no ht
        have E : a0 = 0 ∧ a1 = 0 ∧ a2 = { data := #[] } ∧ t = false := ⟨H0.out.symm.trans e1, H1.out.symm.trans e2, H2.out.symm.trans e3, HT.out.symm.trans ht⟩
        have HE := Lib.hid E
        clear ht e1 e2 e3 E hm
        obtain ⟨c0, c1, c2, f0, f1, f2⟩ := hx5.three
        have hend := below_set3 hb5 (Nat.le_refl w.heap.size) (.int .i64 0) (.int .i64 0) (.string { data := #[] })
        have hendx := hx5.put3 (.int .i64 0) (.int .i64 0) (.string { data := #[] })
        clear hb5
        go_wp2
        generalize (((w5.setCell ⟨w.heap.size, 0, none⟩ (.int .i64 0)).setCell ⟨w.heap.size, 1, none⟩ (.int .i64 0)).setCell ⟨w.heap.size, 2, none⟩ (.string { data := #[] })) = wz at hend hendx ⊢
        obtain ⟨d0, d1, d2, _, _, _⟩ := hendx.three
        refine bodyPost_ret (v := .tuple #[.agg #[(.int .i64 0), (.int .i64 0), (.string { data := #[] })], .bool false]) (by simp [results, Try.results22, go_sem, d0, d1, d2]) rfl ⟨?_, hend⟩
        obtain ⟨e0, e1, e2, e3⟩ := HE.out
        rw [e0, e1, e2, e3]
end Go.Proofs.Ytcojpbckeebohaa
