/-
  Contract: slot.Take.
-/
import Derived.Test.YtcojpbckeebohaaLd
namespace Go.Proofs.Ytcojpbckeebohaa
open Go.RowKit Go.Joins

theorem stook_has {s : ByteArray} (h : PB.took s = true) (hl : 16 ≤ (PB.tl s).size) : PS.took s = (PS.may (PS.cand s) && decide (PS.text (PS.cand s) = s)) := by
  rw [PS.took, h]; simp [hl]

set_option maxHeartbeats 8000000 in
theorem xtake_any (s : ByteArray) (w : World) (hs : s.size ≤ 1048576) : Calls Try.prog 12 #[.string s] w fun e w' => e = .returned (.tuple #[.agg (sv (PS.tk s)), .bool (PS.took s)]) ∧ Below w.heap.size w w' := by
  have hB := al w (.cells (sv PS.zero) 23)
  have hx := Bx.new w 23 (sv PS.zero)
  obtain ⟨t, ht⟩ : ∃ t, PS.took s = t := ⟨_, rfl⟩
  obtain ⟨a0, ha0⟩ : ∃ t, (PS.tk s).n = t := ⟨_, rfl⟩
  obtain ⟨a1, ha1⟩ : ∃ t, (PS.tk s).q = t := ⟨_, rfl⟩
  obtain ⟨a2, ha2⟩ : ∃ t, (PS.tk s).m = t := ⟨_, rfl⟩
  obtain ⟨a3, ha3⟩ : ∃ t, (PS.tk s).g = t := ⟨_, rfl⟩
  obtain ⟨a4, ha4⟩ : ∃ t, (PS.tk s).p = t := ⟨_, rfl⟩
  have E0 : PS.tk s = ⟨a0, a1, a2, a3, a4⟩ := by rw [← ha0, ← ha1, ← ha2, ← ha3, ← ha4]
  simp only [sv, PS.zero] at hB hx ⊢
  rw [ht, ha0, ha1, ha2, ha3, ha4]
  have HT := Lib.hid ht
  have H0 := Lib.hid E0
  clear ht ha0 ha1 ha2 ha3 ha4 E0
  have hno : PS.took s = false → a0 = 0 ∧ a1 = 0 ∧ a2 = 0 ∧ a3 = 0 ∧ a4 = 0 ∧ t = false := fun h => by
    have h1 := H0.out.symm.trans (PS.took_no h)
    simp only [PS.zero, PS.S.mk.injEq] at h1
    exact ⟨h1.1, h1.2.1, h1.2.2.1, h1.2.2.2.1, h1.2.2.2.2, HT.out.symm.trans h⟩
  have HNO := Lib.hid hno
  clear hno
  have hbt := btake_any s (w.alloc (.cells #[.int .i64 0, .int .i64 0, .int .i64 0, .int .i64 0, .int .i64 0] 23)) hs
  obtain ⟨bt, hbt0⟩ : ∃ t, PB.took s = t := ⟨_, rfl⟩
  obtain ⟨bk, hbk⟩ : ∃ t, PB.tk s = t := ⟨_, rfl⟩
  obtain ⟨bg, hbg⟩ : ∃ t, PB.tg s = t := ⟨_, rfl⟩
  obtain ⟨bl, hbl⟩ : ∃ t, PB.tl s = t := ⟨_, rfl⟩
  rw [hbt0, hbk, hbg, hbl] at hbt
  have HBT := Lib.hid hbt0
  have HBG := Lib.hid hbg
  have HBL := Lib.hid hbl
  clear hbt0 hbk hbg hbl
  go_enter Try.func12, Try.ntmps12
  go_wp2_with fail
  refine hbt.mono ?_
  rintro e w2 ⟨rfl, hB2⟩
  have hx2 := (hx.on hB2).alloc (.cells #[.int .i64 bk, .int .i64 bg, .string bl] 40)
  have hb2 := hB.trans (hB2.mono (by simp))
  have hb3 := hb2.alloc hb2.size (.cells #[.int .i64 bk, .int .i64 bg, .string bl] 40)
  have hy3 := Bx.new w2 40 #[.int .i64 bk, .int .i64 bg, .string bl]
  clear hbt hx hB hB2 hb2
  go_upto_region 2 with fail
  generalize w2.alloc (.cells #[.int .i64 bk, .int .i64 bg, .string bl] 40) = w3 at *
  generalize w2.heap.size = gb at *
  cases bt with
  | false =>
    have ht : PS.took s = false := by rw [PS.took, HBT.out]; rfl
    have HE := Lib.hid (HNO.out ht)
    clear ht hy3
    obtain ⟨⟨c0, c1, c2, c3, c4⟩, f0, f1, f2, f3, f4⟩ := hx2.five
    have hend := below_set5 hb3 (Nat.le_refl w.heap.size) (.int .i64 0) (.int .i64 0) (.int .i64 0) (.int .i64 0) (.int .i64 0)
    have hendx := hx2.put5 (.int .i64 0) (.int .i64 0) (.int .i64 0) (.int .i64 0) (.int .i64 0)
    clear hb3 hx2
    go_wp2
    generalize (((((w3.setCell ⟨w.heap.size, 0, none⟩ (.int .i64 0)).setCell ⟨w.heap.size, 1, none⟩ (.int .i64 0)).setCell ⟨w.heap.size, 2, none⟩ (.int .i64 0)).setCell ⟨w.heap.size, 3, none⟩ (.int .i64 0)).setCell ⟨w.heap.size, 4, none⟩ (.int .i64 0)) = wz at hend hendx ⊢
    obtain ⟨⟨d0, d1, d2, d3, d4⟩, _⟩ := hendx.five
    refine bodyPost_ret (v := .tuple #[.agg #[.int .i64 0, .int .i64 0, .int .i64 0, .int .i64 0, .int .i64 0], .bool false]) (by simp [results, Try.results12, go_sem, d0, d1, d2, d3, d4]) rfl ⟨?_, hend⟩
    obtain ⟨e0, e1, e2, e3, e4, e5⟩ := HE.out
    rw [e0, e1, e2, e3, e4, e5]
  | true =>
    have hms := PB.may_spec.1 (PB.took_spec HBT.out).1
    rw [HBG.out, HBL.out] at hms
    have hbl55 : bl.size ≤ 55 := hms.2
    have rbg : I64 bg := by unfold I64; omega
    clear hms
    obtain ⟨gc, cc, w4, hconv, _, hcc, hmk, hB4⟩ := to_bytes bl w3
    have htx := hmk.tx (nums_lt bl) (by rw [nums_length]; omega) bl.size cc (nums_length bl)
    have hcp : Cp (.slice (some ⟨gc, 0, none⟩) bl.size cc) := ⟨_, _, _, rfl, hcc⟩
    have hbeg := sbegin_any _ (nums bl) w4 htx hcp
    rw [nums_length] at hbeg
    have hx4 := hx2.on hB4
    have hy4 := hy3.on hB4
    have hb4 := hb3.trans (hB4.mono hb3.size)
    obtain ⟨_, _, y2, _, _, _⟩ := hy3.three
    have RBG := Lib.hid rbg
    have HB55 := Lib.hid hbl55
    clear htx hcp hmk hcc hB4 hx2 hb3 hy3 rbg hbl55
    go_wp2_with fail
    refine hbeg.mono ?_
    rintro e w5 ⟨q, m, g, p, rfl, hqs, hB5⟩
    have hx5 := (hx4.on hB5).alloc (.cells #[.int .i64 q, .int .i64 m, .int .i64 g, .int .i64 p] 42)
    have hy5 := (hy4.on hB5).alloc (.cells #[.int .i64 q, .int .i64 m, .int .i64 g, .int .i64 p] 42)
    have hb5 := hb4.trans (hB5.mono hb4.size)
    have hb6 := hb5.alloc hb5.size (.cells #[.int .i64 q, .int .i64 m, .int .i64 g, .int .i64 p] 42)
    have ha6 := Bx.new w5 42 #[.int .i64 q, .int .i64 m, .int .i64 g, .int .i64 p]
    have HQS := Lib.hid hqs
    clear hqs hconv hbeg hB5 hb5 hx4 hy4 hb4 y2
    go_upto_region 5 with fail
    generalize w5.alloc (.cells #[.int .i64 q, .int .i64 m, .int .i64 g, .int .i64 p] 42) = w6 at *
    obtain ⟨_, y1, _, _, _, _⟩ := hy5.three
    obtain ⟨a0', a1', a2', a3', _, _, _, _⟩ := ha6.four
    have hx7 := hx5.alloc (.cells #[.int .i64 bg, .int .i64 q, .int .i64 m, .int .i64 g, .int .i64 p] 44)
    have hb7 := hb6.alloc hb6.size (.cells #[.int .i64 bg, .int .i64 q, .int .i64 m, .int .i64 g, .int .i64 p] 44)
    have hw7 := Bx.new w6 44 #[.int .i64 bg, .int .i64 q, .int .i64 m, .int .i64 g, .int .i64 p]
    go_upto_region 6 with fail
    generalize w6.alloc (.cells #[.int .i64 bg, .int .i64 q, .int .i64 m, .int .i64 g, .int .i64 p] 44) = w7 at *
    generalize w6.heap.size = gw at *
    clear ha6 hb6 hx5 hy5 y1 a0' a1' a2' a3'
    by_cases h16 : 16 ≤ bl.size
    · obtain ⟨eq, em, eg, ep⟩ := HQS.out h16
      have hdec : decide (16 ≤ bl.size) = true := by simpa using h16
      have hcand : PS.cand s = ⟨bg, q, m, g, p⟩ := by
        rw [PS.cand, HBG.out, HBL.out, PS.ofLoad, ← eq, ← em, ← eg, ← ep]
      have hte := stook_has HBT.out (by rw [HBL.out]; exact h16)
      rw [hcand] at hte
      have hr5 : R5 ⟨bg, q, m, g, p⟩ := by
        have hl := PS.n4_le (nums bl)
        have l0 := hl 0 (nums_lt bl)
        have l1 := hl 1 (nums_lt bl)
        have l2 := hl 2 (nums_lt bl)
        have l3 := hl 3 (nums_lt bl)
        rw [← eq] at l0
        rw [← em] at l1
        rw [← eg] at l2
        rw [← ep] at l3
        have := RBG.out
        unfold R5 I64 at *
        dsimp only
        omega
      have hmy := smay_any _ hr5
      have htx := stext_any _ hr5
      simp only [sv] at hmy htx
      have HTE := Lib.hid hte
      have HCA := Lib.hid hcand
      obtain ⟨T, hT⟩ : ∃ T, PS.text ⟨bg, q, m, g, p⟩ = T := ⟨_, rfl⟩
      rw [hT] at htx
      have HTT := Lib.hid hT
      clear hte hcand hr5 eq em eg ep HQS hT
      obtain ⟨⟨v0, v1, v2, v3, v4⟩, _⟩ := hw7.five
      cases hm : PS.may ⟨bg, q, m, g, p⟩ with
      | false =>
        rw [hm] at hmy
        have ht : PS.took s = false := by rw [HTE.out, hm]; rfl
        have HE := Lib.hid (HNO.out ht)
        clear ht hm htx
        go_wp2_with fail
        refine (hmy _).mono ?_
        rintro e w8 ⟨rfl, hB8⟩
        have hx8 := hx7.on hB8
        have hb8 := hb7.trans (hB8.mono hb7.size)
        obtain ⟨⟨c0, c1, c2, c3, c4⟩, f0, f1, f2, f3, f4⟩ := hx8.five
        have hend := below_set5 hb8 (Nat.le_refl w.heap.size) (.int .i64 0) (.int .i64 0) (.int .i64 0) (.int .i64 0) (.int .i64 0)
        have hendx := hx8.put5 (.int .i64 0) (.int .i64 0) (.int .i64 0) (.int .i64 0) (.int .i64 0)
        clear hb8 hx8 hB8 hx7 hb7 hw7 v0 v1 v2 v3 v4 hmy
        go_wp2
        generalize (((((w8.setCell ⟨w.heap.size, 0, none⟩ (.int .i64 0)).setCell ⟨w.heap.size, 1, none⟩ (.int .i64 0)).setCell ⟨w.heap.size, 2, none⟩ (.int .i64 0)).setCell ⟨w.heap.size, 3, none⟩ (.int .i64 0)).setCell ⟨w.heap.size, 4, none⟩ (.int .i64 0)) = wz at hend hendx ⊢
        obtain ⟨⟨d0, d1, d2, d3, d4⟩, _⟩ := hendx.five
        refine bodyPost_ret (v := .tuple #[.agg #[.int .i64 0, .int .i64 0, .int .i64 0, .int .i64 0, .int .i64 0], .bool false]) (by simp [results, Try.results12, go_sem, d0, d1, d2, d3, d4]) rfl ⟨?_, hend⟩
        obtain ⟨e0, e1, e2, e3, e4, e5⟩ := HE.out
        rw [e0, e1, e2, e3, e4, e5]
      | true =>
        rw [hm] at hmy
        go_wp2_with fail
        refine (hmy _).mono ?_
        rintro e w8 ⟨rfl, hB8⟩
        have hx8 := hx7.on hB8
        have hw8 := hw7.on hB8
        have hb8 := hb7.trans (hB8.mono hb7.size)
        clear hB8 hx7 hb7 hw7 v0 v1 v2 v3 v4 hmy
        obtain ⟨⟨v0, v1, v2, v3, v4⟩, _⟩ := hw8.five
        go_wp2_with fail
        refine (htx _).mono ?_
        rintro e w9 ⟨rfl, hB9⟩
        have hx9 := hx8.on hB9
        have hw9 := hw8.on hB9
        have hb9 := hb8.trans (hB9.mono hb8.size)
        clear hB9 hx8 hb8 hw8 v0 v1 v2 v3 v4 htx
        obtain ⟨⟨v0, v1, v2, v3, v4⟩, _⟩ := hw9.five
        obtain ⟨⟨c0, c1, c2, c3, c4⟩, f0, f1, f2, f3, f4⟩ := hx9.five
        by_cases hF : T = s
        · have ht : PS.took s = true := by rw [HTE.out, hm, HTT.out, hF]; simp
          have E : a0 = bg ∧ a1 = q ∧ a2 = m ∧ a3 = g ∧ a4 = p ∧ t = true := by
            have h1 := H0.out.symm
            rw [PS.tk, if_pos ht, HCA.out] at h1
            simp only [PS.S.mk.injEq] at h1
            exact ⟨h1.1, h1.2.1, h1.2.2.1, h1.2.2.2.1, h1.2.2.2.2, HT.out.symm.trans ht⟩
          have HE := Lib.hid E
          have hend := below_set5 hb9 (Nat.le_refl w.heap.size) (.int .i64 bg) (.int .i64 q) (.int .i64 m) (.int .i64 g) (.int .i64 p)
          have hendx := hx9.put5 (.int .i64 bg) (.int .i64 q) (.int .i64 m) (.int .i64 g) (.int .i64 p)
          clear hb9 hx9 hw9 ht E hm
          go_wp2
          generalize (((((w9.setCell ⟨w.heap.size, 0, none⟩ (.int .i64 bg)).setCell ⟨w.heap.size, 1, none⟩ (.int .i64 q)).setCell ⟨w.heap.size, 2, none⟩ (.int .i64 m)).setCell ⟨w.heap.size, 3, none⟩ (.int .i64 g)).setCell ⟨w.heap.size, 4, none⟩ (.int .i64 p)) = wz at hend hendx ⊢
          obtain ⟨⟨d0, d1, d2, d3, d4⟩, _⟩ := hendx.five
          refine bodyPost_ret (v := .tuple #[.agg #[.int .i64 bg, .int .i64 q, .int .i64 m, .int .i64 g, .int .i64 p], .bool true]) (by simp [results, Try.results12, go_sem, d0, d1, d2, d3, d4]) rfl ⟨?_, hend⟩
          obtain ⟨e0, e1, e2, e3, e4, e5⟩ := HE.out
          rw [e0, e1, e2, e3, e4, e5]
        · have hne2 := seq_no hF
          have ht : PS.took s = false := by rw [HTE.out, hm, HTT.out]; simp [hF]
          have HE := Lib.hid (HNO.out ht)
          have hend := below_set5 hb9 (Nat.le_refl w.heap.size) (.int .i64 0) (.int .i64 0) (.int .i64 0) (.int .i64 0) (.int .i64 0)
          have hendx := hx9.put5 (.int .i64 0) (.int .i64 0) (.int .i64 0) (.int .i64 0) (.int .i64 0)
          clear hb9 hx9 hw9 ht hm
          go_wp2
          generalize (((((w9.setCell ⟨w.heap.size, 0, none⟩ (.int .i64 0)).setCell ⟨w.heap.size, 1, none⟩ (.int .i64 0)).setCell ⟨w.heap.size, 2, none⟩ (.int .i64 0)).setCell ⟨w.heap.size, 3, none⟩ (.int .i64 0)).setCell ⟨w.heap.size, 4, none⟩ (.int .i64 0)) = wz at hend hendx ⊢
          obtain ⟨⟨d0, d1, d2, d3, d4⟩, _⟩ := hendx.five
          refine bodyPost_ret (v := .tuple #[.agg #[.int .i64 0, .int .i64 0, .int .i64 0, .int .i64 0, .int .i64 0], .bool false]) (by simp [results, Try.results12, go_sem, d0, d1, d2, d3, d4]) rfl ⟨?_, hend⟩
          obtain ⟨e0, e1, e2, e3, e4, e5⟩ := HE.out
          rw [e0, e1, e2, e3, e4, e5]
    · have hdec : decide (16 ≤ bl.size) = false := by simpa using h16
      have ht : PS.took s = false := by rw [PS.took, HBL.out, hdec]; simp
      have HE := Lib.hid (HNO.out ht)
      obtain ⟨⟨c0, c1, c2, c3, c4⟩, f0, f1, f2, f3, f4⟩ := hx7.five
      have hend := below_set5 hb7 (Nat.le_refl w.heap.size) (.int .i64 0) (.int .i64 0) (.int .i64 0) (.int .i64 0) (.int .i64 0)
      have hendx := hx7.put5 (.int .i64 0) (.int .i64 0) (.int .i64 0) (.int .i64 0) (.int .i64 0)
      clear hb7 hx7 hw7 ht HQS
      go_wp2
      generalize (((((w7.setCell ⟨w.heap.size, 0, none⟩ (.int .i64 0)).setCell ⟨w.heap.size, 1, none⟩ (.int .i64 0)).setCell ⟨w.heap.size, 2, none⟩ (.int .i64 0)).setCell ⟨w.heap.size, 3, none⟩ (.int .i64 0)).setCell ⟨w.heap.size, 4, none⟩ (.int .i64 0)) = wz at hend hendx ⊢
      obtain ⟨⟨d0, d1, d2, d3, d4⟩, _⟩ := hendx.five
      refine bodyPost_ret (v := .tuple #[.agg #[.int .i64 0, .int .i64 0, .int .i64 0, .int .i64 0, .int .i64 0], .bool false]) (by simp [results, Try.results12, go_sem, d0, d1, d2, d3, d4]) rfl ⟨?_, hend⟩
      obtain ⟨e0, e1, e2, e3, e4, e5⟩ := HE.out
      rw [e0, e1, e2, e3, e4, e5]
end Go.Proofs.Ytcojpbckeebohaa
