/-
  Contract of the document's TakeSlot.
-/
import Derived.Test.YtcojpbckeebohaaLj
namespace Go.Proofs.Ytcojpbckeebohaa
open Go.RowKit Go.Joins

theorem took_put {s : ByteArray} (h : PB.took s = true) (hl : 16 ≤ (PB.tl s).size) : PS.took s = decide (PS.put (PS.cand s) = s) := by
  rw [PS.took, h, PS.put]
  cases hm : PS.may (PS.cand s) with
  | true => simp [hl]
  | false =>
    have hs := PB.put_size (PB.took_spec h).1
    rw [(PB.took_spec h).2] at hs
    have : ¬ str [] = s := fun e => by rw [← e] at hs; cases hs
    simp [this]

theorem Rd.far5 {wb w : World} {r k : Nat} {bs : List Nat} {bad : Bool} (h : Rd wb w r bs bad) (hk : r ≠ k) (a b c d e : Value) : Rd wb (((((w.setCell ⟨k, 0, none⟩ a).setCell ⟨k, 1, none⟩ b).setCell ⟨k, 2, none⟩ c).setCell ⟨k, 3, none⟩ d).setCell ⟨k, 4, none⟩ e) r bs bad :=
  ((((h.far (p := ⟨k, 0, none⟩) hk a).far (p := ⟨k, 1, none⟩) hk b).far (p := ⟨k, 2, none⟩) hk c).far (p := ⟨k, 3, none⟩) hk d).far (p := ⟨k, 4, none⟩) hk e

/-- TakeSlot's region of the first number: a call that turns the reader, and a box that is made and laid, in any order. -/
def St (w4 : World) (gy g0 r gx : Nat) (bk bg z : Int) (bl : ByteArray) (bs : List Nat) (done : Nat → Bool) (W : World) : Prop :=
  Bx W gy 40 #[.int .i64 bk, .int .i64 bg, .string bl] ∧ Bx W g0 23 (sv PS.zero) ∧
  (done 3 = false → Rd w4 W r bs false) ∧ (done 3 = true → Rd w4 W r (PS.r1 bs) (PS.b1 bs)) ∧ Below w4.heap.size w4 W ∧
  (done 5 = false → W.heap.size = gx) ∧ (done 5 = true → done 6 = false → Bx W gx 23 (sv PS.zero)) ∧ (done 6 = true → Bx W gx 23 #[.int .i64 bg, .int .i64 z, .int .i64 0, .int .i64 0, .int .i64 0])

set_option maxRecDepth 100000 in
set_option maxHeartbeats 8000000 in
theorem rtakeS_any (s : ByteArray) (w : World) : Calls Try.prog 13 #[.string s] w fun e w' => e = .returned (.tuple #[.agg (sv (PS.tk s)), .bool (PS.took s)]) ∧ Below w.heap.size w w' := by
  have hB := al w (.cells (sv PS.zero) 23)
  have hx := Bx.new w 23 (sv PS.zero)
  obtain ⟨t, ht⟩ : ∃ t, PS.took s = t := ⟨_, rfl⟩
  obtain ⟨a0, ha0⟩ : ∃ t, (PS.tk s).n = t := ⟨_, rfl⟩
  obtain ⟨a1, ha1⟩ : ∃ t, (PS.tk s).q = t := ⟨_, rfl⟩
  obtain ⟨a2, ha2⟩ : ∃ t, (PS.tk s).m = t := ⟨_, rfl⟩
  obtain ⟨a3, ha3⟩ : ∃ t, (PS.tk s).g = t := ⟨_, rfl⟩
  obtain ⟨a4, ha4⟩ : ∃ t, (PS.tk s).p = t := ⟨_, rfl⟩
  have E0 : PS.tk s = ⟨a0, a1, a2, a3, a4⟩ := by rw [← ha0, ← ha1, ← ha2, ← ha3, ← ha4]
  simp only [sv, PS.zero] at hB hx ⊢
  rw [ht, ha0, ha1, ha2, ha3, ha4]
  have HT := Lib.hid ht
  have H0 := Lib.hid E0
  clear ht ha0 ha1 ha2 ha3 ha4 E0
  have hno : PS.took s = false → a0 = 0 ∧ a1 = 0 ∧ a2 = 0 ∧ a3 = 0 ∧ a4 = 0 ∧ t = false := fun h => by
    have h1 := H0.out.symm.trans (PS.took_no h)
    simp only [PS.zero, PS.S.mk.injEq] at h1
    exact ⟨h1.1, h1.2.1, h1.2.2.1, h1.2.2.2.1, h1.2.2.2.2, HT.out.symm.trans h⟩
  have HNO := Lib.hid hno
  clear hno
  have hbt := rtakeB_any s (w.alloc (.cells #[.int .i64 0, .int .i64 0, .int .i64 0, .int .i64 0, .int .i64 0] 23))
  obtain ⟨bt, hbt0⟩ : ∃ t, PB.took s = t := ⟨_, rfl⟩
  obtain ⟨bk, hbk⟩ : ∃ t, PB.tk s = t := ⟨_, rfl⟩
  obtain ⟨bg, hbg⟩ : ∃ t, PB.tg s = t := ⟨_, rfl⟩
  obtain ⟨bl, hbl⟩ : ∃ t, PB.tl s = t := ⟨_, rfl⟩
  rw [hbt0, hbk, hbg, hbl] at hbt
  have HBT := Lib.hid hbt0
  have HBG := Lib.hid hbg
  have HBL := Lib.hid hbl
  clear hbt0 hbk hbg hbl
  go_enter Try.func13, Try.ntmps13
  go_wp2_with fail
  refine hbt.mono ?_
  rintro e w2 ⟨rfl, hB2⟩
  have hx2 := (hx.on hB2).alloc (.cells #[.int .i64 bk, .int .i64 bg, .string bl] 40)
  have hb2 := hB.trans (hB2.mono (by simp))
  have hb3 := hb2.alloc hb2.size (.cells #[.int .i64 bk, .int .i64 bg, .string bl] 40)
  have hy3 := Bx.new w2 40 #[.int .i64 bk, .int .i64 bg, .string bl]
  have hne : w.heap.size < w2.heap.size := by
    have := (hx.on hB2).lt
    omega
  clear hbt hx hB hB2 hb2
  go_upto_region 2 with fail
  have hy3lt := hy3.lt
  generalize w2.alloc (.cells #[.int .i64 bk, .int .i64 bg, .string bl] 40) = w3 at *
  generalize w2.heap.size = gy at *
  cases bt with
  | false =>
    have ht : PS.took s = false := by rw [PS.took, HBT.out]; rfl
    have HE := Lib.hid (HNO.out ht)
    clear ht hy3
    obtain ⟨⟨c0, c1, c2, c3, c4⟩, f0, f1, f2, f3, f4⟩ := hx2.five
    have hend := below_set5 hb3 (Nat.le_refl w.heap.size) (.int .i64 0) (.int .i64 0) (.int .i64 0) (.int .i64 0) (.int .i64 0)
    have hendx := hx2.put5 (.int .i64 0) (.int .i64 0) (.int .i64 0) (.int .i64 0) (.int .i64 0)
    clear hb3 hx2
    go_wp2
    generalize (((((w3.setCell ⟨w.heap.size, 0, none⟩ (.int .i64 0)).setCell ⟨w.heap.size, 1, none⟩ (.int .i64 0)).setCell ⟨w.heap.size, 2, none⟩ (.int .i64 0)).setCell ⟨w.heap.size, 3, none⟩ (.int .i64 0)).setCell ⟨w.heap.size, 4, none⟩ (.int .i64 0)) = wz at hend hendx ⊢
    obtain ⟨⟨d0, d1, d2, d3, d4⟩, _⟩ := hendx.five
    refine bodyPost_ret (v := .tuple #[.agg #[.int .i64 0, .int .i64 0, .int .i64 0, .int .i64 0, .int .i64 0], .bool false]) (by simp [results, Try.results13, go_sem, d0, d1, d2, d3, d4]) rfl ⟨?_, hend⟩
    obtain ⟨e0, e1, e2, e3, e4, e5⟩ := HE.out
    rw [e0, e1, e2, e3, e4, e5]
  | true =>
    have hms := PB.may_spec.1 (PB.took_spec HBT.out).1
    rw [HBG.out, HBL.out] at hms
    have hbl55 : bl.size ≤ 55 := hms.2
    have rbg : I64 bg := by unfold I64; omega
    clear hms
    obtain ⟨gc, cc, w4, hconv, _, hcc, hmk, hB4⟩ := to_bytes bl w3
    have htx := hmk.tx (nums_lt bl) (by rw [nums_length]; omega) bl.size cc (nums_length bl)
    have hcp : Cp (.slice (some ⟨gc, 0, none⟩) bl.size cc) := ⟨_, _, _, rfl, hcc⟩
    have hx4 := hx2.on hB4
    have hy4 := hy3.on hB4
    have hb4 := hb3.trans (hB4.mono hb3.size)
    have hw43 := hB4.size
    obtain ⟨_, _, y2, _, _, _⟩ := hy3.three
    have RBG := Lib.hid rbg
    clear hmk hcc hB4 hx2 hb3 hy3 rbg hbl55
    have hx5 := hx4.alloc (.cells #[.slice (some ⟨gc, 0, none⟩) bl.size cc, .bool false] 57)
    have hy5 := hy4.alloc (.cells #[.slice (some ⟨gc, 0, none⟩) bl.size cc, .bool false] 57)
    have hr5 : Rd w4 (w4.alloc (.cells #[.slice (some ⟨gc, 0, none⟩) bl.size cc, .bool false] 57)) w4.heap.size (nums bl) false := ⟨_, Bx.new w4 57 _, htx, hcp⟩
    have hb5 := al w4 (.cells #[.slice (some ⟨gc, 0, none⟩) bl.size cc, .bool false] 57)
    have hgx : (w4.alloc (.cells #[.slice (some ⟨gc, 0, none⟩) bl.size cc, .bool false] 57)).heap.size = w4.heap.size + 1 := by simp
    clear htx hcp
    go_upto_region 5 with fail
    generalize w4.alloc (.cells #[.slice (some ⟨gc, 0, none⟩) bl.size cc, .bool false] 57) = w5 at *
    obtain ⟨r, hr⟩ : ∃ r, w4.heap.size = r := ⟨_, rfl⟩
    rw [hr] at hgx hr5 ⊢
    have n1 : gy ≠ r := by omega
    have n2 : w.heap.size ≠ r := by omega
    have n3 : gy ≠ r + 1 := by omega
    have n4 : w.heap.size ≠ r + 1 := by omega
    have n5 : w.heap.size ≠ gy := by omega
    have hwr : w.heap.size ≤ w4.heap.size := by omega
    have hle : w4.heap.size ≤ r := by omega
    have HR := Lib.hid hr
    clear hconv y2 hx4 hy4 hr
    obtain ⟨z, hz⟩ : ∃ z, PS.rz (nums bl) false = z := ⟨_, rfl⟩
    obtain ⟨bs, hbs⟩ : ∃ bs, nums bl = bs := ⟨_, rfl⟩
    rw [hbs] at hr5 hz
    have HZ := Lib.hid hz
    have HBS := Lib.hid hbs
    clear hz hbs
    refine wp_region_rel2 Try.checked.mixed (by kernel_rfl) (St w4 gy w.heap.size r (r + 1) bk bg z bl bs)
      (fun i v _ => match i with
        | 0 => v = .pointer (some ⟨gy, 1, none⟩)
        | 1 => v = .int .i64 bg
        | 2 => v = .pointer (some ⟨r, 0, none⟩)
        | 3 => v = .int .i64 z
        | 4 => v = .agg #[.int .i64 bg, .int .i64 z, .int .i64 0, .int .i64 0, .int .i64 0]
        | 5 => v = .pointer (some ⟨r + 1, 0, none⟩)
        | _ => v = undef) ?start ?each ?fin
    case start =>
      refine ⟨hy5, hx5, fun _ => hr5, (fun h => by cases h), hb5.drew, fun _ => hgx, (fun h => by cases h), (fun h => by cases h)⟩
    case each =>
      intro i hi done a W hi0 hcl hcl2 hold hp hW K hK
      obtain ⟨sy, s0, sr, sr', sb, sn, sx, sx'⟩ := hW
      rcases i with _ | _ | _ | _ | _ | _ | i
      · have s := hold 4 rfl
        simp [predsOf, Region.binds, slotV] at hp
        refine wpOp_of rfl rfl ?_
        simp at s
        go_simp
        exact hK _ _ (by simp) ⟨sy, s0, by simpa using sr, by simpa using sr', sb, by simpa using sn, by simpa using sx, by simpa using sx'⟩ (fun _ _ _ h => h) rfl
      · simp [predsOf, Region.binds, slotV] at hp
        refine wpOp_of rfl rfl ?_
        obtain ⟨_, y1, _, _, _, _⟩ := sy.three
        go_simp
        exact hK _ _ (by simp) ⟨sy, s0, by simpa using sr, by simpa using sr', sb, by simpa using sn, by simpa using sx, by simpa using sx'⟩ (fun _ _ _ h => h) rfl
      · have s := hold 6 rfl
        simp [predsOf, Region.binds, slotV] at hp
        refine wpOp_of rfl rfl ?_
        simp at s
        go_simp
        exact hK _ _ (by simp) ⟨sy, s0, by simpa using sr, by simpa using sr', sb, by simpa using sn, by simpa using sx, by simpa using sx'⟩ (fun _ _ _ h => h) rfl
      · simp [predsOf, Region.binds, slotV] at hp
        refine wpOp_of rfl rfl ?_
        have hc := rdnum_any w4 W r bs false sb hle (sr hi0)
        rw [HZ.out] at hc
        go_simp
        refine hc.mono ?_
        rintro e W' ⟨rfl, hR', hB', hbut⟩
        refine hK _ _ (by simp) ⟨sy.but hbut n1, s0.but hbut n2, fun h => by simp at h, fun _ => hR', hB', fun h => ?_, fun h h' => ?_, fun h => ?_⟩ (fun _ _ _ h => h) rfl
        · rw [hbut.1]; exact sn (by simpa using h)
        · exact (sx (by simpa using h) (by simpa using h')).but hbut (by omega)
        · exact (sx' (by simpa using h)).but hbut (by omega)
      · simp [predsOf, Region.binds, slotV] at hp
        refine wpOp_of rfl rfl ?_
        go_simp
        exact hK _ _ (by simp) ⟨sy, s0, by simpa using sr, by simpa using sr', sb, by simpa using sn, by simpa using sx, by simpa using sx'⟩ (fun _ _ _ h => h) rfl
      · simp [predsOf, Region.binds, slotV] at hp
        refine wpOp_of rfl rfl ?_
        have hsz := sn hi0
        have h6 : done 6 = false := by
          cases h : done 6 with
          | false => rfl
          | true =>
            have := (sx' h).lt
            omega
        have hnew := Bx.new W 23 (sv PS.zero)
        rw [hsz] at hnew
        go_simp
        refine hK _ _ (by simp) ⟨sy.alloc _, s0.alloc _, fun h => (sr (by simpa using h)).alloc _, fun h => (sr' (by simpa using h)).alloc _, sb.alloc sb.size _, fun h => by simp at h, fun _ _ => hnew, fun h => ?_⟩ (fun _ _ _ h => h) (by simp)
        simp [h6] at h
      · have i0 : i = 0 := by simp at hi; omega
        subst i0
        simp [predsOf, Region.binds, slotV] at hp
        refine wpOp_of rfl rfl ?_
        have h5 : done 5 = true := by
          cases h : done 5 with
          | true => rfl
          | false => exact absurd (hcl2 6 _ rfl (by simp) ⟨5, .data⟩ (by simp) rfl) (by simp [h])
        have hxx := sx h5 hi0
        obtain ⟨⟨c0, c1, c2, c3, c4⟩, f0, f1, f2, f3, f4⟩ := hxx.five
        go_simp
        refine hK _ _ (by simp) ⟨sy.far5 n3 _ _ _ _ _, s0.far5 n4 _ _ _ _ _, fun h => (sr (by simpa using h)).far5 (by omega) _ _ _ _ _, fun h => (sr' (by simpa using h)).far5 (by omega) _ _ _ _ _, below_set5 sb (by omega) _ _ _ _ _, fun h => ?_, fun _ h => ?_, fun _ => hxx.put5 _ _ _ _ _⟩ (fun _ _ _ h => h) rfl
        · simp [h5] at h
        · simp at h
    case fin =>
      intro vs W done hRs hall hW
      have v0 := hRs 0 (by decide)
      have v1 := hRs 1 (by decide)
      have v2 := hRs 2 (by decide)
      have v3 := hRs 3 (by decide)
      have v4 := hRs 4 (by decide)
      have v5 := hRs 5 (by decide)
      simp at v0 v1 v2 v3 v4 v5
      simp only [putAll, List.foldl_cons, List.foldl_nil, Act.put, List.setIfInBounds_toArray, List.set_cons_succ, List.set_cons_zero, v0, v1, v2, v3, v4, v5]
      obtain ⟨sy, s0, _, sr', sb, _, _, sx'⟩ := hW
      have hR1 := sr' (hall 3 (by decide))
      have hX1 := sx' (hall 6 (by decide))
      clear v0 v1 v2 v3 v4 v5 hRs hall sr' sx' hx5 hy5 hr5 hb5 hgx
      have hc1 := rdnum_any w4 W r (PS.r1 bs) (PS.b1 bs) sb hle hR1
      obtain ⟨z1, hz1⟩ : ∃ z, PS.rz (PS.r1 bs) (PS.b1 bs) = z := ⟨_, rfl⟩
      obtain ⟨z2, hz2⟩ : ∃ z, PS.rz (PS.r2 bs) (PS.b2 bs) = z := ⟨_, rfl⟩
      obtain ⟨z3, hz3⟩ : ∃ z, PS.rz (PS.r3 bs) (PS.b3 bs) = z := ⟨_, rfl⟩
      rw [hz1] at hc1
      have HZ1 := Lib.hid hz1
      have HZ2 := Lib.hid hz2
      have HZ3 := Lib.hid hz3
      clear hz1 hz2 hz3 hR1
      go_wp2_with fail
      refine hc1.mono ?_
      rintro e W1 ⟨rfl, hR2, hB2, hbut2⟩
      have sy2 := (sy.but hbut2 n1).far (p := ⟨r + 1, 2, none⟩) n3 (.int .i64 z1)
      have s02 := (s0.but hbut2 n2).far (p := ⟨r + 1, 2, none⟩) n4 (.int .i64 z1)
      have hX2 := hX1.but hbut2 (by omega)
      have hX2' : Bx (W1.setCell ⟨r + 1, 2, none⟩ (.int .i64 z1)) (r + 1) 23 #[.int .i64 bg, .int .i64 z, .int .i64 z1, .int .i64 0, .int .i64 0] := hX2.set 2 (.int .i64 z1)
      have hR2' := hR2.far (p := ⟨r + 1, 2, none⟩) (show r ≠ r + 1 by omega) (.int .i64 z1)
      have hB2' := hB2.setCell (p := ⟨r + 1, 2, none⟩) (show w4.heap.size ≤ r + 1 by omega) (.int .i64 z1)
      obtain ⟨⟨c0, c1, c2, c3, c4⟩, f0, f1, f2, f3, f4⟩ := hX2.five
      clear sy s0 hX1 hc1 hR2 hB2 hbut2 hX2 sb
      go_upto_region 7 with fail
      generalize W1.setCell ⟨r + 1, 2, none⟩ (.int .i64 z1) = W2 at *
      clear c0 c1 c2 c3 c4 f0 f1 f2 f3 f4
      have hc2 := rdnum_any w4 W2 r _ _ hB2' hle hR2'
      rw [show PS.rz (PS.rest (PS.r1 bs) (PS.b1 bs)) (PS.rbad (PS.r1 bs) (PS.b1 bs)) = z2 from HZ2.out] at hc2
      go_wp2_with fail
      refine hc2.mono ?_
      rintro e W3 ⟨rfl, hR3, hB3, hbut3⟩
      have sy3 := (sy2.but hbut3 n1).far (p := ⟨r + 1, 3, none⟩) n3 (.int .i64 z2)
      have s03 := (s02.but hbut3 n2).far (p := ⟨r + 1, 3, none⟩) n4 (.int .i64 z2)
      have hX3 := hX2'.but hbut3 (by omega)
      have hX3' : Bx (W3.setCell ⟨r + 1, 3, none⟩ (.int .i64 z2)) (r + 1) 23 #[.int .i64 bg, .int .i64 z, .int .i64 z1, .int .i64 z2, .int .i64 0] := hX3.set 3 (.int .i64 z2)
      have hR3' := hR3.far (p := ⟨r + 1, 3, none⟩) (show r ≠ r + 1 by omega) (.int .i64 z2)
      have hB3' := hB3.setCell (p := ⟨r + 1, 3, none⟩) (show w4.heap.size ≤ r + 1 by omega) (.int .i64 z2)
      obtain ⟨⟨c0, c1, c2, c3, c4⟩, f0, f1, f2, f3, f4⟩ := hX3.five
      clear sy2 s02 hX2' hc2 hR2' hB2' hR3 hB3 hbut3 hX3
      go_upto_region 8 with fail
      generalize W3.setCell ⟨r + 1, 3, none⟩ (.int .i64 z2) = W4 at *
      clear c0 c1 c2 c3 c4 f0 f1 f2 f3 f4
      have hc3 := rdnum_any w4 W4 r _ _ hB3' hle hR3'
      rw [show PS.rz (PS.rest (PS.rest (PS.r1 bs) (PS.b1 bs)) (PS.rbad (PS.r1 bs) (PS.b1 bs))) (PS.rbad (PS.rest (PS.r1 bs) (PS.b1 bs)) (PS.rbad (PS.r1 bs) (PS.b1 bs))) = z3 from HZ3.out] at hc3
      go_wp2_with fail
      refine hc3.mono ?_
      rintro e W5 ⟨rfl, hR4, hB4, hbut4⟩
      have s04 := (s03.but hbut4 n2).far (p := ⟨r + 1, 4, none⟩) n4 (.int .i64 z3)
      have hX4 := hX3'.but hbut4 (by omega)
      have hX4' : Bx (W5.setCell ⟨r + 1, 4, none⟩ (.int .i64 z3)) (r + 1) 23 #[.int .i64 bg, .int .i64 z, .int .i64 z1, .int .i64 z2, .int .i64 z3] := hX4.set 4 (.int .i64 z3)
      have hR4' := hR4.far (p := ⟨r + 1, 4, none⟩) (show r ≠ r + 1 by omega) (.int .i64 z3)
      have hB4' := hB4.setCell (p := ⟨r + 1, 4, none⟩) (show w4.heap.size ≤ r + 1 by omega) (.int .i64 z3)
      obtain ⟨⟨c0, c1, c2, c3, c4⟩, f0, f1, f2, f3, f4⟩ := hX4.five
      clear sy3 s03 hX3' hc3 hR3' hB3' hR4 hB4 hbut4 hX4
      go_upto_region 9 with fail
      generalize W5.setCell ⟨r + 1, 4, none⟩ (.int .i64 z3) = W6 at *
      clear c0 c1 c2 c3 c4 f0 f1 f2 f3 f4
      obtain ⟨vr, hbr, _, _⟩ := hR4'
      have hbb := hb4.trans (hB4'.mono hwr)
      obtain ⟨B4, hB4e⟩ : ∃ b, PS.b4 bs = b := ⟨_, rfl⟩
      replace hbr : Bx W6 r 57 #[vr, .bool B4] := by rw [← hB4e]; exact hbr
      have HB4 := Lib.hid hB4e
      clear hB4e hB4' hb4
      obtain ⟨_, br1, _, _⟩ := hbr.two
      have hlen : bs.length = bl.size := by rw [← HBS.out, nums_length]
      have HLEN := Lib.hid hlen
      clear hlen
      cases B4 with
      | true =>
        have ht : PS.took s = false := by
          by_cases h16 : 16 ≤ bl.size
          · have h1 := (PS.four_yes (l := bs) (by rw [HLEN.out]; exact h16)).2.2.2.2
            rw [HB4.out] at h1
            cases h1
          · rw [PS.took, HBL.out]; simp [h16]
        have HE := Lib.hid (HNO.out ht)
        clear ht
        obtain ⟨⟨c0, c1, c2, c3, c4⟩, f0, f1, f2, f3, f4⟩ := s04.five
        have hend := below_set5 hbb (Nat.le_refl w.heap.size) (.int .i64 0) (.int .i64 0) (.int .i64 0) (.int .i64 0) (.int .i64 0)
        have hendx := s04.put5 (.int .i64 0) (.int .i64 0) (.int .i64 0) (.int .i64 0) (.int .i64 0)
        clear hbb s04
        go_wp2
        generalize (((((W6.setCell ⟨w.heap.size, 0, none⟩ (.int .i64 0)).setCell ⟨w.heap.size, 1, none⟩ (.int .i64 0)).setCell ⟨w.heap.size, 2, none⟩ (.int .i64 0)).setCell ⟨w.heap.size, 3, none⟩ (.int .i64 0)).setCell ⟨w.heap.size, 4, none⟩ (.int .i64 0)) = wz at hend hendx ⊢
        obtain ⟨⟨d0, d1, d2, d3, d4⟩, _⟩ := hendx.five
        refine bodyPost_ret (v := .tuple #[.agg #[.int .i64 0, .int .i64 0, .int .i64 0, .int .i64 0, .int .i64 0], .bool false]) (by simp [results, Try.results13, go_sem, d0, d1, d2, d3, d4]) rfl ⟨?_, hend⟩
        obtain ⟨e0, e1, e2, e3, e4, e5⟩ := HE.out
        rw [e0, e1, e2, e3, e4, e5]
      | false =>
        have h16 : 16 ≤ bl.size := by
          rcases Nat.lt_or_ge bl.size 16 with h | h
          · have h1 := PS.four_no (l := bs) (by rw [HLEN.out]; exact h)
            rw [HB4.out] at h1
            cases h1
          · exact h
        obtain ⟨y0, y1, y2, y3, _⟩ := PS.four_yes (l := bs) (by rw [HLEN.out]; exact h16)
        rw [HZ.out] at y0
        rw [HZ1.out] at y1
        rw [HZ2.out] at y2
        rw [HZ3.out] at y3
        have hcand : PS.cand s = ⟨bg, z, z1, z2, z3⟩ := by
          rw [PS.cand, HBG.out, HBL.out, PS.ofLoad, HBS.out, ← y0, ← y1, ← y2, ← y3]
        have hte := took_put HBT.out (by rw [HBL.out]; exact h16)
        rw [hcand] at hte
        have hr5 : R5 ⟨bg, z, z1, z2, z3⟩ := by
          have hl := PS.n4_le bs
          have hlt : ∀ b ∈ bs, b < 256 := by rw [← HBS.out]; exact nums_lt bl
          have l0 := hl 0 hlt
          have l1 := hl 1 hlt
          have l2 := hl 2 hlt
          have l3 := hl 3 hlt
          rw [← y0] at l0
          rw [← y1] at l1
          rw [← y2] at l2
          rw [← y3] at l3
          have := RBG.out
          unfold R5 I64 at *
          dsimp only
          omega
        have hpu := rputS_any _ hr5
        simp only [sv] at hpu
        obtain ⟨T, hT⟩ : ∃ T, PS.put ⟨bg, z, z1, z2, z3⟩ = T := ⟨_, rfl⟩
        rw [hT] at hpu hte
        have HTE := Lib.hid hte
        have HCA := Lib.hid hcand
        clear hte hcand hr5 hT y0 y1 y2 y3
        obtain ⟨⟨x0, x1, x2, x3, x4⟩, _⟩ := hX4'.five
        go_wp2_with fail
        refine (hpu _).mono ?_
        rintro e W7 ⟨rfl, hB7⟩
        have s05 := s04.on hB7
        have hX5 := hX4'.on hB7
        have hb7 := hbb.trans (hB7.mono hbb.size)
        clear s04 hX4' hbb hB7 x0 x1 x2 x3 x4 hbr br1
        obtain ⟨⟨x0, x1, x2, x3, x4⟩, _⟩ := hX5.five
        obtain ⟨⟨c0, c1, c2, c3, c4⟩, f0, f1, f2, f3, f4⟩ := s05.five
        by_cases hF : T = s
        · have ht : PS.took s = true := by rw [HTE.out, hF]; simp
          have E : a0 = bg ∧ a1 = z ∧ a2 = z1 ∧ a3 = z2 ∧ a4 = z3 ∧ t = true := by
            have h1 := H0.out.symm
            rw [PS.tk, if_pos ht, HCA.out] at h1
            simp only [PS.S.mk.injEq] at h1
            exact ⟨h1.1, h1.2.1, h1.2.2.1, h1.2.2.2.1, h1.2.2.2.2, HT.out.symm.trans ht⟩
          have HE := Lib.hid E
          have hend := below_set5 hb7 (Nat.le_refl w.heap.size) (.int .i64 bg) (.int .i64 z) (.int .i64 z1) (.int .i64 z2) (.int .i64 z3)
          have hendx := s05.put5 (.int .i64 bg) (.int .i64 z) (.int .i64 z1) (.int .i64 z2) (.int .i64 z3)
          clear hb7 s05 hX5 ht E
          go_wp2
          generalize (((((W7.setCell ⟨w.heap.size, 0, none⟩ (.int .i64 bg)).setCell ⟨w.heap.size, 1, none⟩ (.int .i64 z)).setCell ⟨w.heap.size, 2, none⟩ (.int .i64 z1)).setCell ⟨w.heap.size, 3, none⟩ (.int .i64 z2)).setCell ⟨w.heap.size, 4, none⟩ (.int .i64 z3)) = wz at hend hendx ⊢
          obtain ⟨⟨d0, d1, d2, d3, d4⟩, _⟩ := hendx.five
          refine bodyPost_ret (v := .tuple #[.agg #[.int .i64 bg, .int .i64 z, .int .i64 z1, .int .i64 z2, .int .i64 z3], .bool true]) (by simp [results, Try.results13, go_sem, d0, d1, d2, d3, d4]) rfl ⟨?_, hend⟩
          obtain ⟨e0, e1, e2, e3, e4, e5⟩ := HE.out
          rw [e0, e1, e2, e3, e4, e5]
        · have hne2 := seq_no hF
          have ht : PS.took s = false := by rw [HTE.out]; simp [hF]
          have HE := Lib.hid (HNO.out ht)
          have hend := below_set5 hb7 (Nat.le_refl w.heap.size) (.int .i64 0) (.int .i64 0) (.int .i64 0) (.int .i64 0) (.int .i64 0)
          have hendx := s05.put5 (.int .i64 0) (.int .i64 0) (.int .i64 0) (.int .i64 0) (.int .i64 0)
          clear hb7 s05 hX5 ht
          go_wp2
          generalize (((((W7.setCell ⟨w.heap.size, 0, none⟩ (.int .i64 0)).setCell ⟨w.heap.size, 1, none⟩ (.int .i64 0)).setCell ⟨w.heap.size, 2, none⟩ (.int .i64 0)).setCell ⟨w.heap.size, 3, none⟩ (.int .i64 0)).setCell ⟨w.heap.size, 4, none⟩ (.int .i64 0)) = wz at hend hendx ⊢
          obtain ⟨⟨d0, d1, d2, d3, d4⟩, _⟩ := hendx.five
          refine bodyPost_ret (v := .tuple #[.agg #[.int .i64 0, .int .i64 0, .int .i64 0, .int .i64 0, .int .i64 0], .bool false]) (by simp [results, Try.results13, go_sem, d0, d1, d2, d3, d4]) rfl ⟨?_, hend⟩
          obtain ⟨e0, e1, e2, e3, e4, e5⟩ := HE.out
          rw [e0, e1, e2, e3, e4, e5]
end Go.Proofs.Ytcojpbckeebohaa
