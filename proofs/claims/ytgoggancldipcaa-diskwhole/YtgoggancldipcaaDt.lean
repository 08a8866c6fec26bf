/-
  The law DiskWhole: its walk.
-/
import Derived.Test.YtgoggancldipcaaDs
namespace Go.Proofs.Ytgoggancldipcaa
open Go.RowKit

/-- What holds at the head of each round of the first loop. -/
def WInv (w wr : World) (g k : Nat) : Prop :=
  ∃ d L A c A1 c1, Good 5 d L k ∧ Bx wr g 28 #[.slice A 5 c, .slice A1 d.wait.length c1, .int .i64 0, .bool false] ∧ IsD wr (.agg #[.slice A 5 c, .slice A1 d.wait.length c1, .int .i64 0, .bool false]) d ∧ Below w.heap.size w wr

/-- What holds at the head of each round of the second loop: the disk's box, the box of what it was. -/
def VInv (w wr : World) (g gw : Nat) (l1 : List ByteArray) (ps : List (Int × ByteArray)) (k : Nat) : Prop :=
  (∃ A c A1 c1, Bx wr g 28 #[.slice A 5 c, .slice A1 k c1, .int .i64 0, .bool false] ∧ IsD wr (.agg #[.slice A 5 c, .slice A1 k c1, .int .i64 0, .bool false]) ⟨l1, ps.take k, 0, false⟩) ∧
  (∃ A c A1 c1, Bx wr gw 28 #[.slice A 5 c, .slice A1 0 c1, .int .i64 0, .bool false] ∧ IsD wr (.agg #[.slice A 5 c, .slice A1 0 c1, .int .i64 0, .bool false]) ⟨l1, [], 0, false⟩) ∧ Below w.heap.size w wr

def psOf (zs : List Int) (n : Nat) : List (Int × ByteArray) := (List.range n).map fun i => (zs.getD (i * 2) 0 % 5, blk (zs.getD (i * 2 + 1) 0))
theorem psOf_length (zs : List Int) (n : Nat) : (psOf zs n).length = n := by simp [psOf]
theorem psOf_at {zs : List Int} {n k : Nat} {a0 a1 : Int} (hk : k < n) (h0 : zs[k * 2]? = some a0) (h1 : zs[k * 2 + 1]? = some a1) : (psOf zs n)[k]? = some (a0 % 5, blk a1) := by
  simp [psOf, hk, List.getD, h0, h1]

set_option maxRecDepth 100000 in
set_option maxHeartbeats 16000000 in
theorem whole_any (A : Option Addr) (n1 cap : Nat) (zs : List Int) (A2 : Option Addr) (n2 cap2 : Nat) (zs2 : List Int) (A3 : Option Addr) (n3 cap3 : Nat) (ks : List Bool) (w : World)
    (h : Sl w 2 (.slice A n1 cap) n1 (zs.map (Value.int .u8))) (hz : zs.length = n1 * 2) (hb : ∀ z ∈ zs, 0 ≤ z ∧ z ≤ 255)
    (h2 : Sl w 2 (.slice A2 n2 cap2) n2 (zs2.map (Value.int .u8))) (hz2 : zs2.length = n2 * 2) (hb2 : ∀ z ∈ zs2, 0 ≤ z ∧ z ≤ 255)
    (h3 : Sl w 1 (.slice A3 n3 cap3) n3 (ks.map Value.bool)) (hks : ks.length = n3) :
    Calls Try.prog 4 #[.slice A n1 cap, .slice A2 n2 cap2, .slice A3 n3 cap3] w fun e w' => e = .returned (.bool true) ∧ Below w.heap.size w w' := by
  by_cases l1 : 20 < n1
  · clear h h2 h3
    have t1 : decide ((20 : Int) < (n1 : Int)) = true := by simp; omega
    go_enter Try.func4, Try.ntmps4
    go_wp2_with fail
    refine (begun_any _).mono ?_
    rintro e w0 ⟨rfl, hb0⟩
    go_wp2
    go_ret
    exact ⟨rfl, hb0⟩
  by_cases l2 : 10 < n2
  · clear h h2 h3
    have t1 : decide ((20 : Int) < (n1 : Int)) = false := by simp; omega
    have t2 : decide ((10 : Int) < (n2 : Int)) = true := by simp; omega
    go_enter Try.func4, Try.ntmps4
    go_wp2_with fail
    refine (begun_any _).mono ?_
    rintro e w0 ⟨rfl, hb0⟩
    go_wp2
    go_ret
    exact ⟨rfl, hb0⟩
  by_cases l3 : 12 < n3
  · clear h h2 h3
    have t1 : decide ((20 : Int) < (n1 : Int)) = false := by simp; omega
    have t2 : decide ((10 : Int) < (n2 : Int)) = false := by simp; omega
    have t3 : decide ((12 : Int) < (n3 : Int)) = true := by simp; omega
    go_enter Try.func4, Try.ntmps4
    go_wp2_with fail
    refine (begun_any _).mono ?_
    rintro e w0 ⟨rfl, hb0⟩
    go_wp2
    go_ret
    exact ⟨rfl, hb0⟩
  have t1 : decide ((20 : Int) < (n1 : Int)) = false := by simp; omega
  have t2 : decide ((10 : Int) < (n2 : Int)) = false := by simp; omega
  have t3 : decide ((12 : Int) < (n3 : Int)) = false := by simp; omega
  have HK := Lib.hid hks
  clear hks
  go_enter Try.func4, Try.ntmps4
  go_wp2_with fail
  refine (begun_any _).mono ?_
  rintro e w0 ⟨rfl, hb0⟩
  go_wp2_with fail
  refine (new_o 5 _ (good_new 5 (by decide) (by decide)).1 (n0 := 5) (n1 := 0) (by simp) rfl).mono ?_
  rintro e w1 ⟨A0, c0, A1, c1, rfl, hD, hb1⟩
  have hbw := hb0.trans (hb1.mono hb0.size)
  clear hb0 hb1
  go_wp2
  have hX := Bx.new w1 28 #[.slice A0 5 c0, .slice A1 0 c1, .int .i64 0, .bool false]
  have hDD := hD.alloc (.cells #[.slice A0 5 c0, .slice A1 0 c1, .int .i64 0, .bool false] 28)
  have hbW := hbw.alloc hbw.size (.cells #[.slice A0 5 c0, .slice A1 0 c1, .int .i64 0, .bool false] 28)
  have hgw : w.heap.size ≤ w1.heap.size := hbw.size
  generalize w1.alloc (.cells #[.slice A0 5 c0, .slice A1 0 c1, .int .i64 0, .bool false] 28) = W at hX hDD hbW ⊢
  generalize w1.heap.size = g at hX hgw ⊢
  have hR : WInv w W g 0 := ⟨_, _, A0, c0, A1, c1, (good_new 5 (by decide) (by decide)).2, hX, hDD, hbW⟩
  clear hD hbw hX hDD hbW
  go_loopw [8] (fun s wr => ∃ k : Nat, k ≤ n1 ∧ s = .int .i64 k ∧ WInv w wr g k) (fun s _ => n1 - (intOf s).toNat)
  case atStart => exact ⟨0, by omega, rfl, hR⟩
  case round =>
    clear hR
    obtain ⟨k, hk, rfl, d, L, A0, c0, A1, c1, hG, hX, hD, hbW⟩ := hrel
    by_cases hlt : k < n1
    · obtain ⟨b, o, rfl, hbb, hcl⟩ := h.at (by omega)
      obtain ⟨a0, q0⟩ : ∃ x, zs[k * 2]? = some x := ⟨_, List.getElem?_eq_getElem (by omega)⟩
      obtain ⟨a1, q1⟩ : ∃ x, zs[k * 2 + 1]? = some x := ⟨_, List.getElem?_eq_getElem (by omega)⟩
      obtain ⟨b0, b0'⟩ := hb a0 (List.mem_of_getElem? q0)
      obtain ⟨b1, b1'⟩ := hb a1 (List.mem_of_getElem? q1)
      have e0 := (hbW.cell (p := ⟨b, o + k * 2, none⟩) hbb).trans (hcl (k * 2) (by omega))
      have e1 := (hbW.cell (p := ⟨b, o + (k * 2 + 1), none⟩) hbb).trans (hcl (k * 2 + 1) (by omega))
      rw [List.getElem?_map, q0, Option.map_some] at e0
      rw [List.getElem?_map, q1, Option.map_some, ← Nat.add_assoc] at e1
      obtain ⟨j, hj⟩ : ∃ j : Nat, a0 % 5 = j := ⟨(a0 % 5).toNat, by omega⟩
      have hj5 : j < 5 := by omega
      have hjt : a0.tmod 5 = (j : Int) := by rw [Int.tmod_eq_emod_of_nonneg b0]; exact hj
      have hwr : IntKind.i64.wrap (j : Int) = (j : Int) := by rw [IntKind.wrap_i64]; omega
      have HW := Lib.hid (hG.write j hj5 (blk a1) (blk_size a1))
      have HLL := Lib.hid hG.len
      have HLN : Hid ((d.wait ++ [((j : Int), blk a1)]).length = d.wait.length + 1) := by simp [Hid]
      clear q0 q1 hcl
      go_upto_region 9 with fail
      obtain ⟨x0, x1, x2, x3, y0, y1, y2, y3⟩ := hX.four
      have hs1 := hX.lt
      have hbr : b < wr.heap.size := by have := hbW.size; omega
      go_region_with (first
        | (go_at_call 19; (with_reducible refine (block_f wr a1 b1 b1' _ ?_).mono ?_); exact (Below.refl _ _).drew; rintro e w2 ⟨rfl, hc2, hb2⟩; have hx2 := hX.below hb2 hs1; have hf2 := hx2.four; obtain ⟨q0, q1, q2, q3, _, _, _, _⟩ := hf2; have f0 := (hb2.cell (p := ⟨b, o + k * 2, none⟩) hbr).trans e0)
        | (go_at_call 17; (with_reducible refine (write_f wr _ d (j : Int) (blk a1) _ hD (by rw [hG.len]; decide) (by have := hG.wait; omega) (by rw [hG.arm]; decide) (by rw [hG.arm]; decide) HW.out.1 (n0 := 5) (n1 := d.wait.length + 1) HLL.out HLN.out ?_).mono ?_); exact hb2; rintro e w3 ⟨A', c', A1', c1', rfl, hD4, hc3, hb3⟩; have hx3 := hX.below hb3 hs1; have hf3 := hx3.four; obtain ⟨p0, p1, p2, p3, _, _, _, _⟩ := hf3))
      all_goals go_wp2_with fail
      all_goals go_roundw
      all_goals first
        | exact ⟨k + 1, by omega, by go_num, _, L.set j (blk a1), A', c', A1', c1', HW.out.2, by rw [HLN.out]; exact hx3.put4 _ _ _ _, by rw [HLN.out]; exact hD4.far4 hx3 _ _ _ _, below_set4 (hbW.trans (hb3.mono hbW.size)) hgw _ _ _ _⟩
        | (simp [intOf]; omega)
    · have hkn : k = n1 := by omega
      subst hkn
      have hF := hG.flush
      obtain ⟨x0, x1, x2, x3, _, _, _, _⟩ := hX.four
      have hlX := hX.lt
      have hwl := hG.wait
      go_wp2_with fail
      refine (flush_o _ d _ hD (by rw [hG.len]; decide) (by omega) hF.1 (n0 := 5) (n1 := 0) (by rw [M.lasting_length]; exact hG.len) rfl).mono ?_
      rintro e w2 ⟨Af, cf, A1f, c1f, rfl, hDf, hbf⟩
      have hl5 := hF.2.len
      generalize M.lasting d.last d.wait = l1 at hDf hl5
      dsimp only at hl5
      have hX2 := hX.below hbf hlX
      have hbW2 := hbW.trans (hbf.mono hbW.size)
      clear x0 x1 x2 x3 hF hG hX hD hbW hlX hbf hwl
      obtain ⟨x0, x1, x2, x3, y0, y1, y2, y3⟩ := hX2.four
      have hlX2 := hX2.lt
      go_wp2
      have hXs := (hX2.put4 (.slice Af 5 cf) (.slice A1f 0 c1f) (.int .i64 0) (.bool false)).alloc (.cells #[.slice Af 5 cf, .slice A1f 0 c1f, .int .i64 0, .bool false] 28)
      have hXw := Bx.new ((((w2.setCell ⟨g, 0, none⟩ (.slice Af 5 cf)).setCell ⟨g, 1, none⟩ (.slice A1f 0 c1f)).setCell ⟨g, 2, none⟩ (.int .i64 0)).setCell ⟨g, 3, none⟩ (.bool false)) 28 #[.slice Af 5 cf, .slice A1f 0 c1f, .int .i64 0, .bool false]
      have hDs := (hDf.far4 hX2 (.slice Af 5 cf) (.slice A1f 0 c1f) (.int .i64 0) (.bool false)).alloc (.cells #[.slice Af 5 cf, .slice A1f 0 c1f, .int .i64 0, .bool false] 28)
      have hbs := below_set4 hbW2 hgw (.slice Af 5 cf) (.slice A1f 0 c1f) (.int .i64 0) (.bool false)
      have hbS := hbs.alloc hbs.size (.cells #[.slice Af 5 cf, .slice A1f 0 c1f, .int .i64 0, .bool false] 28)
      simp only [World.size_setCell] at hXw
      have hggw : g ≠ w2.heap.size := by omega
      have hgww : w.heap.size ≤ w2.heap.size := hbW2.size
      generalize (((((w2.setCell ⟨g, 0, none⟩ (.slice Af 5 cf)).setCell ⟨g, 1, none⟩ (.slice A1f 0 c1f)).setCell ⟨g, 2, none⟩ (.int .i64 0)).setCell ⟨g, 3, none⟩ (.bool false)).alloc (.cells #[.slice Af 5 cf, .slice A1f 0 c1f, .int .i64 0, .bool false] 28)) = W2 at hXs hXw hDs hbS ⊢
      generalize w2.heap.size = gw at hXw hggw hgww ⊢
      obtain ⟨ps, hps⟩ : ∃ ps, ps = psOf zs2 n2 := ⟨_, rfl⟩
      have hpl : ps.length = n2 := by rw [hps]; exact psOf_length _ _
      have HP := Lib.hid hps
      have HPL := Lib.hid hpl
      have hV : VInv w W2 g gw l1 ps 0 := ⟨⟨Af, cf, A1f, c1f, hXs, by simpa using hDs⟩, ⟨Af, cf, A1f, c1f, hXw, hDs⟩, hbS⟩
      clear hps hpl hXs hXw hDs hbS hbs hX2 hbW2 hDf x0 x1 x2 x3 y0 y1 y2 y3 hlX2
      go_loopw [10] (fun s wr => ∃ k : Nat, k ≤ n2 ∧ s = .int .i64 k ∧ VInv w wr g gw l1 ps k) (fun s _ => n2 - (intOf s).toNat)
      case atStart => exact ⟨0, by omega, rfl, hV⟩
      case round =>
        clear hV
        obtain ⟨k, hk, rfl, ⟨A0, c0, A1, c1, hX, hD⟩, ⟨Aw, cw, A1w, c1w, hXw, hDw⟩, hbW⟩ := hrel
        by_cases hlt : k < n2
        · obtain ⟨b, o, rfl, hbb, hcl⟩ := h2.at (by omega)
          obtain ⟨a0, q0⟩ : ∃ x, zs2[k * 2]? = some x := ⟨_, List.getElem?_eq_getElem (by omega)⟩
          obtain ⟨a1, q1⟩ : ∃ x, zs2[k * 2 + 1]? = some x := ⟨_, List.getElem?_eq_getElem (by omega)⟩
          obtain ⟨b0, b0'⟩ := hb2 a0 (List.mem_of_getElem? q0)
          obtain ⟨b1, b1'⟩ := hb2 a1 (List.mem_of_getElem? q1)
          have e0 := (hbW.cell (p := ⟨b, o + k * 2, none⟩) hbb).trans (hcl (k * 2) (by omega))
          have e1 := (hbW.cell (p := ⟨b, o + (k * 2 + 1), none⟩) hbb).trans (hcl (k * 2 + 1) (by omega))
          rw [List.getElem?_map, q0, Option.map_some] at e0
          rw [List.getElem?_map, q1, Option.map_some, ← Nat.add_assoc] at e1
          obtain ⟨j, hj⟩ : ∃ j : Nat, a0 % 5 = j := ⟨(a0 % 5).toNat, by omega⟩
          have hj5 : j < 5 := by omega
          have hjt : a0.tmod 5 = (j : Int) := by rw [Int.tmod_eq_emod_of_nonneg b0]; exact hj
          have hwr : IntKind.i64.wrap (j : Int) = (j : Int) := by rw [IntKind.wrap_i64]; omega
          have hpk : ps[k]? = some ((j : Int), blk a1) := by rw [HP.out, psOf_at hlt q0 q1, hj]
          have HW := Lib.hid (whole_write l1 hl5 ps k j (blk a1) hpk hj5 (blk_size a1))
          have HLL := Lib.hid hl5
          have HLN : Hid ((ps.take (k + 1)).length = k + 1) := by have := HPL.out; simp [Hid]; omega
          have hlXw := hXw.lt
          clear q0 q1 hcl hpk
          go_upto_region 15 with fail
          obtain ⟨x0, x1, x2, x3, y0, y1, y2, y3⟩ := hX.four
          have hs1 := hX.lt
          have hbr : b < wr.heap.size := by have := hbW.size; omega
          go_region_with (first
            | (go_at_call 19; (with_reducible refine (block_f wr a1 b1 b1' _ ?_).mono ?_); exact (Below.refl _ _).drew; rintro e w2 ⟨rfl, hc2, hb2⟩; have hx2 := hX.below hb2 hs1; have hf2 := hx2.four; obtain ⟨q0, q1, q2, q3, _, _, _, _⟩ := hf2; have f0 := (hb2.cell (p := ⟨b, o + k * 2, none⟩) hbr).trans e0)
            | (go_at_call 17; (with_reducible refine (write_f wr _ ⟨l1, ps.take k, 0, false⟩ (j : Int) (blk a1) _ hD (by show l1.length ≤ _; rw [hl5]; decide) (by have := HPL.out; show (ps.take k).length ≤ _; simp; omega) (by show (0 : Int) ≤ 0; decide) (by show (0 : Int) ≤ 65536; decide) HW.out (n0 := 5) (n1 := k + 1) HLL.out HLN.out ?_).mono ?_); exact hb2; rintro e w3 ⟨A', c', A1', c1', rfl, hD4, hc3, hb3⟩; have hx3 := hX.below hb3 hs1; have hf3 := hx3.four; obtain ⟨p0, p1, p2, p3, _, _, _, _⟩ := hf3))
          all_goals go_wp2_with fail
          all_goals go_roundw
          all_goals first
            | exact ⟨k + 1, by omega, by go_num, ⟨A', c', A1', c1', hx3.put4 _ _ _ _, hD4.far4 hx3 _ _ _ _⟩, ⟨Aw, cw, A1w, c1w, (hXw.below hb3 hlXw).far4 (Ne.symm hggw) _ _ _ _, (hDw.below hb3).far4 hx3 _ _ _ _⟩, below_set4 (hbW.trans (hb3.mono hbW.size)) hgw _ _ _ _⟩
            | (simp [intOf]; omega)

        · have hkn : k = n2 := by omega
          subst hkn
          rw [List.take_of_length_le (by rw [HPL.out]; exact Nat.le_refl _)] at hD
          have hlX := hX.lt
          have hlXw := hXw.lt
          obtain ⟨x0, x1, x2, x3, _, _, _, _⟩ := hX.four
          go_wp2_with fail
          refine (crash_o _ ⟨l1, ps, 0, false⟩ A3 n3 cap3 ks _ hD (h3.below hbW) (by show l1.length ≤ _; rw [hl5]; decide) (by show ps.length ≤ _; rw [HPL.out]; omega) (by omega) (l := M.lasting l1 (M.kept ps ks)) (wt := []) (arm := 0) (down := false) rfl (n0 := 5) (n1 := 0) (by rw [M.lasting_length]; exact hl5) rfl HK.out).mono ?_
          rintro e w2 ⟨Ax, cx, A1x, c1x, rfl, hDx, hbx⟩
          have hXw2 := hXw.below hbx hlXw
          have hDw2 := hDw.below hbx
          have hbW2 := hbW.trans (hbx.mono hbW.size)
          clear x0 x1 x2 x3 hX hD hXw hDw hbW hbx hlX hlXw
          have hlw2 := hXw2.lt
          go_wp2
          have hXx := Bx.new w2 28 #[.slice Ax 5 cx, .slice A1x 0 c1x, .int .i64 0, .bool false]
          have hXw3 := hXw2.alloc (.cells #[.slice Ax 5 cx, .slice A1x 0 c1x, .int .i64 0, .bool false] 28)
          have hDw3 := hDw2.alloc (.cells #[.slice Ax 5 cx, .slice A1x 0 c1x, .int .i64 0, .bool false] 28)
          have hDx3 := hDx.alloc (.cells #[.slice Ax 5 cx, .slice A1x 0 c1x, .int .i64 0, .bool false] 28)
          have hbW3 := hbW2.alloc hbW2.size (.cells #[.slice Ax 5 cx, .slice A1x 0 c1x, .int .i64 0, .bool false] 28)
          generalize w2.alloc (.cells #[.slice Ax 5 cx, .slice A1x 0 c1x, .int .i64 0, .bool false] 28) = W3 at hXx hXw3 hDw3 hDx3 hbW3 ⊢
          generalize w2.heap.size = gx at hXx ⊢
          clear hXw2 hDw2 hbW2 hDx hlw2
          go_loopw [12] (fun s wr => ∃ i : Nat, i ≤ 5 ∧ s = .int .i64 i ∧ Bx wr gx 28 #[.slice Ax 5 cx, .slice A1x 0 c1x, .int .i64 0, .bool false] ∧ IsD wr (.agg #[.slice Ax 5 cx, .slice A1x 0 c1x, .int .i64 0, .bool false]) ⟨M.lasting l1 (M.kept ps ks), [], 0, false⟩ ∧ Bx wr gw 28 #[.slice Aw 5 cw, .slice A1w 0 c1w, .int .i64 0, .bool false] ∧ IsD wr (.agg #[.slice Aw 5 cw, .slice A1w 0 c1w, .int .i64 0, .bool false]) ⟨l1, [], 0, false⟩ ∧ Below w.heap.size w wr) (fun s _ => 5 - (intOf s).toNat)
          case atStart => exact ⟨0, by omega, rfl, hXx, hDx3, hXw3, hDw3, hbW3⟩
          case round =>
            clear hXx hDx3 hXw3 hDw3 hbW3
            obtain ⟨i, hi, rfl, hXx, hDx, hXw, hDw, hbW⟩ := hrel
            by_cases hi5 : i < 5
            · obtain ⟨x0, x1, x2, x3, _, _, _, _⟩ := hXx.four
              go_wp2_with fail
              refine (read_o _ ⟨M.lasting l1 (M.kept ps ks), [], 0, false⟩ (i : Int) _ hDx (by show 0 ≤ _; omega) (s := wantTo l1 ps ks i k) (r := true) (by have := want_all l1 ps ks i (by omega); rw [HPL.out] at this; simp [M.read, M.can, hasB, M.lasting_length, hl5, M.get, M.waits, this]; omega)).mono ?_
              rintro e w2 ⟨rfl, hb2⟩
              have hXx2 := hXx.below hb2 hXx.lt
              have hXw2 := hXw.below hb2 hXw.lt
              have hDx2 := hDx.below hb2
              have hDw2 := hDw.below hb2
              have hbW2 := hbW.trans (hb2.mono hbW.size)
              clear x0 x1 x2 x3 hXx hXw hDx hDw hbW hb2
              obtain ⟨x0, x1, x2, x3, _, _, _, _⟩ := hXw2.four
              go_wp2_with fail
              refine (read_o _ ⟨l1, [], 0, false⟩ (i : Int) _ hDw2 (by show 0 ≤ _; omega) (s := wantTo l1 ps ks i 0) (r := true) (by rw [want_zero]; simp [M.read, M.can, hasB, hl5, M.get, M.waits]; omega)).mono ?_
              rintro e w3 ⟨rfl, hb3⟩
              have hXx := hXx2.below hb3 hXx2.lt
              have hXw := hXw2.below hb3 hXw2.lt
              have hDx := hDx2.below hb3
              have hDw := hDw2.below hb3
              have hbW := hbW2.trans (hb3.mono hbW2.size)
              clear x0 x1 x2 x3 hXx2 hXw2 hDx2 hDw2 hbW2 hb3
              go_wp2
              go_loopw [15, 17] (fun s15 s17 wr => ∃ q : Nat, q ≤ k ∧ s17 = .int .i64 q ∧ s15 = .string (wantTo l1 ps ks i q) ∧ Bx wr gx 28 #[.slice Ax 5 cx, .slice A1x 0 c1x, .int .i64 0, .bool false] ∧ IsD wr (.agg #[.slice Ax 5 cx, .slice A1x 0 c1x, .int .i64 0, .bool false]) ⟨M.lasting l1 (M.kept ps ks), [], 0, false⟩ ∧ Bx wr gw 28 #[.slice Aw 5 cw, .slice A1w 0 c1w, .int .i64 0, .bool false] ∧ IsD wr (.agg #[.slice Aw 5 cw, .slice A1w 0 c1w, .int .i64 0, .bool false]) ⟨l1, [], 0, false⟩ ∧ Below w.heap.size w wr) (fun _ s17 _ => k - (intOf s17).toNat)
              case atStart => exact ⟨0, by omega, rfl, rfl, hXx, hDx, hXw, hDw, hbW⟩
              case round =>
                clear hXx hDx hXw hDw hbW
                obtain ⟨q, hq, rfl, rfl, hXx, hDx, hXw, hDw, hbW⟩ := hrel
                by_cases hqk : q < k
                · obtain ⟨b, o, rfl, hbb, hcl⟩ := h2.at (by omega)
                  obtain ⟨a0, q0⟩ : ∃ x, zs2[q * 2]? = some x := ⟨_, List.getElem?_eq_getElem (by omega)⟩
                  obtain ⟨a1, q1⟩ : ∃ x, zs2[q * 2 + 1]? = some x := ⟨_, List.getElem?_eq_getElem (by omega)⟩
                  obtain ⟨b0, b0'⟩ := hb2 a0 (List.mem_of_getElem? q0)
                  obtain ⟨b1, b1'⟩ := hb2 a1 (List.mem_of_getElem? q1)
                  have e0 := (hbW.cell (p := ⟨b, o + q * 2, none⟩) hbb).trans (hcl (q * 2) (by omega))
                  have e1 := (hbW.cell (p := ⟨b, o + (q * 2 + 1), none⟩) hbb).trans (hcl (q * 2 + 1) (by omega))
                  rw [List.getElem?_map, q0, Option.map_some] at e0
                  rw [List.getElem?_map, q1, Option.map_some, ← Nat.add_assoc] at e1
                  obtain ⟨j, hj⟩ : ∃ j : Nat, a0 % 5 = j := ⟨(a0 % 5).toNat, by omega⟩
                  have hpq : ps[q]? = some ((j : Int), blk a1) := by rw [HP.out, psOf_at hqk q0 q1, hj]
                  clear q0 q1 hcl
                  by_cases hji : j = i
                  · subst hji
                    by_cases hq3 : q < n3
                    · obtain ⟨b3, o3, rfl, hbb3, hcl3⟩ := h3.at (by omega)
                      obtain ⟨x, hx⟩ : ∃ x, ks[q]? = some x := ⟨_, List.getElem?_eq_getElem (by rw [HK.out]; exact hq3)⟩
                      have e3 := (hbW.cell (p := ⟨b3, o3 + q, none⟩) hbb3).trans (hcl3 q (by omega))
                      rw [List.getElem?_map, hx, Option.map_some] at e3
                      clear hcl3
                      have i3 : (q : Int) < (n3 : Int) := by omega
                      cases x with
                      | true =>
                        have HW := Lib.hid (want_yes (l1 := l1) hpq hx)
                        clear hpq hx
                        go_wp2_with fail
                        refine (block_any a1 b1 b1' _).mono ?_
                        rintro e w2 ⟨rfl, hb2'⟩
                        have hXx2 := hXx.below hb2' hXx.lt
                        have hXw2 := hXw.below hb2' hXw.lt
                        have hDx2 := hDx.below hb2'
                        have hDw2 := hDw.below hb2'
                        have hbW2 := hbW.trans (hb2'.mono hbW.size)
                        clear hXx hXw hDx hDw hbW hb2' e0 e1 e3
                        go_wp2
                        go_roundw
                        case rel => exact ⟨q + 1, by omega, by go_num, by rw [HW.out], hXx2, hDx2, hXw2, hDw2, hbW2⟩
                        case measure => simp [intOf]; omega
                      | false =>
                        have HW := Lib.hid (want_no (l1 := l1) (i := j) hpq (.inr (by rw [hx]; simp)))
                        clear hpq hx
                        go_wp2
                        go_roundw
                        case rel => exact ⟨q + 1, by omega, by go_num, by rw [HW.out], hXx, hDx, hXw, hDw, hbW⟩
                        case measure => simp [intOf]; omega
                    · have HW := Lib.hid (want_no (l1 := l1) (ks := ks) (i := j) hpq (.inr (by rw [List.getElem?_eq_none (by rw [HK.out]; omega)]; simp)))
                      have i3 : decide ((q : Int) < (n3 : Int)) = false := by simp; omega
                      have i3' : decide (q < n3) = false := by simp; omega
                      clear hpq
                      go_wp2
                      go_roundw
                      case rel => exact ⟨q + 1, by omega, by go_num, by rw [HW.out], hXx, hDx, hXw, hDw, hbW⟩
                      case measure => simp [intOf]; omega
                  · have HW := Lib.hid (want_no (l1 := l1) (ks := ks) (i := i) hpq (.inl hji))
                    have i3 : ((j : Int) == (i : Int)) = false := by simp; omega
                    clear hpq
                    go_wp2
                    go_roundw
                    case rel => exact ⟨q + 1, by omega, by go_num, by rw [HW.out], hXx, hDx, hXw, hDw, hbW⟩
                    case measure => simp [intOf]; omega
                · have hqn : q = k := by omega
                  subst hqn
                  go_wp2
                  go_roundw
                  case rel => exact ⟨i + 1, by omega, by go_num, hXx, hDx, hXw, hDw, hbW⟩
                  case measure => simp [intOf]; omega
            · have hi5' : i = 5 := by omega
              subst hi5'
              obtain ⟨x0, x1, x2, x3, _, _, _, _⟩ := hXx.four
              go_wp2
              go_ret
              exact ⟨rfl, hbW⟩

end Go.Proofs.Ytgoggancldipcaa
