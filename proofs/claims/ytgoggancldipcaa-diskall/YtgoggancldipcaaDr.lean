/-
  The law DiskArms: its walk.
-/
import Derived.Test.YtgoggancldipcaaDp
import Derived.Deep.RegionWith
namespace Go.Proofs.Ytgoggancldipcaa
open Go.RowKit

/-- The power goes at write a (from 0); k writes have been done. -/
structure Armed (a k : Nat) (d : D) : Prop where
  len : d.last.length = 5
  wait : d.wait.length = min k (a + 1)
  arm : d.arm = if k ≤ a then 1 + (a : Int) - k else 0
  down : d.down = decide (a < k)

theorem Armed.early {a k : Nat} {d : D} (h : Armed a k d) (hk : k < a) (j : Nat) (hj : j < 5) (b : ByteArray) (hb : b.size = 64) :
    M.write d (j : Int) b = (⟨d.last, d.wait ++ [((j : Int), b)], d.arm - 1, false⟩, true) ∧ Armed a (k + 1) ⟨d.last, d.wait ++ [((j : Int), b)], d.arm - 1, false⟩ ∧ d.wait.length = k := by
  have ha := h.arm
  rw [if_pos (by omega)] at ha
  have hd : d.down = false := by rw [h.down]; simp; omega
  have hc : M.can d (j : Int) = true := by simp [M.can, hd, hasB, h.len]; omega
  have h1 : 0 < d.arm := by omega
  have h2 : (d.arm - 1 == 0) = false := by simp; omega
  refine ⟨by simp [M.write, hc, hb, M.pushed, h1, h2], ⟨h.len, ?_, ?_, ?_⟩, ?_⟩
  · have := h.wait; simp; omega
  · show d.arm - 1 = _
    rw [if_pos (by omega)]; omega
  · show false = _
    simp; omega
  · have := h.wait; omega

theorem Armed.just {a : Nat} {d : D} (h : Armed a a d) (j : Nat) (hj : j < 5) (b : ByteArray) (hb : b.size = 64) :
    M.write d (j : Int) b = (⟨d.last, d.wait ++ [((j : Int), b)], 0, true⟩, false) ∧ Armed a (a + 1) ⟨d.last, d.wait ++ [((j : Int), b)], 0, true⟩ ∧ d.wait.length = a := by
  have ha := h.arm
  rw [if_pos (by omega)] at ha
  have hd : d.down = false := by rw [h.down]; simp
  have hc : M.can d (j : Int) = true := by simp [M.can, hd, hasB, h.len]; omega
  have h1 : 0 < d.arm := by omega
  have h2 : d.arm - 1 = 0 := by omega
  refine ⟨by simp [M.write, hc, hb, M.pushed, h1, h2], ⟨h.len, ?_, ?_, ?_⟩, ?_⟩
  · have := h.wait; simp; omega
  · show (0 : Int) = _
    rw [if_neg (by omega)]
  · show true = _
    simp
  · have := h.wait; omega

theorem Armed.late {a k : Nat} {d : D} (h : Armed a k d) (hk : a < k) (i : Int) (b : ByteArray) :
    M.write d i b = (⟨d.last, d.wait, 0, true⟩, false) ∧ Armed a (k + 1) ⟨d.last, d.wait, 0, true⟩ ∧ d.wait.length = a + 1 := by
  have ha := h.arm
  rw [if_neg (by omega)] at ha
  have hd : d.down = true := by rw [h.down]; simp; omega
  have hc : M.can d i = false := by simp [M.can, hd]
  have he : d = ⟨d.last, d.wait, 0, true⟩ := by cases d; simp_all
  refine ⟨by rw [← he]; simp [M.write, hc], ⟨h.len, ?_, ?_, ?_⟩, ?_⟩
  · have := h.wait; show d.wait.length = _; omega
  · show (0 : Int) = _
    rw [if_neg (by omega)]
  · show true = _
    simp; omega
  · have := h.wait; omega

/-- One write more: what it tells, what the disk is then. -/
theorem Armed.step {a k : Nat} {d : D} (ha11 : a ≤ 11) (h : Armed a k d) (j : Nat) (hj : j < 5) (b : ByteArray) (hb : b.size = 64) :
    ∃ l wt arm, M.write d (j : Int) b = (⟨l, wt, arm, decide (a ≤ k)⟩, decide (k < a)) ∧ Armed a (k + 1) ⟨l, wt, arm, decide (a ≤ k)⟩ ∧ wt.length = min k a + 1 ∧ l.length = 5 ∧ 0 ≤ arm ∧ arm ≤ 65536 := by
  have hal := h.len
  rcases (by omega : k < a ∨ k = a ∨ a < k) with hk | rfl | hk
  · obtain ⟨h1, h2, h3⟩ := h.early hk j hj b hb
    have e1 : decide (a ≤ k) = false := by simp; omega
    have e2 : decide (k < a) = true := by simpa using hk
    rw [e1, e2]
    have ha := h.arm
    rw [if_pos (by omega)] at ha
    exact ⟨_, _, _, h1, h2, by simp; omega, hal, by omega, by omega⟩
  · obtain ⟨h1, h2, h3⟩ := h.just j hj b hb
    have e1 : decide (k ≤ k) = true := by simp
    have e2 : decide (k < k) = false := by simp
    rw [e1, e2]
    exact ⟨_, _, _, h1, h2, by simp; omega, hal, by decide, by decide⟩
  · obtain ⟨h1, h2, h3⟩ := h.late hk (j : Int) b
    have e1 : decide (a ≤ k) = true := by simp; omega
    have e2 : decide (k < a) = false := by simp; omega
    rw [e1, e2]
    exact ⟨_, _, _, h1, h2, by omega, hal, by decide, by decide⟩

/-- What holds at the head of each round. -/
def AInv (w wr : World) (g a k : Nat) : Prop :=
  ∃ d A c A1 c1, Armed a k d ∧ Bx wr g 28 #[.slice A 5 c, .slice A1 d.wait.length c1, .int .i64 d.arm, .bool d.down] ∧ IsD wr (.agg #[.slice A 5 c, .slice A1 d.wait.length c1, .int .i64 d.arm, .bool d.down]) d ∧ Below w.heap.size w wr

theorem Armed.bounds {a k : Nat} {d : D} (ha11 : a ≤ 11) (h : Armed a k d) : 0 ≤ d.arm ∧ d.arm ≤ 65536 ∧ d.wait.length ≤ 12 ∧ d.last.length ≤ 65536 := by
  have h1 := h.arm
  have h2 := h.wait
  have h3 := h.len
  split at h1 <;> omega

theorem start_armed (a : Nat) : Armed a 0 ⟨List.replicate 5 blank, [], 1 + (a : Int), false⟩ := by
  refine ⟨by simp, by simp, ?_, ?_⟩
  · show 1 + (a : Int) = _
    simp
  · show false = _
    simp

theorem cell_al {w : World} {b q : Nat} (hb : b < w.heap.size) (o : Obj) : (w.alloc o).cell? ⟨b, q, none⟩ = w.cell? ⟨b, q, none⟩ := World.cell?_of_block (w := w) (Below.heap_alloc w o b hb)
theorem cell_ald {w : World} {b q : Nat} (hb : b < w.heap.size) (o : Obj) : (w.alloc o).drew.cell? ⟨b, q, none⟩ = w.cell? ⟨b, q, none⟩ := cell_al hb o
theorem cell_s4 {w : World} {b q h : Nat} (hne : b ≠ h) (a1 a2 a3 a4 : Value) : ((((w.setCell ⟨h, 0, none⟩ a1).setCell ⟨h, 1, none⟩ a2).setCell ⟨h, 2, none⟩ a3).setCell ⟨h, 3, none⟩ a4).cell? ⟨b, q, none⟩ = w.cell? ⟨b, q, none⟩ := by
  have e : ∀ (w : World) (i : Nat) (v : Value), (w.setCell ⟨h, i, none⟩ v).cell? ⟨b, q, none⟩ = w.cell? ⟨b, q, none⟩ := fun w i v => World.cell?_of_block (w := w) (Below.heap_setCell w ⟨h, i, none⟩ v b hne)
  rw [e, e, e, e]

set_option maxRecDepth 100000 in
set_option maxHeartbeats 4000000 in
theorem arms_any (A : Option Addr) (len cap : Nat) (zs : List Int) (am : Int) (w : World) (h : Sl w 2 (.slice A len cap) len (zs.map (Value.int .u8))) (hz : zs.length = len * 2) (hb : ∀ z ∈ zs, 0 ≤ z ∧ z ≤ 255) (ham0 : 0 ≤ am) (ham : am ≤ 255) :
    Calls Try.prog 5 #[.slice A len cap, .int .u8 am] w fun e w' => e = .returned (.bool true) ∧ Below w.heap.size w w' := by
  by_cases h20 : 20 < len
  · have h20' : decide ((20 : Int) < (len : Int)) = true := by simp; omega
    go_enter Try.func5, Try.ntmps5
    go_wp2_with fail
    refine (begun_any _).mono ?_
    rintro e w0 ⟨rfl, hb0⟩
    go_wp2
    go_ret
    exact ⟨rfl, hb0⟩
  · have h20' : decide ((20 : Int) < (len : Int)) = false := by simp; omega
    obtain ⟨a, haa⟩ : ∃ a : Nat, am % 12 = a := ⟨(am % 12).toNat, by omega⟩
    have ha11 : a ≤ 11 := by omega
    go_enter Try.func5, Try.ntmps5
    go_wp2_with fail
    refine (begun_any _).mono ?_
    rintro e w0 ⟨rfl, hb0⟩
    go_wp2_with fail
    refine (new_o 5 _ (good_new 5 (by decide) (by decide)).1 (n0 := 5) (n1 := 0) (by simp) rfl).mono ?_
    rintro e w1 ⟨A0, c0, A1, c1, rfl, hD, hb1⟩
    have hbw := hb0.trans (hb1.mono hb0.size)
    clear hb0 hb1
    go_wp2
    rw [haa]
    have hX := Bx.new w1 28 #[.slice A0 5 c0, .slice A1 0 c1, .int .i64 (1 + (a : Int)), .bool false]
    have hDD : IsD (w1.alloc (.cells #[.slice A0 5 c0, .slice A1 0 c1, .int .i64 (1 + (a : Int)), .bool false] 28)) (.agg #[.slice A0 5 c0, .slice A1 0 c1, .int .i64 (1 + (a : Int)), .bool false]) ⟨List.replicate 5 blank, [], 1 + (a : Int), false⟩ := by
      obtain ⟨v0, v1, hv, t0, t1⟩ := hD.alloc (.cells #[.slice A0 5 c0, .slice A1 0 c1, .int .i64 (1 + (a : Int)), .bool false] 28)
      simp at hv
      obtain ⟨rfl, rfl⟩ := hv
      exact ⟨_, _, rfl, t0, t1⟩
    have hbW := hbw.alloc hbw.size (.cells #[.slice A0 5 c0, .slice A1 0 c1, .int .i64 (1 + (a : Int)), .bool false] 28)
    have hgw : w.heap.size ≤ w1.heap.size := hbw.size
    generalize w1.alloc (.cells #[.slice A0 5 c0, .slice A1 0 c1, .int .i64 (1 + (a : Int)), .bool false] 28) = W at hX hDD hbW ⊢
    generalize w1.heap.size = g at hX hgw ⊢
    have hR : AInv w W g a 0 := ⟨_, A0, c0, A1, c1, start_armed a, hX, hDD, hbW⟩
    clear hD hbw hX hDD hbW
    go_loopw [6] (fun s wr => ∃ k : Nat, k ≤ len ∧ s = .int .i64 k ∧ AInv w wr g a k) (fun s _ => len - (intOf s).toNat)
    case atStart => exact ⟨0, by omega, rfl, hR⟩
    case round =>
      clear hR
      obtain ⟨k, hk, rfl, d, A0, c0, A1, c1, hG, hX, hD, hbW⟩ := hrel
      by_cases hlt : k < len
      · obtain ⟨b, o, rfl, hbb, hcl⟩ := h.at (by omega)
        obtain ⟨a0, q0⟩ : ∃ x, zs[k * 2]? = some x := ⟨_, List.getElem?_eq_getElem (by omega)⟩
        obtain ⟨a1, q1⟩ : ∃ x, zs[k * 2 + 1]? = some x := ⟨_, List.getElem?_eq_getElem (by omega)⟩
        obtain ⟨b0, b0'⟩ := hb a0 (List.mem_of_getElem? q0)
        obtain ⟨b1, b1'⟩ := hb a1 (List.mem_of_getElem? q1)
        have e0 := (hbW.cell (p := ⟨b, o + k * 2, none⟩) hbb).trans (hcl (k * 2) (by omega))
        have e1 := (hbW.cell (p := ⟨b, o + (k * 2 + 1), none⟩) hbb).trans (hcl (k * 2 + 1) (by omega))
        rw [List.getElem?_map, q0, Option.map_some] at e0
        rw [List.getElem?_map, q1, Option.map_some, ← Nat.add_assoc] at e1
        obtain ⟨j, hj⟩ : ∃ j : Nat, a0 % 5 = j := ⟨(a0 % 5).toNat, by omega⟩
        have hj5 : j < 5 := by omega
        have hjt : a0.tmod 5 = (j : Int) := by rw [Int.tmod_eq_emod_of_nonneg b0]; exact hj
        have hwr : IntKind.i64.wrap (j : Int) = (j : Int) := by rw [IntKind.wrap_i64]; omega
        obtain ⟨l', wt', arm', hM, hG', hwl, hll, har0, har⟩ := hG.step ha11 j hj5 (blk a1) (blk_size a1)
        obtain ⟨hq0, hq1, hq2, hq3⟩ := hG.bounds ha11
        have HM := Lib.hid hM
        have HW := Lib.hid hwl
        have HL := Lib.hid hll
        clear q0 q1 hcl hM hwl hll
        have hbr : b < wr.heap.size := by have := hbW.size; omega
        have hs1 := hX.lt
        have hbg : b ≠ g := by omega
        go_upto_region 10 with fail
        go_cut [7, 8] (fun s7 s8 wx => s8 = .bool (decide (k < a)) ∧ Bx wx g 28 #[.slice A0 5 c0, .slice A1 d.wait.length c1, .int .i64 d.arm, .bool d.down] ∧ Below w.heap.size w wx ∧
          ∃ gx A' c' A1' c1', s7 = .pointer (some ⟨gx, 0, none⟩) ∧ gx ≠ g ∧ Bx wx gx 28 #[.slice A' 5 c', .slice A1' wt'.length c1', .int .i64 arm', .bool (decide (a ≤ k))] ∧ IsD wx (.agg #[.slice A' 5 c', .slice A1' wt'.length c1', .int .i64 arm', .bool (decide (a ≤ k))]) ⟨l', wt', arm', decide (a ≤ k)⟩)
        case first =>
          have hneW : g ≠ wr.heap.size := by omega
          have hbnW : b ≠ wr.heap.size := by omega
          have d0 : wr.drew.cell? ⟨b, o + k * 2, none⟩ = some (.int .u8 a0) := e0
          have d1 : wr.drew.cell? ⟨b, o + k * 2 + 1, none⟩ = some (.int .u8 a1) := e1
          go_region_held3 (fun w' => (w'.cell? ⟨g, 0, none⟩ = some (.slice A0 5 c0) ∧ w'.cell? ⟨g, 1, none⟩ = some (.slice A1 d.wait.length c1) ∧ w'.cell? ⟨g, 2, none⟩ = some (.int .i64 d.arm) ∧ w'.cell? ⟨g, 3, none⟩ = some (.bool d.down)) ∧ w'.cell? ⟨b, o + k * 2, none⟩ = some (.int .u8 a0) ∧ w'.cell? ⟨b, o + k * 2 + 1, none⟩ = some (.int .u8 a1))
            (first | (with_reducible exact ⟨hX.drew.c4, d0, d1⟩) | (with_reducible exact ⟨(hX.alloc _).drew.c4, (cell_ald hbr _).trans e0, (cell_ald hbr _).trans e1⟩) | (with_reducible exact ⟨hx2.c4, f0, f1⟩) | (with_reducible exact ⟨(hx2.alloc _).c4, (cell_al hb2r _).trans f0, (cell_al hb2r _).trans f1⟩) | (with_reducible exact ⟨hx3.c4, g0, g1⟩) | (with_reducible exact ⟨(hx3.alloc _).c4, (cell_al hb3r _).trans g0, (cell_al hb3r _).trans g1⟩) | (with_reducible exact ⟨(hx3.far4 hne2 _ _ _ _).c4, (cell_s4 hbn2 _ _ _ _).trans g0, (cell_s4 hbn2 _ _ _ _).trans g1⟩) | (with_reducible exact ⟨(hx3.far4 hneW _ _ _ _).c4, (cell_s4 hbnW _ _ _ _).trans g0, (cell_s4 hbnW _ _ _ _).trans g1⟩))
            (first
              | (go_at_call 19; refine (block_f wr a1 b1 b1' _ ?_).mono ?_; (first | exact (Below.refl _ _).drew | exact ((Below.refl _ _).alloc (Nat.le_refl _) _).drew); rintro e w2 ⟨rfl, hc2, hb2⟩; (try (have hz2 : Bx w2 wr.heap.size 28 z4 := (Bx.new wr 28 z4).below (below_undrew hc2) (by simp))); have hne2 : g ≠ w2.heap.size := (by have := hb2.size; omega); have hbn2 : b ≠ w2.heap.size := (by have := hb2.size; omega); have hx2 := hX.below hb2 hs1; have f0 := (hb2.cell (p := ⟨b, o + k * 2, none⟩) hbr).trans e0; have f1 := (hb2.cell (p := ⟨b, o + k * 2 + 1, none⟩) hbr).trans e1; have hb2r : b < w2.heap.size := (by have := hb2.size; omega))
              | (go_at_call 17; refine (write_f wr _ d (j : Int) (blk a1) _ hD hq3 (by omega) hq0 hq1 HM.out (n0 := 5) (n1 := wt'.length) HL.out rfl ?_).mono ?_; (first | exact hb2 | exact hb2.alloc hb2.size _); rintro e w3 ⟨A', c', A1', c1', rfl, hD3, hc3, hb3⟩; (try (have hz3 : Bx w3 wr.heap.size 28 z4 := hz2.below hc3 hz2.lt; have hz4 := hz3.four; obtain ⟨z0, z1, z2, z3, y0, y1, y2, y3⟩ := hz4)); (try (have hz3 : Bx w3 w2.heap.size 28 z4 := (Bx.new w2 28 z4).below hc3 (by simp); have hz4 := hz3.four; obtain ⟨z0, z1, z2, z3, y0, y1, y2, y3⟩ := hz4)); have hx3 := hX.below hb3 hs1; have g0 := (hb3.cell (p := ⟨b, o + k * 2, none⟩) hbr).trans e0; have g1 := (hb3.cell (p := ⟨b, o + k * 2 + 1, none⟩) hbr).trans e1; have hb3r : b < w3.heap.size := (by have := hb3.size; omega)))
          all_goals go_wp2_with fail
          all_goals go_meet
          · have hbz := hbW.trans (hb3.mono hbW.size)
            exact ⟨rfl, hx3.alloc _, hbz.alloc hbz.size _, _, A', c', A1', c1', rfl, (by have := hb3.size; omega), Bx.new w3 28 _, hD3.alloc _⟩
          · have hbz := hbW.trans (hb3.mono hbW.size)
            exact ⟨rfl, hx3.far4 hne2 _ _ _ _, below_set4 hbz (by have := hb2.size; have := hbW.size; omega) _ _ _ _, _, A', c', A1', c1', rfl, Ne.symm hne2, hz3.put4 _ _ _ _, hD3.far4 hz3 _ _ _ _⟩
          · have hbz := hbW.trans (hb3.mono hbW.size)
            exact ⟨rfl, hx3.far4 hneW _ _ _ _, below_set4 hbz hbW.size _ _ _ _, _, A', c', A1', c1', rfl, Ne.symm hneW, hz3.put4 _ _ _ _, hD3.far4 hz3 _ _ _ _⟩
        case rest =>
          clear hX hD hbW e0 e1 hbr hs1 HM hq0 hq1 hq2 hq3 hG
          obtain ⟨rfl, hX, hbW, gx, A', c', A1', c1', rfl, hgx, hXx, hDx⟩ := hcut
          by_cases hka : k < a
          · have e1 : decide (k < a) = true := by simp; omega
            have e2 : decide (a ≤ k) = false := by simp; omega
            have hn : wt'.length = k + 1 := by have := HW.out; omega
            have b1 : decide ((k : Int) < (a : Int)) = true := by simp; omega
            have b2 : decide ((a : Int) ≤ (k : Int)) = false := by simp; omega
            have hmin : ∀ (w : World) (ts : Array TypeId) (t : TypeId), (Builtin.min_ ts t #[.int .i64 (k : Int), .int .i64 (a : Int)]).run Try.prog w = .ok (.int .i64 (k : Int)) w := by
              intro w ts t
              have e : (if a < k then (a : Int) else (k : Int)) = (k : Int) := by split <;> omega
              simp [Builtin.min_, Builtin.min2, e]
            rw [e1]
            rw [e2, hn] at hXx hDx
            rw [e2] at hG'
            clear hka
            obtain ⟨x0, x1, x2, x3, _, _, _, _⟩ := hXx.four
            have hlx := hXx.lt
            go_wp2_with fail
            refine (flush_o _ ⟨l', wt', arm', false⟩ _ hDx (by show l'.length ≤ _; rw [HL.out]; decide) (by show wt'.length ≤ _; omega) (show M.flush ⟨l', wt', arm', false⟩ = (⟨M.lasting l' wt', [], arm', false⟩, true) from rfl) (n0 := 5) (n1 := 0) (by rw [M.lasting_length]; exact HL.out) rfl).mono ?_
            rintro e w2 ⟨Af, cf, A1f, c1f, rfl, _, hb2⟩
            clear x0 x1 x2 x3
            have hX2 := hX.below hb2 hX.lt
            have hXx2 := hXx.below hb2 hlx
            have hDx2 := hDx.below hb2
            have hbW2 := hbW.trans (hb2.mono hbW.size)
            have hlx2 := hXx2.lt
            have hl2 := hX2.lt
            obtain ⟨x0, x1, x2, x3, _, _, _, _⟩ := hXx2.four
            go_wp2_with fail
            refine (read_o _ ⟨l', wt', arm', false⟩ 0 _ (hDx2.alloc _) (by show wt'.length ≤ _; omega) (s := M.get ⟨l', wt', arm', false⟩ 0) (r := true) (by have hl5 := HL.out; simp [M.read, M.can, hasB, hl5])).mono ?_
            rintro e w3 ⟨rfl, hb3⟩
            clear x0 x1 x2 x3
            have hX3 := (hX2.alloc (.cells #[.slice Af 5 cf, .slice A1f (0) c1f, .int .i64 arm', .bool false] 28)).below hb3 (by simp; omega)
            have hXx3 := (hXx2.alloc (.cells #[.slice Af 5 cf, .slice A1f (0) c1f, .int .i64 arm', .bool false] 28)).below hb3 (by simp; omega)
            have hDx3 := (hDx2.alloc (.cells #[.slice Af 5 cf, .slice A1f (0) c1f, .int .i64 arm', .bool false] 28)).below hb3
            have hbW3 := (hbW2.alloc hbW2.size (.cells #[.slice Af 5 cf, .slice A1f (0) c1f, .int .i64 arm', .bool false] 28)).trans (hb3.mono (by have := hbW2.size; simp; omega))
            obtain ⟨x0, x1, x2, x3, _, _, _, _⟩ := hXx3.four
            obtain ⟨r0, r1, r2, r3, s0, s1, s2, s3⟩ := hX3.four
            have HN := Lib.hid hn
            clear hn
            go_wp2
            go_roundw
            case rel => exact ⟨k + 1, by omega, by go_num, ⟨l', wt', arm', false⟩, A', c', A1', c1', hG', by rw [HN.out]; exact hX3.put4 _ _ _ _, by rw [HN.out]; exact hDx3.far4 hX3 _ _ _ _, below_set4 hbW3 hgw _ _ _ _⟩
            case measure => simp [intOf]; omega
          · have e1 : decide (k < a) = false := by simp; omega
            have e2 : decide (a ≤ k) = true := by simp; omega
            have hn : wt'.length = a + 1 := by have := HW.out; omega
            have b1 : decide ((k : Int) < (a : Int)) = false := by simp; omega
            have b2 : decide ((a : Int) ≤ (k : Int)) = true := by simp; omega
            have hmin : ∀ (w : World) (ts : Array TypeId) (t : TypeId), (Builtin.min_ ts t #[.int .i64 (k : Int), .int .i64 (a : Int)]).run Try.prog w = .ok (.int .i64 (a : Int)) w := by
              intro w ts t
              have e : (if a < k then (a : Int) else (k : Int)) = (a : Int) := by split <;> omega
              simp [Builtin.min_, Builtin.min2, e]
            rw [e1]
            rw [e2, hn] at hXx hDx
            rw [e2] at hG'
            clear hka
            obtain ⟨x0, x1, x2, x3, _, _, _, _⟩ := hXx.four
            have hlx := hXx.lt
            go_wp2_with fail
            refine (flush_o _ ⟨l', wt', arm', true⟩ _ hDx (by show l'.length ≤ _; rw [HL.out]; decide) (by show wt'.length ≤ _; omega) (show M.flush ⟨l', wt', arm', true⟩ = (⟨l', wt', arm', true⟩, false) from rfl) (n0 := 5) (n1 := a + 1) HL.out hn).mono ?_
            rintro e w2 ⟨Af, cf, A1f, c1f, rfl, _, hb2⟩
            clear x0 x1 x2 x3
            have hX2 := hX.below hb2 hX.lt
            have hXx2 := hXx.below hb2 hlx
            have hDx2 := hDx.below hb2
            have hbW2 := hbW.trans (hb2.mono hbW.size)
            have hlx2 := hXx2.lt
            have hl2 := hX2.lt
            obtain ⟨x0, x1, x2, x3, _, _, _, _⟩ := hXx2.four
            go_wp2_with fail
            refine (read_o _ ⟨l', wt', arm', true⟩ 0 _ (hDx2.alloc _) (by show wt'.length ≤ _; omega) (s := ByteArray.empty) (r := false) (by simp [M.read, M.can])).mono ?_
            rintro e w3 ⟨rfl, hb3⟩
            clear x0 x1 x2 x3
            have hX3 := (hX2.alloc (.cells #[.slice Af 5 cf, .slice A1f (a + 1) c1f, .int .i64 arm', .bool true] 28)).below hb3 (by simp; omega)
            have hXx3 := (hXx2.alloc (.cells #[.slice Af 5 cf, .slice A1f (a + 1) c1f, .int .i64 arm', .bool true] 28)).below hb3 (by simp; omega)
            have hDx3 := (hDx2.alloc (.cells #[.slice Af 5 cf, .slice A1f (a + 1) c1f, .int .i64 arm', .bool true] 28)).below hb3
            have hbW3 := (hbW2.alloc hbW2.size (.cells #[.slice Af 5 cf, .slice A1f (a + 1) c1f, .int .i64 arm', .bool true] 28)).trans (hb3.mono (by have := hbW2.size; simp; omega))
            obtain ⟨x0, x1, x2, x3, _, _, _, _⟩ := hXx3.four
            obtain ⟨r0, r1, r2, r3, s0, s1, s2, s3⟩ := hX3.four
            have HN := Lib.hid hn
            clear hn
            go_wp2
            go_roundw
            case rel => exact ⟨k + 1, by omega, by go_num, ⟨l', wt', arm', true⟩, A', c', A1', c1', hG', by rw [HN.out]; exact hX3.put4 _ _ _ _, by rw [HN.out]; exact hDx3.far4 hX3 _ _ _ _, below_set4 hbW3 hgw _ _ _ _⟩
            case measure => simp [intOf]; omega
      · go_wp2
        go_ret
        exact ⟨rfl, hbW⟩

end Go.Proofs.Ytgoggancldipcaa
