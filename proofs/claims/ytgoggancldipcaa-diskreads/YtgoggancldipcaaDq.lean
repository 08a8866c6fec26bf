/-
  The law DiskReads: its walk.
-/
import Derived.Test.YtgoggancldipcaaDp
import Derived.Deep.RegionWith
namespace Go.Proofs.Ytgoggancldipcaa
open Go.RowKit

def lastTo (k : Nat) : Array Value := #[.string (if 0 < k then blank else ⟨#[]⟩), .string (if 1 < k then blank else ⟨#[]⟩), .string (if 2 < k then blank else ⟨#[]⟩), .string (if 3 < k then blank else ⟨#[]⟩)]
theorem lastTo_at (k : Nat) (hk : k < 4) : (lastTo k)[k]? = some (.string ⟨#[]⟩) := by
  rcases (by omega : k = 0 ∨ k = 1 ∨ k = 2 ∨ k = 3) with rfl | rfl | rfl | rfl <;> rfl
theorem lastTo_set (k : Nat) (hk : k < 4) : (lastTo k).setIfInBounds k (.string blank) = lastTo (k + 1) := by
  rcases (by omega : k = 0 ∨ k = 1 ∨ k = 2 ∨ k = 3) with rfl | rfl | rfl | rfl <;> rfl

/-- What holds at the head of each round: the disk's box, the texts' box. -/
def RInv (w wr : World) (g gl n : Nat) : Prop :=
  ∃ d L A c A1 c1, Good 4 d L n ∧ Bx wr g 28 #[.slice A 4 c, .slice A1 d.wait.length c1, .int .i64 0, .bool false] ∧ IsD wr (.agg #[.slice A 4 c, .slice A1 d.wait.length c1, .int .i64 0, .bool false]) d ∧
    Bx wr gl 46 (L.map Value.string).toArray ∧ Below w.heap.size w wr

set_option maxRecDepth 100000 in
set_option maxHeartbeats 4000000 in
theorem reads_any (A : Option Addr) (len cap : Nat) (zs : List Int) (w : World) (h : Sl w 3 (.slice A len cap) len (zs.map (Value.int .u8))) (hz : zs.length = len * 3) (hb : ∀ z ∈ zs, 0 ≤ z ∧ z ≤ 255) :
    Calls Try.prog 7 #[.slice A len cap] w fun e w' => e = .returned (.bool true) ∧ Below w.heap.size w w' := by
  by_cases h25 : 25 < len
  · have h25' : decide ((25 : Int) < (len : Int)) = true := by simp; omega
    go_enter Try.func7, Try.ntmps7
    go_wp2_with fail
    refine (begun_any _).mono ?_
    rintro e w0 ⟨rfl, hb0⟩
    go_wp2
    go_ret
    exact ⟨rfl, hb0⟩
  · have h25' : decide ((25 : Int) < (len : Int)) = false := by simp; omega
    go_enter Try.func7, Try.ntmps7
    go_wp2_with fail
    refine (begun_any _).mono ?_
    rintro e w0 ⟨rfl, hb0⟩
    go_wp2_with fail
    refine (new_o 4 _ (good_new 4 (by decide) (by decide)).1 (n0 := 4) (n1 := 0) (by simp) rfl).mono ?_
    rintro e w1 ⟨A0, c0, A1, c1, rfl, hD, hb1⟩
    have hbw := hb0.trans (hb1.mono hb0.size)
    clear hb0 hb1
    go_wp2
    have hX := (Bx.new w1 28 #[.slice A0 4 c0, .slice A1 0 c1, .int .i64 0, .bool false]).alloc (.cells #[.string ⟨#[]⟩, .string ⟨#[]⟩, .string ⟨#[]⟩, .string ⟨#[]⟩] 46)
    have hY : Bx ((w1.alloc (.cells #[.slice A0 4 c0, .slice A1 0 c1, .int .i64 0, .bool false] 28)).alloc (.cells #[.string ⟨#[]⟩, .string ⟨#[]⟩, .string ⟨#[]⟩, .string ⟨#[]⟩] 46)) (w1.heap.size + 1) 46 (lastTo 0) := by
      have := Bx.new (w1.alloc (.cells #[.slice A0 4 c0, .slice A1 0 c1, .int .i64 0, .bool false] 28)) 46 #[.string ⟨#[]⟩, .string ⟨#[]⟩, .string ⟨#[]⟩, .string ⟨#[]⟩]
      rw [World.size_alloc] at this
      exact this
    have hDD := (hD.alloc (.cells #[.slice A0 4 c0, .slice A1 0 c1, .int .i64 0, .bool false] 28)).alloc (.cells #[.string ⟨#[]⟩, .string ⟨#[]⟩, .string ⟨#[]⟩, .string ⟨#[]⟩] 46)
    have hbW := (hbw.alloc hbw.size (.cells #[.slice A0 4 c0, .slice A1 0 c1, .int .i64 0, .bool false] 28)).alloc (by have := hbw.size; simp; omega) (.cells #[.string ⟨#[]⟩, .string ⟨#[]⟩, .string ⟨#[]⟩, .string ⟨#[]⟩] 46)
    have hgl : w1.heap.size ≠ w1.heap.size + 1 := by omega
    have hgw : w.heap.size ≤ w1.heap.size := hbw.size
    have hglw : w.heap.size ≤ w1.heap.size + 1 := by omega
    generalize (w1.alloc (.cells #[.slice A0 4 c0, .slice A1 0 c1, .int .i64 0, .bool false] 28)).alloc (.cells #[.string ⟨#[]⟩, .string ⟨#[]⟩, .string ⟨#[]⟩, .string ⟨#[]⟩] 46) = W at hX hY hDD hbW ⊢
    generalize w1.heap.size + 1 = gl at hY hgl hglw ⊢
    generalize w1.heap.size = g at hX hgl hgw ⊢
    clear hD hbw
    go_loopw [5] (fun s wr => ∃ k : Nat, k ≤ 4 ∧ s = .int .i64 k ∧ Bx wr g 28 #[.slice A0 4 c0, .slice A1 0 c1, .int .i64 0, .bool false] ∧ Bx wr gl 46 (lastTo k) ∧ IsD wr (.agg #[.slice A0 4 c0, .slice A1 0 c1, .int .i64 0, .bool false]) ⟨List.replicate 4 blank, [], 0, false⟩ ∧ Below w.heap.size w wr) (fun s _ => 4 - (intOf s).toNat)
    case atStart => exact ⟨0, by omega, rfl, hX, hY, hDD, hbW⟩
    case round =>
      clear hX hY hDD hbW
      obtain ⟨k, hk, rfl, hX, hY, hDD, hbW⟩ := hrel
      by_cases hlt : k < 4
      · have hmk := make64 wr
        have hcv := conv64 wr
        have hc := hY.cell k
        rw [lastTo_at k hlt] at hc
        have hf := hY.frozen k
        have hll := hY.lt
        go_wp2
        go_roundw
        case rel =>
          exact ⟨k + 1, by omega, by go_num, (hX.far (p := ⟨gl, k, none⟩) hgl _).alloc _, by rw [← lastTo_set k hlt]; exact (hY.set k _).alloc _, (hDD.farT hY (by decide) (by decide) k _).alloc _, (hbW.setCell (p := ⟨gl, k, none⟩) hglw _).alloc (by have := hbW.size; simp; omega) _⟩
        case measure => simp [intOf]; omega
      · have hk4 : k = 4 := by omega
        subst hk4
        rw [show ((4 : Nat) : Int) = 4 from rfl]
        have hR : RInv w wr g gl 0 := ⟨_, List.replicate 4 blank, A0, c0, A1, c1, (good_new 4 (by decide) (by decide)).2, hX, hDD, hY, hbW⟩
        clear hX hY hDD hbW
        go_wp2
        go_loopw [6] (fun s wr => ∃ k : Nat, k ≤ len ∧ s = .int .i64 k ∧ RInv w wr g gl k) (fun s _ => len - (intOf s).toNat)
        case atStart => exact ⟨0, by omega, rfl, hR⟩
        case round =>
          clear hR
          obtain ⟨k, hk, rfl, d, L, A0, c0, A1, c1, hG, hX, hD, hY, hbW⟩ := hrel
          by_cases hlt : k < len
          · obtain ⟨b, o, rfl, hbb, hcl⟩ := h.at (by omega)
            obtain ⟨a0, q0⟩ : ∃ x, zs[k * 3]? = some x := ⟨_, List.getElem?_eq_getElem (by omega)⟩
            obtain ⟨a1, q1⟩ : ∃ x, zs[k * 3 + 1]? = some x := ⟨_, List.getElem?_eq_getElem (by omega)⟩
            obtain ⟨a2, q2⟩ : ∃ x, zs[k * 3 + 2]? = some x := ⟨_, List.getElem?_eq_getElem (by omega)⟩
            have b0 := hb a0 (List.mem_of_getElem? q0)
            have b1 := hb a1 (List.mem_of_getElem? q1)
            have b2 := hb a2 (List.mem_of_getElem? q2)
            have e0 := (hbW.cell (p := ⟨b, o + k * 3, none⟩) hbb).trans (hcl (k * 3) (by omega))
            have e1 := (hbW.cell (p := ⟨b, o + (k * 3 + 1), none⟩) hbb).trans (hcl (k * 3 + 1) (by omega))
            have e2 := (hbW.cell (p := ⟨b, o + (k * 3 + 2), none⟩) hbb).trans (hcl (k * 3 + 2) (by omega))
            rw [List.getElem?_map, q0, Option.map_some] at e0
            rw [List.getElem?_map, q1, Option.map_some, ← Nat.add_assoc] at e1
            rw [List.getElem?_map, q2, Option.map_some, ← Nat.add_assoc] at e2
            obtain ⟨b0, b0'⟩ := b0
            obtain ⟨b1, b1'⟩ := b1
            obtain ⟨b2, b2'⟩ := b2
            clear q0 q1 q2 hcl
            go_upto_if 37 with fail
            obtain ⟨x0, x1, x2, x3, y0, y1, y2, y3⟩ := hX.four
            have hlX := hX.lt
            have hlY := hY.lt
            go_cut [7] (fun s7 wx => s7 = .bool true ∧ RInv w wx g gl (k + 1))
            case first =>
              by_cases h0 : a0 % 5 = 0
              · have h0' : (a0 % 5 == 0) = true := by simp [h0]
                clear h0
                have hF := hG.flush
                go_wp2_with fail
                refine (flush_o _ d _ hD (by rw [hG.len]; decide) (by have := hG.wait; omega) hF.1 (n0 := 4) (n1 := 0) (by rw [M.lasting_length]; exact hG.len) rfl).mono ?_
                rintro e w2 ⟨A0', c0', A1', c1', rfl, hD2, hb2⟩
                have hX2 := hX.below hb2 hlX
                have hY2 := hY.below hb2 hlY
                have hbW2 := hbW.trans (hb2.mono hbW.size)
                have HF := Lib.hid hF
                clear x0 x1 x2 x3 y0 y1 y2 y3 hF
                obtain ⟨x0, x1, x2, x3, y0, y1, y2, y3⟩ := hX2.four
                go_wp2
                go_meet
                have hg := HF.out.2
                exact ⟨rfl, _, L, A0', c0', A1', c1', ⟨hg.down, hg.arm, hg.len, hg.lenL, by simp, hg.get⟩, hX2.put4 _ _ _ _, hD2.far4 hX2 _ _ _ _, hY2.far4 (by omega) _ _ _ _, below_set4 hbW2 hgw _ _ _ _⟩
              · have h0' : (a0 % 5 == 0) = false := by simp [h0]
                clear h0
                obtain ⟨j, hj⟩ : ∃ j : Nat, a1 % 4 = j := ⟨(a1 % 4).toNat, by omega⟩
                have hj4 : j < 4 := by omega
                have hjt : a1.tmod 4 = (j : Int) := by rw [Int.tmod_eq_emod_of_nonneg b1]; exact hj
                have hj0 : (0 : Int) ≤ (j : Int) := by omega
                have hj4' : (j : Int) < 4 := by omega
                have hbr : b < wr.heap.size := by have := hbW.size; omega
                have d1 : wr.drew.cell? ⟨b, o + k * 3 + 1, none⟩ = some (.int .u8 a1) := e1
                have d2 : wr.drew.cell? ⟨b, o + k * 3 + 2, none⟩ = some (.int .u8 a2) := e2
                have hLj : (L.map Value.string).toArray[j]? = some (.string (L.getD j ByteArray.empty)) := by simp [hG.lenL, hj4]
                have hbg : b ≠ gl := by omega
                have hbg' : b ≠ g := by omega
                go_upto_region 19 with fail
                go_region_held3 (fun w' => w'.cell? ⟨b, o + k * 3 + 1, none⟩ = some (.int .u8 a1) ∧ w'.cell? ⟨b, o + k * 3 + 2, none⟩ = some (.int .u8 a2))
                  (first | (with_reducible exact ⟨d1, d2⟩) | (with_reducible exact ⟨f1, f2⟩) | (with_reducible exact ⟨g1, g2⟩))
                  ((go_at_call 19; refine (block_f wr a2 b2 b2' _ ?_).mono ?_; exact (Below.refl _ _).drew; rintro e w2 ⟨rfl, hc2, hb2⟩; have f1 := (hb2.cell (p := ⟨b, o + k * 3 + 1, none⟩) hbr).trans e1; have f2 := (hb2.cell (p := ⟨b, o + k * 3 + 2, none⟩) hbr).trans e2; have hY2 := hY.below hb2 hlY; have hc := hY2.cell j; have hcc := hc.trans hLj; have hfz := hY2.frozen j; clear hc; have g1 := (World.cell?_of_block (Below.heap_setCell w2 ⟨gl, j, none⟩ (.string (blk a2)) b hbg) (a := ⟨b, o + k * 3 + 1, none⟩)).trans f1; have g2 := (World.cell?_of_block (Below.heap_setCell w2 ⟨gl, j, none⟩ (.string (blk a2)) b hbg) (a := ⟨b, o + k * 3 + 2, none⟩)).trans f2))
                go_upto_region 20 with fail
                have hW := hG.write j hj4 (blk a2) (blk_size a2)
                have hX3 := (hX.below hb2 hlX).far (p := ⟨gl, j, none⟩) hgl (.string (blk a2))
                have hY3 := hY2.set j (.string (blk a2))
                have hD3 := (hD.below hb2).farT hY2 (by decide) (by decide) j (.string (blk a2))
                have hbW3 := (hbW.trans (hb2.mono hbW.size)).setCell (p := ⟨gl, j, none⟩) hglw (.string (blk a2))
                generalize w2.setCell ⟨gl, j, none⟩ (.string (blk a2)) = W3 at hX3 hY3 hD3 hbW3 g1 g2 ⊢
                clear hX hY hD hb2 hc2 hY2 hcc hfz f1 f2 d1 d2 e0 e1 e2 x0 x1 x2 x3 y0 y1 y2 y3 hLj hbr hlX hlY
                have hs3 := hX3.lt
                have HW := Lib.hid hW
                clear hW
                have hY4 : Bx W3 gl 46 ((L.set j (blk a2)).map Value.string).toArray := by simpa using hY3
                have hwr : IntKind.i64.wrap (j : Int) = (j : Int) := by rw [IntKind.wrap_i64]; omega
                obtain ⟨x0, x1, x2, x3, y0, y1, y2, y3⟩ := hX3.four
                go_region_with (first
                  | (go_at_call 19; refine (block_f W3 a2 b2 b2' _ ?_).mono ?_; exact (Below.refl _ _).drew; rintro e w2 ⟨rfl, hc2, hb2⟩; have hx2 := hX3.below hb2 hs3; have hf2 := hx2.four; obtain ⟨q0, q1, q2, q3, _, _, _, _⟩ := hf2; have f1 := (hb2.cell (p := ⟨b, o + k * 3 + 1, none⟩) (by have := hbW3.size; show b < _; omega)).trans g1)
                  | (go_at_call 17; refine (write_f W3 _ d (j : Int) (blk a2) _ hD3 (by rw [hG.len]; decide) (by have := hG.wait; omega) (by rw [hG.arm]; decide) (by rw [hG.arm]; decide) HW.out.1 (n0 := 4) (n1 := d.wait.length + 1) hG.len (by simp) ?_).mono ?_; exact hb2; rintro e w3 ⟨A', c', A1', c1', rfl, hD4, hc3, hb3⟩; have hx3 := hX3.below hb3 hs3; have hf3 := hx3.four; obtain ⟨p0, p1, p2, p3, _, _, _, _⟩ := hf3))
                all_goals go_wp2_with fail
                all_goals go_meet
                all_goals exact ⟨rfl, _, L.set j (blk a2), A', c', A1', c1', HW.out.2, by rw [List.length_append]; exact hx3.put4 _ _ _ _, by rw [List.length_append]; exact hD4.far4 hx3 _ _ _ _, (hY4.below hb3 hY4.lt).far4 (Ne.symm hgl) _ _ _ _, below_set4 (hbW3.trans (hb3.mono hbW3.size)) hgw _ _ _ _⟩
            case rest =>
              clear hG hX hD hY hbW x0 x1 x2 x3 y0 y1 y2 y3 hlX hlY e0 e1 e2
              obtain ⟨rfl, d, L, A0, c0, A1, c1, hG, hX, hD, hY, hbW⟩ := hcut
              go_wp2
              go_loopw [8] (fun s wx => ∃ q : Nat, q ≤ 4 ∧ s = .int .i64 q ∧ Bx wx g 28 #[.slice A0 4 c0, .slice A1 d.wait.length c1, .int .i64 0, .bool false] ∧ IsD wx (.agg #[.slice A0 4 c0, .slice A1 d.wait.length c1, .int .i64 0, .bool false]) d ∧ Bx wx gl 46 (L.map Value.string).toArray ∧ Below w.heap.size w wx) (fun s _ => 4 - (intOf s).toNat)
              case atStart => exact ⟨0, by omega, rfl, hX, hD, hY, hbW⟩
              case round =>
                clear hX hD hY hbW
                obtain ⟨q, hq, rfl, hX, hD, hY, hbW⟩ := hrel
                by_cases hq4 : q < 4
                · obtain ⟨x0, x1, x2, x3, _, _, _, _⟩ := hX.four
                  have hr := hG.read q hq4
                  have hw := hG.wait
                  have hLq : (L.map Value.string).toArray[q]? = some (.string (L.getD q ByteArray.empty)) := by simp [hG.lenL, hq4]
                  generalize L.getD q ByteArray.empty = t at hr hLq
                  go_wp2_with fail
                  refine (read_o _ d (q : Int) _ hD (by omega) hr).mono ?_
                  rintro e w2 ⟨rfl, hb2⟩
                  have hX2 := hX.below hb2 hX.lt
                  have hY2 := hY.below hb2 hY.lt
                  have hD2 := hD.below hb2
                  have hbW2 := hbW.trans (hb2.mono hbW.size)
                  have hc := (hY2.cell q).trans hLq
                  clear hLq hr x0 x1 x2 x3
                  go_wp2
                  go_roundw
                  case rel => exact ⟨q + 1, by omega, by go_num, hX2, hD2, hY2, hbW2⟩
                  case measure => simp [intOf]; omega
                · have hq4' : q = 4 := by omega
                  subst hq4'
                  go_wp2
                  go_roundw
                  case rel => exact ⟨k + 1, by omega, by go_num, d, L, A0, c0, A1, c1, hG, hX, hD, hY, hbW⟩
                  case measure => simp [intOf]; omega
          · go_wp2
            go_ret
            exact ⟨rfl, hbW⟩

end Go.Proofs.Ytgoggancldipcaa
