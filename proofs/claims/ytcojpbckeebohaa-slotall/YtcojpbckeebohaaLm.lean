/-
  Contract: glacislaw5.slots.
-/
import Derived.Test.YtcojpbckeebohaaLl
namespace Go.Proofs.Ytcojpbckeebohaa
open Go.RowKit Go.Joins

namespace PS
/-- The slots of some numbers, five each. -/
def at5 (l : List Nat) (k : Nat) : S := ⟨((l.getD (5 * k) 0 % 9 : Nat) : Int), (l.getD (5 * k + 1) 0 : Nat), (l.getD (5 * k + 2) 0 : Nat), (l.getD (5 * k + 3) 0 : Nat), ((l.getD (5 * k + 4) 0 % 70 : Nat) : Int)⟩
def slotsN (l : List Nat) (k : Nat) : List ByteArray := (List.range k).map fun j => put (at5 l j)
def slots (l : List Nat) : List ByteArray := slotsN l (l.length / 5)
theorem slotsN_length (l : List Nat) (k : Nat) : (slotsN l k).length = k := by simp [slotsN]
theorem slotsN_snoc (l : List Nat) (k : Nat) : slotsN l (k + 1) = slotsN l k ++ [put (at5 l k)] := by simp [slotsN, List.range_succ]
theorem slotsN_le (l : List Nat) (k : Nat) : ∀ s ∈ slotsN l k, s.size ≤ 64 := by
  intro s hs
  obtain ⟨j, _, rfl⟩ := List.mem_map.1 hs
  exact put_le _
end PS

/-- A row of uint16. -/
def Us (w : World) (v : Value) (l : List Nat) : Prop := Sl w 1 v l.length (l.map fun (b : Nat) => Value.int .u16 (b : Int)) ∧ ∀ b ∈ l, b < 65536
theorem Us.below {w w' : World} {v : Value} {l : List Nat} (h : Us w v l) (hb : Below w.heap.size w w') : Us w' v l := ⟨h.1.below hb, h.2⟩
theorem Us.form {w : World} {v : Value} {l : List Nat} (h : Us w v l) : ∃ A c, v = .slice A l.length c := by
  obtain ⟨⟨A, c, hv, _⟩, _⟩ := h
  exact ⟨A, c, hv⟩
theorem Try.info9 : (Try.prog.info? 9).map (fun i => (i.zero, i.size, i.bytes)) = some (some (.string { data := #[] }), 1, 16) := by kernel_rfl
theorem strs_one (l : List ByteArray) : ∀ u ∈ l.map Value.string, u.oneCell' = true := by
  intro u hu
  obtain ⟨s, _, rfl⟩ := List.mem_map.1 hu
  rfl

/-- A row of strings of one's own. -/
def Ro (w : World) (base : Nat) (v : Value) (ss : List ByteArray) : Prop := w.ownsRow base 9 1 v ss.length (ss.map Value.string)
theorem Ro.on {w w' : World} {base : Nat} {v : Value} {ss : List ByteArray} (h : Ro w base v ss) (hb : Below w.heap.size w w') : Ro w' base v ss := by
  refine ⟨h.1, ?_⟩
  rcases h.2 with h0 | ⟨g, cap, cur, hv, hg, hh, hr⟩
  · exact .inl h0
  · exact .inr ⟨g, cap, cur, hv, hg, Bx.on (show Bx w g 9 cur from hh) hb, hr⟩
theorem Ro.row {w : World} {base : Nat} {v : Value} {ss : List ByteArray} (h : Ro w base v ss) (hz : ∀ s ∈ ss, s.size ≤ 1048576) (hm : ss.length ≤ 65536) : Ss w v ss := ⟨Sl.own h, hz, hm⟩

set_option maxRecDepth 100000 in
set_option maxHeartbeats 8000000 in
theorem slots_any (v : Value) (l : List Nat) (w : World) (h : Us w v l) (hl : l.length ≤ 65536) : Calls Try.prog 11 #[v] w fun e w' => ∃ v', e = .returned v' ∧ Ro w' w.heap.size v' (PS.slots l) ∧ Below w.heap.size w w' := by
  obtain ⟨i0, hi, hz0, hz1, hz2⟩ := info_parts Try.info9
  obtain ⟨A, c, rfl⟩ := h.form
  unfold PS.slots
  generalize hL : l.length = L at *
  have HU := Lib.hid h
  clear h
  go_enter Try.func11, Try.ntmps11
  go_wp2
  go_loopw [3, 4] (fun o i wr => ∃ k : Nat, k ≤ L / 5 ∧ i = .int .i64 ((5 * k : Nat) : Int) ∧ Ro wr w.heap.size o (PS.slotsN l k) ∧ Below w.heap.size w wr) (fun _ i _ => L - (intOf i).toNat)
  case atStart => exact ⟨0, Nat.zero_le _, rfl, World.ownsRow_nil _ _ _ _, Below.refl _ _⟩
  case round =>
    obtain ⟨k, hk, rfl, hO, hB⟩ := hrel
    obtain ⟨I, hI⟩ : ∃ I, 5 * k = I := ⟨_, rfl⟩
    rw [hI]
    by_cases hlt : I + 4 < L
    · have hus := HU.out.below hB
      have hsl := hus.1
      rw [hL] at hsl
      obtain ⟨A', c', hv, _, hA⟩ := hsl
      injection hv with e1 e2 e3
      subst e1 e3
      obtain ⟨b0, o, rfl, hb0, hcell⟩ := hA (by omega)
      obtain ⟨x0, hx0⟩ : ∃ x, l[I]? = some x := ⟨_, List.getElem?_eq_getElem (by omega)⟩
      obtain ⟨x1, hx1⟩ : ∃ x, l[I + 1]? = some x := ⟨_, List.getElem?_eq_getElem (by omega)⟩
      obtain ⟨x2, hx2⟩ : ∃ x, l[I + 2]? = some x := ⟨_, List.getElem?_eq_getElem (by omega)⟩
      obtain ⟨x3, hx3⟩ : ∃ x, l[I + 3]? = some x := ⟨_, List.getElem?_eq_getElem (by omega)⟩
      obtain ⟨x4, hx4⟩ : ∃ x, l[I + 4]? = some x := ⟨_, List.getElem?_eq_getElem (by omega)⟩
      have g0 := hcell I (by omega)
      have g1 := hcell (I + 1) (by omega)
      have g2 := hcell (I + 2) (by omega)
      have g3 := hcell (I + 3) (by omega)
      have g4 := hcell (I + 4) (by omega)
      rw [List.getElem?_map, hx0, Option.map_some] at g0
      rw [List.getElem?_map, hx1, Option.map_some] at g1
      rw [List.getElem?_map, hx2, Option.map_some] at g2
      rw [List.getElem?_map, hx3, Option.map_some] at g3
      rw [List.getElem?_map, hx4, Option.map_some] at g4
      have l0 := hus.2 x0 (List.mem_of_getElem? hx0)
      have l1 := hus.2 x1 (List.mem_of_getElem? hx1)
      have l2 := hus.2 x2 (List.mem_of_getElem? hx2)
      have l3 := hus.2 x3 (List.mem_of_getElem? hx3)
      have l4 := hus.2 x4 (List.mem_of_getElem? hx4)
      have hat : PS.at5 l k = ⟨((x0 % 9 : Nat) : Int), (x1 : Int), (x2 : Int), (x3 : Int), ((x4 % 70 : Nat) : Int)⟩ := by
        simp only [PS.at5, hI, List.getD_eq_getElem?_getD, hx0, hx1, hx2, hx3, hx4, Option.getD_some]
      have hnext := PS.slotsN_snoc l k
      rw [hat] at hnext
      have hkl := PS.slotsN_length l k
      have hce : ∀ W, Below wr.heap.size wr W → W.cell? ⟨b0, o + I, none⟩ = some (.int .u16 (x0 : Int)) ∧ W.cell? ⟨b0, o + (I + 1), none⟩ = some (.int .u16 (x1 : Int)) ∧ W.cell? ⟨b0, o + (I + 2), none⟩ = some (.int .u16 (x2 : Int)) ∧ W.cell? ⟨b0, o + (I + 3), none⟩ = some (.int .u16 (x3 : Int)) ∧ W.cell? ⟨b0, o + (I + 4), none⟩ = some (.int .u16 (x4 : Int)) := fun W hW =>
        ⟨(hW.cell hb0).trans g0, (hW.cell hb0).trans g1, (hW.cell hb0).trans g2, (hW.cell hb0).trans g3, (hW.cell hb0).trans g4⟩
      have hpu := rputS_any ⟨((x0 % 9 : Nat) : Int), (x1 : Int), (x2 : Int), (x3 : Int), ((x4 % 70 : Nat) : Int)⟩ (by unfold R5 I64; dsimp only; omega)
      obtain ⟨P, hP⟩ : ∃ P, PS.put ⟨((x0 % 9 : Nat) : Int), (x1 : Int), (x2 : Int), (x3 : Int), ((x4 % 70 : Nat) : Int)⟩ = P := ⟨_, rfl⟩
      rw [hP] at hpu hnext
      simp only [sv] at hpu
      obtain ⟨y0, hy0⟩ : ∃ y, x0 % 9 = y := ⟨_, rfl⟩
      obtain ⟨y4, hy4⟩ : ∃ y, x4 % 70 = y := ⟨_, rfl⟩
      rw [hy0, hy4] at hpu
      have m0 : (x0 : Int).tmod 9 = (y0 : Int) := by rw [← hy0, Int.tmod_eq_emod_of_nonneg (by omega)]; omega
      have m4 : (x4 : Int).tmod 70 = (y4 : Int) := by rw [← hy4, Int.tmod_eq_emod_of_nonneg (by omega)]; omega
      have b00 : y0 < 9 := by omega
      have b04 : y4 < 70 := by omega
      have i0' : I < L := by omega
      have wy0 : IntKind.i64.wrap (y0 : Int) = y0 := by rw [IntKind.wrap_i64]; omega
      have wy4 : IntKind.i64.wrap (y4 : Int) = y4 := by rw [IntKind.wrap_i64]; omega
      have wx1 : IntKind.i64.wrap (x1 : Int) = x1 := by rw [IntKind.wrap_i64]; omega
      have wx2 : IntKind.i64.wrap (x2 : Int) = x2 := by rw [IntKind.wrap_i64]; omega
      have wx3 : IntKind.i64.wrap (x3 : Int) = x3 := by rw [IntKind.wrap_i64]; omega
      have wI1 : IntKind.i64.wrap ((I : Int) + 1) = (I : Int) + 1 := by rw [IntKind.wrap_i64]; omega
      have wI2 : IntKind.i64.wrap ((I : Int) + 2) = (I : Int) + 2 := by rw [IntKind.wrap_i64]; omega
      have wI3 : IntKind.i64.wrap ((I : Int) + 3) = (I : Int) + 3 := by rw [IntKind.wrap_i64]; omega
      have wI4 : IntKind.i64.wrap ((I : Int) + 4) = (I : Int) + 4 := by rw [IntKind.wrap_i64]; omega
      have HN := Lib.hid hnext
      have HKL := Lib.hid hkl
      have HII := Lib.hid hI
      have HO := Lib.hid hO
      clear hcell hA hx0 hx1 hx2 hx3 hx4 g0 g1 g2 g3 g4 hat hnext hkl hP hus hI hO hy0 hy4
      go_upto_region 5 with fail
      refine wp_region_grow Try.checked.mixed (by kernel_rfl) (fun W => Below wr.heap.size wr W)
        (fun i v W => match i with
          | 0 => v = .slice (some ⟨b0, o, none⟩) L c
          | 1 => v = .int .i64 (I : Int)
          | 2 => v = .pointer (some ⟨b0, o + I, none⟩)
          | 3 => v = .int .u16 (x0 : Int)
          | 4 => v = .int .u16 (y0 : Int)
          | 5 => v = .int .i64 (y0 : Int)
          | 6 => v = .slice (some ⟨b0, o, none⟩) L c
          | 7 => v = .int .i64 (I : Int)
          | 8 => v = .int .i64 ((I + 1 : Nat) : Int)
          | 9 => v = .pointer (some ⟨b0, o + (I + 1), none⟩)
          | 10 => v = .int .u16 (x1 : Int)
          | 11 => v = .int .i64 (x1 : Int)
          | 12 => v = .slice (some ⟨b0, o, none⟩) L c
          | 13 => v = .int .i64 (I : Int)
          | 14 => v = .int .i64 ((I + 2 : Nat) : Int)
          | 15 => v = .pointer (some ⟨b0, o + (I + 2), none⟩)
          | 16 => v = .int .u16 (x2 : Int)
          | 17 => v = .int .i64 (x2 : Int)
          | 18 => v = .slice (some ⟨b0, o, none⟩) L c
          | 19 => v = .int .i64 (I : Int)
          | 20 => v = .int .i64 ((I + 3 : Nat) : Int)
          | 21 => v = .pointer (some ⟨b0, o + (I + 3), none⟩)
          | 22 => v = .int .u16 (x3 : Int)
          | 23 => v = .int .i64 (x3 : Int)
          | 24 => v = .slice (some ⟨b0, o, none⟩) L c
          | 25 => v = .int .i64 (I : Int)
          | 26 => v = .int .i64 ((I + 4 : Nat) : Int)
          | 27 => v = .pointer (some ⟨b0, o + (I + 4), none⟩)
          | 28 => v = .int .u16 (x4 : Int)
          | 29 => v = .int .u16 (y4 : Int)
          | 30 => v = .int .i64 (y4 : Int)
          | 31 => v = .agg #[.int .i64 (y0 : Int), .int .i64 (x1 : Int), .int .i64 (x2 : Int), .int .i64 (x3 : Int), .int .i64 (y4 : Int)]
          | 32 => v = .string P
          | _ => v = .string P) ?hS ?hR ?start ?each ?fin
      case hS =>
        intro W W' h hb
        exact h.trans (hb.mono h.size)
      case hR =>
        intro j v W W' h hb
        rcases j with _ | _ | _ | _ | _ | _ | _ | _ | _ | _ | _ | _ | _ | _ | _ | _ | _ | _ | _ | _ | _ | _ | _ | _ | _ | _ | _ | _ | _ | _ | _ | _ | _ | j <;> first | exact h
      case start => exact (Below.refl _ _).drew
      case each =>
        intro i hi a W hold hp h6 K hK
        rcases i with _ | _ | _ | _ | _ | _ | _ | _ | _ | _ | _ | _ | _ | _ | _ | _ | _ | _ | _ | _ | _ | _ | _ | _ | _ | _ | _ | _ | _ | _ | _ | _ | _ | i
        · have s := hold 0 rfl
          simp [predsOf, Region.binds, slotV] at hp
          refine wpOp_of rfl rfl ?_
          simp at s
          go_simp
          exact hK _ _ (by simp) (Below.refl _ _) rfl
        · have s := hold 4 rfl
          simp [predsOf, Region.binds, slotV] at hp
          refine wpOp_of rfl rfl ?_
          simp at s
          go_simp
          exact hK _ _ (by simp) (Below.refl _ _) rfl
        · simp [predsOf, Region.binds, slotV] at hp
          refine wpOp_of rfl rfl ?_
          go_simp
          exact hK _ _ (by simp) (Below.refl _ _) rfl
        · simp [predsOf, Region.binds, slotV] at hp
          refine wpOp_of rfl rfl ?_
          obtain ⟨q0, q1, q2, q3, q4⟩ := hce W h6
          go_simp
          exact hK _ _ (by simp) (Below.refl _ _) rfl
        · simp [predsOf, Region.binds, slotV] at hp
          refine wpOp_of rfl rfl ?_
          go_simp
          exact hK _ _ (by simp) (Below.refl _ _) (by simp)
        · simp [predsOf, Region.binds, slotV] at hp
          refine wpOp_of rfl rfl ?_
          go_simp
          exact hK _ _ (by simp) (Below.refl _ _) (by simp)
        · have s := hold 0 rfl
          simp [predsOf, Region.binds, slotV] at hp
          refine wpOp_of rfl rfl ?_
          simp at s
          go_simp
          exact hK _ _ (by simp) (Below.refl _ _) rfl
        · have s := hold 4 rfl
          simp [predsOf, Region.binds, slotV] at hp
          refine wpOp_of rfl rfl ?_
          simp at s
          go_simp
          exact hK _ _ (by simp) (Below.refl _ _) rfl
        · simp [predsOf, Region.binds, slotV] at hp
          refine wpOp_of rfl rfl ?_
          go_simp
          exact hK _ _ (by simp) (Below.refl _ _) (by simp)
        · simp [predsOf, Region.binds, slotV] at hp
          refine wpOp_of rfl rfl ?_
          go_simp
          rw [if_pos ⟨by omega, by omega⟩]
          go_simp
          exact hK _ _ (by simp) (Below.refl _ _) rfl
        · simp [predsOf, Region.binds, slotV] at hp
          refine wpOp_of rfl rfl ?_
          obtain ⟨q0, q1, q2, q3, q4⟩ := hce W h6
          go_simp
          exact hK _ _ (by simp) (Below.refl _ _) rfl
        · simp [predsOf, Region.binds, slotV] at hp
          refine wpOp_of rfl rfl ?_
          go_simp
          exact hK _ _ (by simp) (Below.refl _ _) (by simp)
        · have s := hold 0 rfl
          simp [predsOf, Region.binds, slotV] at hp
          refine wpOp_of rfl rfl ?_
          simp at s
          go_simp
          exact hK _ _ (by simp) (Below.refl _ _) rfl
        · have s := hold 4 rfl
          simp [predsOf, Region.binds, slotV] at hp
          refine wpOp_of rfl rfl ?_
          simp at s
          go_simp
          exact hK _ _ (by simp) (Below.refl _ _) rfl
        · simp [predsOf, Region.binds, slotV] at hp
          refine wpOp_of rfl rfl ?_
          go_simp
          exact hK _ _ (by simp) (Below.refl _ _) (by simp)
        · simp [predsOf, Region.binds, slotV] at hp
          refine wpOp_of rfl rfl ?_
          go_simp
          rw [if_pos ⟨by omega, by omega⟩]
          go_simp
          exact hK _ _ (by simp) (Below.refl _ _) rfl
        · simp [predsOf, Region.binds, slotV] at hp
          refine wpOp_of rfl rfl ?_
          obtain ⟨q0, q1, q2, q3, q4⟩ := hce W h6
          go_simp
          exact hK _ _ (by simp) (Below.refl _ _) rfl
        · simp [predsOf, Region.binds, slotV] at hp
          refine wpOp_of rfl rfl ?_
          go_simp
          exact hK _ _ (by simp) (Below.refl _ _) (by simp)
        · have s := hold 0 rfl
          simp [predsOf, Region.binds, slotV] at hp
          refine wpOp_of rfl rfl ?_
          simp at s
          go_simp
          exact hK _ _ (by simp) (Below.refl _ _) rfl
        · have s := hold 4 rfl
          simp [predsOf, Region.binds, slotV] at hp
          refine wpOp_of rfl rfl ?_
          simp at s
          go_simp
          exact hK _ _ (by simp) (Below.refl _ _) rfl
        · simp [predsOf, Region.binds, slotV] at hp
          refine wpOp_of rfl rfl ?_
          go_simp
          exact hK _ _ (by simp) (Below.refl _ _) (by simp)
        · simp [predsOf, Region.binds, slotV] at hp
          refine wpOp_of rfl rfl ?_
          go_simp
          rw [if_pos ⟨by omega, by omega⟩]
          go_simp
          exact hK _ _ (by simp) (Below.refl _ _) rfl
        · simp [predsOf, Region.binds, slotV] at hp
          refine wpOp_of rfl rfl ?_
          obtain ⟨q0, q1, q2, q3, q4⟩ := hce W h6
          go_simp
          exact hK _ _ (by simp) (Below.refl _ _) rfl
        · simp [predsOf, Region.binds, slotV] at hp
          refine wpOp_of rfl rfl ?_
          go_simp
          exact hK _ _ (by simp) (Below.refl _ _) (by simp)
        · have s := hold 0 rfl
          simp [predsOf, Region.binds, slotV] at hp
          refine wpOp_of rfl rfl ?_
          simp at s
          go_simp
          exact hK _ _ (by simp) (Below.refl _ _) rfl
        · have s := hold 4 rfl
          simp [predsOf, Region.binds, slotV] at hp
          refine wpOp_of rfl rfl ?_
          simp at s
          go_simp
          exact hK _ _ (by simp) (Below.refl _ _) rfl
        · simp [predsOf, Region.binds, slotV] at hp
          refine wpOp_of rfl rfl ?_
          go_simp
          exact hK _ _ (by simp) (Below.refl _ _) (by simp)
        · simp [predsOf, Region.binds, slotV] at hp
          refine wpOp_of rfl rfl ?_
          go_simp
          exact hK _ _ (by simp) (Below.refl _ _) rfl
        · simp [predsOf, Region.binds, slotV] at hp
          refine wpOp_of rfl rfl ?_
          obtain ⟨q0, q1, q2, q3, q4⟩ := hce W h6
          go_simp
          exact hK _ _ (by simp) (Below.refl _ _) rfl
        · simp [predsOf, Region.binds, slotV] at hp
          refine wpOp_of rfl rfl ?_
          go_simp
          exact hK _ _ (by simp) (Below.refl _ _) (by simp)
        · simp [predsOf, Region.binds, slotV] at hp
          refine wpOp_of rfl rfl ?_
          go_simp
          exact hK _ _ (by simp) (Below.refl _ _) (by simp)
        · simp [predsOf, Region.binds, slotV] at hp
          refine wpOp_of rfl rfl ?_
          go_simp
          exact hK _ _ (by simp) (Below.refl _ _) rfl
        · simp [predsOf, Region.binds, slotV] at hp
          refine wpOp_of rfl rfl ?_
          go_simp
          refine (hpu W).mono ?_
          rintro e W' ⟨rfl, hB'⟩
          exact hK _ _ (by simp) hB' rfl
        · have i0 : i = 0 := by simp at hi; omega
          subst i0
          simp [predsOf, Region.binds, slotV] at hp
          refine wpOp_of rfl rfl ?_
          go_simp
          exact hK _ _ (by simp) (Below.refl _ _) (by simp)
      case fin =>
        intro vs W hRs h6
        have hr := hRs 33 (by decide)
        simp at hr
        simp only [putAll, List.foldl_cons, List.foldl_nil, Act.put, List.setIfInBounds_toArray, List.set_cons_succ, List.set_cons_zero, hr]
        clear hRs hr hce hpu m0 m4 wy0 wy4 wx1 wx2 wx3 wI1 wI2 wI3 wI4
        have hb1 := hB.trans (h6.mono hB.size)
        have hO1 := HO.out.on h6
        have zW := hb1.size
        obtain ⟨Ao, co, rfl⟩ := own_form hO1
        have hO2 := hO1
        unfold Ro at hO2
        rw [HKL.out] at hO2 ⊢
        generalize hXS : (PS.slotsN l k).map Value.string = XS at hO2
        have HXS := Lib.hid hXS
        have hkb : k ≤ 65536 := by omega
        clear hXS hO1 HO
        go_wp2_with (at_builtin; refine wpList_append_sl rfl _ _ 28 rfl w.heap.size 9 i0 (.string { data := #[] }) 1 16 Try.underlying28 hi hz0 hz1 hz2 rfl (by decide) _ _ _ rfl (hO2.alloc _) _ 1 1 _ rfl (Sl.new W _ 9 _ 1 1 _ rfl rfl) ?q1 ?q2 ?q3 ?q4 ?_)
        case q1 => rfl
        case q2 => unfold maxLen; omega
        case q3 => omega
        case q4 => first | omega | (simp; omega)
        intro v' w2 hown hgrow
        have hb2 : Below w.heap.size w w2 := (hb1.alloc zW _).grown hgrow (by simp; omega) (fun k hk => own_ge hO2 hk)
        have hown' : Ro w2 w.heap.size v' (PS.slotsN l (k + 1)) := by
          rw [HN.out]
          unfold Ro
          rw [List.length_append, HKL.out, List.map_append, HXS.out]
          exact hown
        have HW := Lib.hid hown'
        clear hown hown' hgrow hO2
        go_wp2
        go_roundw
        case rel => exact ⟨k + 1, by have := HII.out; omega, by have := HII.out; go_num, HW.out, hb2⟩
        case measure => simp [intOf]; omega
    · have hkn : k = L / 5 := by omega
      have hIL : I ≤ L := by omega
      have hd : decide ((I : Int) + 4 < (L : Int)) = false := by simp; omega
      subst hkn
      have HO := Lib.hid hO
      clear hO hI
      go_wp2
      go_ret
      exact ⟨_, rfl, HO.out, hB⟩
end Go.Proofs.Ytcojpbckeebohaa
