/-
  The walk of NameAll.
-/
import Derived.Test.YthghlpencjjjlaaDoorNl
import Derived.Test.YthghlpencjjjlaaDoorNp
namespace Go.Proofs.YthghlpencjjjlaaDoor
open Go.RowKit Go.Joins

theorem all_out (s : ByteArray) (A : Option Addr) (n1 c1 m : Nat) (W : World) (hM : Ml W) (h : 80 < s.size ∨ 8 < n1) : Calls Tryd.prog 3 #[.string s, .slice A n1 c1, .int .u8 (m : Int)] W fun e w' => e = .returned (.bool true) ∧ Below W.heap.size W w' := by
  have hb := begun_any W hM
  generalize hz : s.size = z at *
  by_cases h1 : 80 < z
  · have h1' : (80 : Int) < (z : Int) := by omega
    clear h
    go_enter Tryd.func3, Tryd.ntmps3
    go_wp2_with fail
    refine hb.mono ?_
    rintro e w1 ⟨rfl, hB⟩
    go_wp2
    go_ret
    exact ⟨rfl, hB⟩
  · have h1' : ¬ (80 : Int) < (z : Int) := by omega
    have h2' : (8 : Int) < (n1 : Int) := by omega
    clear h
    go_enter Tryd.func3, Tryd.ntmps3
    go_wp2_with fail
    refine hb.mono ?_
    rintro e w1 ⟨rfl, hB⟩
    go_wp2
    go_ret
    exact ⟨rfl, hB⟩

set_option maxRecDepth 100000 in
set_option maxHeartbeats 8000000 in
theorem nall_any (s : ByteArray) (A : Option Addr) (n1 c1 m : Nat) (bs : List Nat) (W : World) (hM : Ml W) (hm : m < 256) (hx : Tx W (.slice A n1 c1) bs) (hl : bs.length = n1) (hs : s.size ≤ 80) (hn8 : n1 ≤ 8) : Calls Tryd.prog 3 #[.string s, .slice A n1 c1, .int .u8 (m : Int)] W fun e w' => e = .returned (.bool true) ∧ Below W.heap.size W w' := by
  have hb := begun_any W hM
  have hs1 : ¬ (80 : Int) < (s.size : Int) := by omega
  have hs2 : ¬ (8 : Int) < (n1 : Int) := by omega
  have HX := Lib.hid hx
  have HW := Lib.hid hM
  have HLn := Lib.hid hl
  clear hx hM hl
  go_enter Tryd.func3, Tryd.ntmps3
  go_wp2_with fail
  refine hb.mono ?_
  rintro e w1 ⟨rfl, hB1⟩
  clear hb
  have hmd := made_any A n1 c1 w1
  have HX1 := Lib.hid (HX.out.below hB1)
  clear HX
  go_wp2_with fail
  refine hmd.mono ?_
  rintro e w2 ⟨g, rfl, hg, hbx, hB2⟩
  have hmp := mpath_any w1 _ n1 c1 bs HX1.out HLn.out g 0 w2 hB2 hg hbx (Nat.zero_le _)
  clear hmd hbx hB2
  go_wp2_with fail
  refine hmp.mono ?_
  rintro e w3 ⟨p1, j1, rfl, hp1, hj1, hbx, hB2⟩
  clear hmp
  have hmp := mpath_any w1 _ n1 c1 bs HX1.out HLn.out g j1 w3 hB2 hg hbx hj1
  clear hbx hB2
  go_wp2_with fail
  refine hmp.mono ?_
  rintro e w4 ⟨p2, j2, rfl, hp2, hj2, hbx, hB2⟩
  clear hmp
  have hmp := mpath_any w1 _ n1 c1 bs HX1.out HLn.out g j2 w4 hB2 hg hbx hj2
  clear hbx hB2
  go_wp2_with fail
  refine hmp.mono ?_
  rintro e w4 ⟨p3, j3, rfl, hp3, _, _, hB2⟩
  clear hmp
  have hb4 := hB1.trans (hB2.mono hB1.size)
  have a1 : ¬ 9223372036854775807 < p2.size + p3.size := by omega
  have a2 : ¬ 9223372036854775807 < 1 + s.size := by omega
  have a3 : ¬ 9223372036854775807 < s.size + 1 := by omega
  have z4 : (({ data := #[47] } : ByteArray) ++ s).size = 1 + s.size := by rw [ByteArray.size_append]; rfl
  have a4 : ¬ 9223372036854775807 < (({ data := #[47] } : ByteArray) ++ s).size + 2 := by rw [z4]; omega
  have a5 : ¬ 9223372036854775807 < 1 + s.size + 2 := by omega
  have hz3 : (p2 ++ p3).size ≤ 65535 := by rw [ByteArray.size_append]; omega
  have hz4 : (({ data := #[47] } : ByteArray) ++ s).size ≤ 65535 := by rw [z4]; omega
  have hz5 : (s ++ ({ data := #[47] } : ByteArray)).size ≤ 65535 := by
    rw [ByteArray.size_append, show ({ data := #[47] } : ByteArray).size = 1 from rfl]; omega
  have hz6 : (({ data := #[47] } : ByteArray) ++ s ++ ({ data := #[47, 97] } : ByteArray)).size ≤ 65535 := by
    rw [ByteArray.size_append, z4, show ({ data := #[47, 97] } : ByteArray).size = 2 from rfl]; omega
  have hR := Ss.new w4 #[.string s, .string p1, .string (p2 ++ p3), .string (({ data := #[47] } : ByteArray) ++ s), .string (s ++ ({ data := #[47] } : ByteArray)), .string (({ data := #[47] } : ByteArray) ++ s ++ ({ data := #[47, 97] } : ByteArray))] (0, 0) 6 6 w4.heap.size rfl [s, p1, p2 ++ p3, ({ data := #[47] } : ByteArray) ++ s, s ++ ({ data := #[47] } : ByteArray), ({ data := #[47] } : ByteArray) ++ s ++ ({ data := #[47, 97] } : ByteArray)] rfl rfl (by intro z hz; simp only [List.mem_cons, List.not_mem_nil, or_false] at hz; rcases hz with rfl | rfl | rfl | rfl | rfl | rfl <;> omega) (by decide)
  have hb5 := hb4.alloc hb4.size (.cells #[.string s, .string p1, .string (p2 ++ p3), .string (({ data := #[47] } : ByteArray) ++ s), .string (s ++ ({ data := #[47] } : ByteArray)), .string (({ data := #[47] } : ByteArray) ++ s ++ ({ data := #[47, 97] } : ByteArray))] 9)
  have hzz : ∀ z ∈ [s, p1, p2 ++ p3, ({ data := #[47] } : ByteArray) ++ s, s ++ ({ data := #[47] } : ByteArray), ({ data := #[47] } : ByteArray) ++ s ++ ({ data := #[47, 97] } : ByteArray)], z.size ≤ 65535 := by
    intro z hz; simp only [List.mem_cons, List.not_mem_nil, or_false] at hz; rcases hz with rfl | rfl | rfl | rfl | rfl | rfl <;> omega
  have hll : [s, p1, p2 ++ p3, ({ data := #[47] } : ByteArray) ++ s, s ++ ({ data := #[47] } : ByteArray), ({ data := #[47] } : ByteArray) ++ s ++ ({ data := #[47, 97] } : ByteArray)].length = 6 := rfl
  clear hz3 hz4 hz5 hz6 z4 hg HX1 HLn hB2 hb4 hB1
  generalize [s, p1, p2 ++ p3, ({ data := #[47] } : ByteArray) ++ s, s ++ ({ data := #[47] } : ByteArray), ({ data := #[47] } : ByteArray) ++ s ++ ({ data := #[47, 97] } : ByteArray)] = LL at hR hzz hll
  have HR := Lib.hid hR
  have HM5 := Lib.hid (HW.out.below hb5)
  have HB5 := Lib.hid hb5
  have HZ := Lib.hid hzz
  have HLL := Lib.hid hll
  clear hR hb5 hzz hll
  go_wp2
  generalize hw5 : World.alloc w4 _ = w5 at *
  have hz5 : Below w5.heap.size w5 w5 := Below.refl _ _
  obtain ⟨o, ho⟩ : ∃ o, ((m : Int) % 2 == 1) = o := ⟨_, rfl⟩
  clear hw5 a1 a2 a3 a4 a5
  go_loopw [9] (fun i wr => ∃ k : Nat, k ≤ 6 ∧ i = .int .i64 (k : Int) ∧ Below w5.heap.size w5 wr) (fun i _ => 6 - (intOf i).toNat)
  case atStart => exact ⟨0, Nat.zero_le _, rfl, hz5⟩
  case round =>
    clear hz5
    obtain ⟨k, hk, rfl, hBr⟩ := hrel
    by_cases hlt : k < 6
    · obtain ⟨x, hx⟩ : ∃ x, LL[k]? = some x := ⟨_, List.getElem?_eq_getElem (by rw [HLL.out]; exact hlt)⟩
      have hxz := HZ.out x (List.mem_of_getElem? hx)
      have hg := (HR.out.below hBr).cellAt hx
      have cf := parts_any x o wr (HM5.out.below hBr) hxz
      have hkz : (0 : Int) ≤ (k : Int) := by omega
      have hkl : (k : Int) < 6 := by omega
      go_wp2_with fail
      refine cf.mono ?_
      rintro e w6 ⟨v6, rfl, hO6, hB6⟩
      have hb6 := hBr.trans (hB6.mono hBr.size)
      clear cf hg
      have hg := (HR.out.below hb6).cellAt hx
      have ct := rparts_any x o w6 hxz
      obtain ⟨A6, c6, rfl, _⟩ := hO6.form
      have HSP6 := Lib.hid hO6.small
      clear hO6
      go_wp2_with fail
      refine ct.mono ?_
      rintro e w7 ⟨v7, rfl, hO7, hB7⟩
      have hb7 := hb6.trans (hB7.mono hb6.size)
      have HSA := Lib.hid (HSP6.out.below hB7)
      have HSB := Lib.hid hO7.small
      obtain ⟨A7, c7, rfl, _⟩ := hO7.form
      have hst : ∀ W', Below w7.heap.size w7 W' → Calls Tryd.prog 12 #[.slice A6 (PN.pt o x).length c6, .slice A7 (PN.pt o x).length c7] W' fun e w' => e = .returned (.bool true) ∧ Below W'.heap.size W' w' := fun W' h => texts_any _ _ _ W' (HSA.out.below h) (HSB.out.below h)
      have hcw : ∀ W', Below w7.heap.size w7 W' → W'.cell? ⟨w4.heap.size, k, none⟩ = some (.string x) := fun W' h => (HR.out.below (hb7.trans (h.mono hb7.size))).cellAt hx
      have hm1 := may_any x
      have hm2 := fun W' => rmay_any x W' hxz
      have ho1 := own_any x
      have ho2 := fun W' => rown_any x W' hxz
      generalize PN.may x.data.toList = mb at *
      generalize PN.own x.data.toList = ob at *
      generalize PN.is o x = q at *
      clear ct hO7 HSP6 HSA HSB hB7 hB6 hBr hb6 hg hx hxz
      generalize (PN.pt o x).length = L at *
      go_upto_region 12 with fail
      refine wp_region_grow Tryd.checked.mixed (by kernel_rfl) (fun W' => Below w7.heap.size w7 W')
        (fun i v W' => match i with
          | 0 => v = .bool q
          | 1 => v = .bool q
          | 2 => v = .bool false
          | 3 => v = .bool false
          | 4 => v = .slice A6 L c6
          | 5 => v = .slice A7 L c7
          | 6 => v = .bool true
          | 7 => v = .bool false
          | 8 => v = .bool false
          | 9 => v = .bool false
          | 10 => v = .slice (some ⟨w4.heap.size, 0, none⟩) 6 6
          | 11 => v = .int .i64 (k : Int)
          | 12 => v = .pointer (some ⟨w4.heap.size, k, none⟩)
          | 13 => v = .string x
          | 14 => v = .bool mb
          | 15 => v = .slice (some ⟨w4.heap.size, 0, none⟩) 6 6
          | 16 => v = .int .i64 (k : Int)
          | 17 => v = .pointer (some ⟨w4.heap.size, k, none⟩)
          | 18 => v = .string x
          | 19 => v = .bool mb
          | 20 => v = .bool false
          | 21 => v = .bool false
          | 22 => v = .bool false
          | 23 => v = .slice (some ⟨w4.heap.size, 0, none⟩) 6 6
          | 24 => v = .int .i64 (k : Int)
          | 25 => v = .pointer (some ⟨w4.heap.size, k, none⟩)
          | 26 => v = .string x
          | 27 => v = .bool ob
          | 28 => v = .slice (some ⟨w4.heap.size, 0, none⟩) 6 6
          | 29 => v = .int .i64 (k : Int)
          | 30 => v = .pointer (some ⟨w4.heap.size, k, none⟩)
          | 31 => v = .string x
          | 32 => v = .bool ob
          | 33 => v = .bool false
          | _ => v = .bool false) ?hS ?hR ?start ?each ?fin
      case hS =>
        intro W W' h hb
        exact h.trans (hb.mono h.size)
      case hR =>
        intro j v W W' h hb
        rcases j with _ | _ | _ | _ | _ | _ | _ | _ | _ | _ | _ | _ | _ | _ | _ | _ | _ | _ | _ | _ | _ | _ | _ | _ | _ | _ | _ | _ | _ | _ | _ | _ | _ | _ | j <;> first | exact h
      case start => exact (Below.refl _ _).drew
      case each =>
        intro i hi a W' hold hp h6 K hK
        rcases i with _ | _ | _ | _ | _ | _ | _ | _ | _ | _ | _ | _ | _ | _ | _ | _ | _ | _ | _ | _ | _ | _ | _ | _ | _ | _ | _ | _ | _ | _ | _ | _ | _ | _ | i
        · have s := hold 11 rfl
          simp [predsOf, Region.binds, slotV] at hp
          refine wpOp_of rfl rfl ?_
          simp at s
          go_simp
          exact hK _ _ (by simp) (Below.refl _ _) rfl
        · have s := hold 13 rfl
          simp [predsOf, Region.binds, slotV] at hp
          refine wpOp_of rfl rfl ?_
          simp at s
          go_simp
          exact hK _ _ (by simp) (Below.refl _ _) rfl
        · simp [predsOf, Region.binds, slotV] at hp
          refine wpOp_of rfl rfl ?_
          go_simp
          exact hK _ _ (by simp) (Below.refl _ _) (by simp)
        · simp [predsOf, Region.binds, slotV] at hp
          refine wpOp_of rfl rfl ?_
          go_simp
          exact hK _ _ (by simp) (Below.refl _ _) (by simp)
        · have s := hold 10 rfl
          simp [predsOf, Region.binds, slotV] at hp
          have hg := slot_bool (x := a.tmps[73]?) (b := false) (by simp [hp])
          refine wpOp_of rfl (by simp [Region.wanted, yielded, hg]) ?_
          simp at s
          go_simp
          exact hK _ _ (by simp) (Below.refl _ _) rfl
        · have s := hold 12 rfl
          simp [predsOf, Region.binds, slotV] at hp
          have hg := slot_bool (x := a.tmps[73]?) (b := false) (by simp [hp])
          refine wpOp_of rfl (by simp [Region.wanted, yielded, hg]) ?_
          simp at s
          go_simp
          exact hK _ _ (by simp) (Below.refl _ _) rfl
        · simp [predsOf, Region.binds, slotV] at hp
          have hg := slot_bool (x := a.tmps[73]?) (b := false) (by simp [hp])
          refine wpOp_of rfl (by simp [Region.wanted, yielded, hg]) ?_
          go_simp
          refine (hst W' h6).mono ?_
          rintro e W2 ⟨rfl, hB'⟩
          exact hK _ _ (by simp) hB' rfl
        · simp [predsOf, Region.binds, slotV] at hp
          have hg := slot_bool (x := a.tmps[73]?) (b := false) (by simp [hp])
          refine wpOp_of rfl (by simp [Region.wanted, yielded, hg]) ?_
          go_simp
          exact hK _ _ (by simp) (Below.refl _ _) (by simp)
        · simp [predsOf, Region.binds, slotV] at hp
          refine wpOp_of rfl rfl ?_
          go_simp
          exact hK _ _ (by simp) (Below.refl _ _) (by simp)
        · simp [predsOf, Region.binds, slotV] at hp
          refine wpOp_of rfl rfl ?_
          go_simp
          exact hK _ _ (by simp) (Below.refl _ _) (by simp)
        · have s := hold 8 rfl
          simp [predsOf, Region.binds, slotV] at hp
          have hg := slot_bool (x := a.tmps[79]?) (b := false) (by simp [hp])
          refine wpOp_of rfl (by simp [Region.wanted, yielded, hg]) ?_
          simp at s
          go_simp
          exact hK _ _ (by simp) (Below.refl _ _) rfl
        · have s := hold 9 rfl
          simp [predsOf, Region.binds, slotV] at hp
          have hg := slot_bool (x := a.tmps[79]?) (b := false) (by simp [hp])
          refine wpOp_of rfl (by simp [Region.wanted, yielded, hg]) ?_
          simp at s
          go_simp
          exact hK _ _ (by simp) (Below.refl _ _) rfl
        · simp [predsOf, Region.binds, slotV] at hp
          have hg := slot_bool (x := a.tmps[79]?) (b := false) (by simp [hp])
          refine wpOp_of rfl (by simp [Region.wanted, yielded, hg]) ?_
          go_simp
          exact hK _ _ (by simp) (Below.refl _ _) rfl
        · simp [predsOf, Region.binds, slotV] at hp
          have hg := slot_bool (x := a.tmps[79]?) (b := false) (by simp [hp])
          refine wpOp_of rfl (by simp [Region.wanted, yielded, hg]) ?_
          have hc := hcw W' h6
          go_simp
          exact hK _ _ (by simp) (Below.refl _ _) rfl
        · simp [predsOf, Region.binds, slotV] at hp
          have hg := slot_bool (x := a.tmps[79]?) (b := false) (by simp [hp])
          refine wpOp_of rfl (by simp [Region.wanted, yielded, hg]) ?_
          go_simp
          refine (hm1 W').mono ?_
          rintro e W2 ⟨rfl, hB'⟩
          rw [hB']
          exact hK _ _ (by simp) (Below.refl _ _) rfl
        · have s := hold 8 rfl
          simp [predsOf, Region.binds, slotV] at hp
          have hg := slot_bool (x := a.tmps[79]?) (b := false) (by simp [hp])
          refine wpOp_of rfl (by simp [Region.wanted, yielded, hg]) ?_
          simp at s
          go_simp
          exact hK _ _ (by simp) (Below.refl _ _) rfl
        · have s := hold 9 rfl
          simp [predsOf, Region.binds, slotV] at hp
          have hg := slot_bool (x := a.tmps[79]?) (b := false) (by simp [hp])
          refine wpOp_of rfl (by simp [Region.wanted, yielded, hg]) ?_
          simp at s
          go_simp
          exact hK _ _ (by simp) (Below.refl _ _) rfl
        · simp [predsOf, Region.binds, slotV] at hp
          have hg := slot_bool (x := a.tmps[79]?) (b := false) (by simp [hp])
          refine wpOp_of rfl (by simp [Region.wanted, yielded, hg]) ?_
          go_simp
          exact hK _ _ (by simp) (Below.refl _ _) rfl
        · simp [predsOf, Region.binds, slotV] at hp
          have hg := slot_bool (x := a.tmps[79]?) (b := false) (by simp [hp])
          refine wpOp_of rfl (by simp [Region.wanted, yielded, hg]) ?_
          have hc := hcw W' h6
          go_simp
          exact hK _ _ (by simp) (Below.refl _ _) rfl
        · simp [predsOf, Region.binds, slotV] at hp
          have hg := slot_bool (x := a.tmps[79]?) (b := false) (by simp [hp])
          refine wpOp_of rfl (by simp [Region.wanted, yielded, hg]) ?_
          go_simp
          refine (hm2 W').mono ?_
          rintro e W2 ⟨rfl, hB'⟩
          rw [hB']
          exact hK _ _ (by simp) (Below.refl _ _) rfl
        · simp [predsOf, Region.binds, slotV] at hp
          have hg := slot_bool (x := a.tmps[79]?) (b := false) (by simp [hp])
          refine wpOp_of rfl (by simp [Region.wanted, yielded, hg]) ?_
          go_simp
          exact hK _ _ (by simp) (Below.refl _ _) (by simp)
        · simp [predsOf, Region.binds, slotV] at hp
          refine wpOp_of rfl rfl ?_
          go_simp
          exact hK _ _ (by simp) (Below.refl _ _) (by simp)
        · simp [predsOf, Region.binds, slotV] at hp
          refine wpOp_of rfl rfl ?_
          go_simp
          exact hK _ _ (by simp) (Below.refl _ _) (by simp)
        · have s := hold 8 rfl
          simp [predsOf, Region.binds, slotV] at hp
          have hg := slot_bool (x := a.tmps[92]?) (b := false) (by simp [hp])
          refine wpOp_of rfl (by simp [Region.wanted, yielded, hg]) ?_
          simp at s
          go_simp
          exact hK _ _ (by simp) (Below.refl _ _) rfl
        · have s := hold 9 rfl
          simp [predsOf, Region.binds, slotV] at hp
          have hg := slot_bool (x := a.tmps[92]?) (b := false) (by simp [hp])
          refine wpOp_of rfl (by simp [Region.wanted, yielded, hg]) ?_
          simp at s
          go_simp
          exact hK _ _ (by simp) (Below.refl _ _) rfl
        · simp [predsOf, Region.binds, slotV] at hp
          have hg := slot_bool (x := a.tmps[92]?) (b := false) (by simp [hp])
          refine wpOp_of rfl (by simp [Region.wanted, yielded, hg]) ?_
          go_simp
          exact hK _ _ (by simp) (Below.refl _ _) rfl
        · simp [predsOf, Region.binds, slotV] at hp
          have hg := slot_bool (x := a.tmps[92]?) (b := false) (by simp [hp])
          refine wpOp_of rfl (by simp [Region.wanted, yielded, hg]) ?_
          have hc := hcw W' h6
          go_simp
          exact hK _ _ (by simp) (Below.refl _ _) rfl
        · simp [predsOf, Region.binds, slotV] at hp
          have hg := slot_bool (x := a.tmps[92]?) (b := false) (by simp [hp])
          refine wpOp_of rfl (by simp [Region.wanted, yielded, hg]) ?_
          go_simp
          refine (ho1 W').mono ?_
          rintro e W2 ⟨rfl, hB'⟩
          rw [hB']
          exact hK _ _ (by simp) (Below.refl _ _) rfl
        · have s := hold 8 rfl
          simp [predsOf, Region.binds, slotV] at hp
          have hg := slot_bool (x := a.tmps[92]?) (b := false) (by simp [hp])
          refine wpOp_of rfl (by simp [Region.wanted, yielded, hg]) ?_
          simp at s
          go_simp
          exact hK _ _ (by simp) (Below.refl _ _) rfl
        · have s := hold 9 rfl
          simp [predsOf, Region.binds, slotV] at hp
          have hg := slot_bool (x := a.tmps[92]?) (b := false) (by simp [hp])
          refine wpOp_of rfl (by simp [Region.wanted, yielded, hg]) ?_
          simp at s
          go_simp
          exact hK _ _ (by simp) (Below.refl _ _) rfl
        · simp [predsOf, Region.binds, slotV] at hp
          have hg := slot_bool (x := a.tmps[92]?) (b := false) (by simp [hp])
          refine wpOp_of rfl (by simp [Region.wanted, yielded, hg]) ?_
          go_simp
          exact hK _ _ (by simp) (Below.refl _ _) rfl
        · simp [predsOf, Region.binds, slotV] at hp
          have hg := slot_bool (x := a.tmps[92]?) (b := false) (by simp [hp])
          refine wpOp_of rfl (by simp [Region.wanted, yielded, hg]) ?_
          have hc := hcw W' h6
          go_simp
          exact hK _ _ (by simp) (Below.refl _ _) rfl
        · simp [predsOf, Region.binds, slotV] at hp
          have hg := slot_bool (x := a.tmps[92]?) (b := false) (by simp [hp])
          refine wpOp_of rfl (by simp [Region.wanted, yielded, hg]) ?_
          go_simp
          refine (ho2 W').mono ?_
          rintro e W2 ⟨rfl, hB'⟩
          rw [hB']
          exact hK _ _ (by simp) (Below.refl _ _) rfl
        · simp [predsOf, Region.binds, slotV] at hp
          have hg := slot_bool (x := a.tmps[92]?) (b := false) (by simp [hp])
          refine wpOp_of rfl (by simp [Region.wanted, yielded, hg]) ?_
          go_simp
          exact hK _ _ (by simp) (Below.refl _ _) (by simp)
        · have i0 : i = 0 := by simp at hi; omega
          subst i0
          simp [predsOf, Region.binds, slotV] at hp
          refine wpOp_of rfl rfl ?_
          go_simp
          exact hK _ _ (by simp) (Below.refl _ _) (by simp)
      case fin =>
        intro vs W' hRs h6
        have hr := hRs 34 (by decide)
        simp at hr
        simp only [putAll, List.foldl_cons, List.foldl_nil, Act.put, List.setIfInBounds_toArray, List.set_cons_succ, List.set_cons_zero, hr]
        clear hRs hr hcw hst hm1 hm2 ho1 ho2
        go_wp2
        go_roundw
        case rel => exact ⟨k + 1, by omega, by go_num, hb7.trans (h6.mono hb7.size)⟩
        case measure => simp [intOf]; omega
    · go_wp2
      go_ret
      exact ⟨rfl, HB5.out.trans (hBr.mono HB5.out.size)⟩
end Go.Proofs.YthghlpencjjjlaaDoor
