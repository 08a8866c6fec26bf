/-
  The law BlockForms: its walk.
-/
import Derived.Test.YtjgjhbgadekceaaKg
namespace Go.Proofs.Ytjgjhbgadekceaa
open Go.RowKit Go.Joins

/-- A block's cells. -/
def bc (x : Int × Int × ByteArray) : List Value := [.int .i64 x.1, .int .i64 x.2.1, .string x.2.2]
def bcs (l : List (Int × Int × ByteArray)) : Array Value := (l.flatMap bc).toArray
theorem bcs_at (l : List (Int × Int × ByteArray)) (j : Nat) (x : Int × Int × ByteArray) (h : l[j]? = some x) :
    (bcs l)[j * 3]? = some (.int .i64 x.1) ∧ (bcs l)[j * 3 + 1]? = some (.int .i64 x.2.1) ∧ (bcs l)[j * 3 + 2]? = some (.string x.2.2) := by
  simp only [bcs, List.getElem?_toArray]
  induction l generalizing j with
  | nil => simp at h
  | cons y l ih =>
    cases j with
    | zero =>
      simp at h
      subst h
      exact ⟨rfl, rfl, rfl⟩
    | succ j =>
      have := ih j (by simpa using h)
      have e : (y :: l).flatMap bc = .int .i64 y.1 :: .int .i64 y.2.1 :: .string y.2.2 :: l.flatMap bc := by simp [bc]
      rw [e, show (j + 1) * 3 = j * 3 + 1 + 1 + 1 by omega]
      exact this

def xs : ByteArray := { data := #[120] }
def goods (L : ByteArray) : List (Int × Int × ByteArray) := [(1, 0, { data := #[] }), (5, 1073741824, L), (3, 0, xs)]
def bads (M : ByteArray) : List (Int × Int × ByteArray) := [(0, 0, { data := #[] }), (6, 0, { data := #[] }), (-1, 0, { data := #[] }), (1, -1, { data := #[] }), (1, 1073741825, { data := #[] }), (1, 0, M)]
theorem goods_may {L : ByteArray} (h : L.size = 55) : ∀ x ∈ goods L, PB.may x.1 x.2.1 x.2.2.size = true ∧ I64 x.1 ∧ I64 x.2.1 := by
  intro x hx
  simp [goods] at hx
  rcases hx with rfl | rfl | rfl
  · exact ⟨by decide, i64_lit (by decide), i64_lit (by decide)⟩
  · exact ⟨by simp [PB.may, PB.known, h], i64_lit (z := 5) (by decide), i64_lit (z := 1073741824) (by decide)⟩
  · exact ⟨by decide, i64_lit (by decide), i64_lit (by decide)⟩
theorem bads_may {M : ByteArray} (h : M.size = 56) : ∀ x ∈ bads M, PB.may x.1 x.2.1 x.2.2.size = false ∧ I64 x.1 ∧ I64 x.2.1 := by
  intro x hx
  simp [bads] at hx
  rcases hx with rfl | rfl | rfl | rfl | rfl | rfl
  · exact ⟨by decide, i64_lit (by decide), i64_lit (by decide)⟩
  · exact ⟨by decide, i64_lit (by decide), i64_lit (by decide)⟩
  · exact ⟨by decide, i64_lit (by decide), i64_lit (by decide)⟩
  · exact ⟨by decide, i64_lit (by decide), i64_lit (by decide)⟩
  · exact ⟨by decide, i64_lit (by decide), i64_lit (by decide)⟩
  · exact ⟨by simp [PB.may, h], i64_lit (z := 1) (by decide), i64_lit (z := 0) (by decide)⟩

def lastS : ByteArray := PB.put 2 1 ab
theorem last_no1 : PB.took (lastS.extract 0 63) = false := by decide +kernel
theorem last_no2 : PB.took (lastS.extract 0 63 ++ xs) = false := by decide +kernel
theorem last_head : lastS.extract 0 8 = { data := #[2, 1, 0, 0, 0, 2, 97, 98] } := by decide +kernel

theorem Bx.newAt (w : World) (t : TypeId) (cs : Array Value) (g : Nat) (hg : g = w.heap.size) : Bx (w.alloc (.cells cs t)) g t cs := by subst hg; exact Bx.new w t cs
/-- Element j of a row of blocks. -/
theorem Bx.elem {w : World} {g : Nat} {l : List (Int × Int × ByteArray)} (h : Bx w g 23 (bcs l)) {j : Nat} {k e : Int} {s : ByteArray} (hj : l[j]? = some (k, e, s)) :
    w.cell? ⟨g, j * 3, none⟩ = some (.int .i64 k) ∧ w.cell? ⟨g, j * 3 + 1, none⟩ = some (.int .i64 e) ∧ w.cell? ⟨g, j * 3 + 2, none⟩ = some (.string s) := by
  obtain ⟨h0, h1, h2⟩ := bcs_at l j _ hj
  exact ⟨(h.cell _).trans h0, (h.cell _).trans h1, (h.cell _).trans h2⟩

set_option maxRecDepth 100000 in
set_option maxHeartbeats 4000000 in
theorem forms_any (w : World) : Calls Try.prog 5 #[] w fun e w' => e = .returned (.bool true) ∧ Below w.heap.size w w' := by
  have hmk := makeN 55 (by decide)
  rw [show (((55 : Nat) : Int)) = 55 from rfl] at hmk
  have hcv := noughts_conv 55 (by decide)
  obtain ⟨L, hL⟩ : ∃ L, noughts 55 = L := ⟨_, rfl⟩
  rw [hL] at hcv
  have hLs : L.size = 55 := by rw [← hL, noughts_size]
  clear hL
  obtain ⟨M, hM⟩ : ∃ M, L ++ { data := #[120] } = M := ⟨_, rfl⟩
  have hMs : M.size = 56 := by rw [← hM, ByteArray.size_append, hLs]; rfl
  obtain ⟨S, hS⟩ : ∃ S, PB.put 2 1 ab = S := ⟨_, rfl⟩
  have hm2 : PB.may 2 1 ab.size = true := by decide
  have s64 : S.size = 64 := by rw [← hS]; exact PB.put_size hm2
  have q1 : PB.took (S.extract 0 63) = false := by rw [← hS]; exact last_no1
  have q2 : PB.took (S.extract 0 63 ++ { data := #[120] }) = false := by rw [← hS]; exact last_no2
  have q3 : S.extract 0 8 = { data := #[2, 1, 0, 0, 0, 2, 97, 98] } := by rw [← hS]; exact last_head
  have q1s : (S.extract 0 63).size = 63 := by rw [ByteArray.size_extract, s64]; rfl
  have q2s : (S.extract 0 63 ++ { data := #[120] }).size = 64 := by rw [ByteArray.size_append, q1s]; rfl
  obtain ⟨S0, e0⟩ : ∃ x, S.extract 0 63 = x := ⟨_, rfl⟩
  rw [e0] at q1 q2 q1s q2s
  obtain ⟨S1, e1⟩ : ∃ x, S0 ++ { data := #[120] } = x := ⟨_, rfl⟩
  rw [e1] at q2 q2s
  have HS := Lib.hid hS
  have Q1 := Lib.hid q1
  have Q2 := Lib.hid q2
  have Q3 := Lib.hid q3
  have Q1S := Lib.hid q1s
  have Q2S := Lib.hid q2s
  have S64 := Lib.hid s64
  have E0 := Lib.hid e0
  have E1 := Lib.hid e1
  clear hS hm2 q1 q2 q3 q1s q2s s64 e0 e1
  go_enter Try.func5, Try.ntmps5
  go_wp2_with fail
  refine (begun_any _).mono ?_
  rintro e w1 ⟨rfl, hb1⟩
  have z1 := hb1.size
  go_upto_region 6 with fail
  have hxg := (Bx.newAt (w1.alloc (.cells (zeroCellsN 55) 5)) 23 (bcs (goods L)) (w1.heap.size + 1) (by simp)).alloc (.cells (bcs (bads M)) 23)
  have hxb := Bx.newAt ((w1.alloc (.cells (zeroCellsN 55) 5)).alloc (.cells (bcs (goods L)) 23)) 23 (bcs (bads M)) (w1.heap.size + 1 + 1) (by simp)
  have hb2 := ((hb1.alloc z1 (.cells (zeroCellsN 55) 5)).alloc (by simp; omega) (.cells (bcs (goods L)) 23)).alloc (by simp; omega) (.cells (bcs (bads M)) 23)
  have hcc : (((w1.alloc (.cells (zeroCellsN 55) 5)).alloc (.cells (bcs (goods L)) 23)).alloc (.cells (bcs (bads M)) 23)) = (((w1.alloc (Obj.cells (zeroCellsN 55) 5)).alloc (.cells #[.int .i64 1, .int .i64 0, .string { data := #[] }, .int .i64 5, .int .i64 1073741824, .string L, .int .i64 3, .int .i64 0, .string { data := #[120] }] 23)).alloc
      (.cells #[.int .i64 0, .int .i64 0, .string { data := #[] }, .int .i64 6, .int .i64 0, .string { data := #[] }, .int .i64 (-1), .int .i64 0, .string { data := #[] }, .int .i64 1, .int .i64 (-1), .string { data := #[] }, .int .i64 1, .int .i64 1073741825, .string { data := #[] }, .int .i64 1, .int .i64 0, .string M] 23)) := rfl
  rw [← hcc]
  clear hcc
  generalize (((w1.alloc (.cells (zeroCellsN 55) 5)).alloc (.cells (bcs (goods L)) 23)).alloc (.cells (bcs (bads M)) 23)) = w2 at hxg hxb hb2 ⊢
  generalize w1.heap.size + 1 + 1 = bd at hxg hxb ⊢
  generalize w1.heap.size + 1 = gd at hxg hxb ⊢
  have HG := Lib.hid hxg
  have HX := Lib.hid hxb
  have z2 := hb2.size
  clear hmk hcv hb1 z1 hxg hxb hM
  go_wp2
  go_loopw [4] (fun ii wr => ∃ j : Nat, j ≤ 3 ∧ ii = .int .i64 (j : Int) ∧ Below w2.heap.size w2 wr) (fun i _ => 3 - (intOf i).toNat)
  case atStart => exact ⟨0, by omega, rfl, Below.refl _ _⟩
  case round =>
    obtain ⟨j, hj, rfl, hBj⟩ := hrel
    by_cases hlt : j < 3
    · obtain ⟨⟨ek, eg, es⟩, hel0⟩ : ∃ x, (goods L)[j]? = some x := ⟨_, List.getElem?_eq_getElem (show j < (goods L).length from hlt)⟩
      obtain ⟨em, rk, rg⟩ := goods_may hLs _ (List.mem_of_getElem? hel0)
      dsimp only at em rk rg
      have hel : ∀ W, Below w2.heap.size w2 W → W.cell? ⟨gd, j * 3, none⟩ = some (.int .i64 ek) ∧ W.cell? ⟨gd, j * 3 + 1, none⟩ = some (.int .i64 eg) ∧ W.cell? ⟨gd, j * 3 + 2, none⟩ = some (.string es) := fun W h => (HG.out.on h).elem hel0
      clear hel0
      obtain ⟨p, hp⟩ : ∃ p, PB.put ek eg es = p := ⟨_, rfl⟩
      have ps := PB.put_size em
      rw [hp] at ps
      obtain ⟨t0, t1, t2, t3⟩ := PB.took_of em hp
      obtain ⟨q0, q1, q2⟩ := hel wr hBj
      have HEL := Lib.hid hel
      have HP := Lib.hid hp
      clear hel hp
      go_wp2_with fail
      refine (bput_any ek eg es rk rg _).mono ?_
      rintro e wr1 ⟨rfl, hB1⟩
      rw [HP.out]
      clear q0 q1 q2
      have hb3 := hBj.trans (hB1.mono hBj.size)
      clear hB1
      go_wp2_with fail
      refine (btake_any p _ (by omega)).mono ?_
      rintro e wr2 ⟨rfl, hB2⟩
      rw [t0, t1, t2, t3]
      have hb4 := hb3.trans (hB2.mono hb3.size)
      have hb5 := hb4.alloc hb4.size (.cells #[.int .i64 ek, .int .i64 eg, .string es] 23)
      have hxy := Bx.new wr2 23 #[.int .i64 ek, .int .i64 eg, .string es]
      clear hB2 hb3 hb4
      go_upto_region 10 with fail
      generalize wr2.alloc (.cells #[.int .i64 ek, .int .i64 eg, .string es] 23) = wy at *
      have hex : ∀ W, Below wy.heap.size wy W → W.cell? ⟨wr2.heap.size, 0, none⟩ = some (.int .i64 ek) ∧ W.cell? ⟨wr2.heap.size, 1, none⟩ = some (.int .i64 eg) ∧ W.cell? ⟨wr2.heap.size, 2, none⟩ = some (.string es) := fun W h => by
        obtain ⟨a, b, c, _⟩ := (hxy.on h).three
        exact ⟨a, b, c⟩
      have hel : ∀ W, Below wy.heap.size wy W → W.cell? ⟨gd, j * 3, none⟩ = some (.int .i64 ek) ∧ W.cell? ⟨gd, j * 3 + 1, none⟩ = some (.int .i64 eg) ∧ W.cell? ⟨gd, j * 3 + 2, none⟩ = some (.string es) := fun W h => HEL.out W (hb5.trans (h.mono hb5.size))
      refine wp_region_grow Try.checked.mixed (by kernel_rfl) (fun W => Below wy.heap.size wy W)
        (fun i v W => match i with
          | 0 => v = .slice (some ⟨gd, 0, none⟩) 3 3
          | 1 => v = .int .i64 (j : Int)
          | 2 => v = .pointer (some ⟨gd, j * 3, none⟩)
          | 3 => v = .agg #[.int .i64 ek, .int .i64 eg, .string es]
          | 4 => v = .bool true
          | 5 => v = .bool false
          | 6 => v = .bool false
          | 7 => v = .bool true
          | 8 => v = .bool false
          | 9 => v = .bool false
          | 10 => v = .bool false
          | 11 => v = .agg #[.int .i64 ek, .int .i64 eg, .string es]
          | 12 => v = .slice (some ⟨gd, 0, none⟩) 3 3
          | 13 => v = .int .i64 (j : Int)
          | 14 => v = .pointer (some ⟨gd, j * 3, none⟩)
          | 15 => v = .agg #[.int .i64 ek, .int .i64 eg, .string es]
          | 16 => v = .bool false
          | _ => v = .bool false) ?hS ?hR ?start ?each ?fin
      case hS =>
        intro W W' h hb
        exact h.trans (hb.mono h.size)
      case hR =>
        intro j v W W' h hb
        rcases j with _ | _ | _ | _ | _ | _ | _ | _ | _ | _ | _ | _ | _ | _ | _ | _ | _ | j <;> first | exact h
      case start => exact (Below.refl _ _).drew
      case each =>
        intro i hi a W hold hp h6 K hK
        rcases i with _ | _ | _ | _ | _ | _ | _ | _ | _ | _ | _ | _ | _ | _ | _ | _ | _ | i
        · have s := hold 2 rfl
          simp [predsOf, Region.binds, slotV] at hp
          refine wpOp_of rfl rfl ?_
          simp at s
          go_simp
          exact hK _ _ (by simp) (Below.refl _ _) rfl
        · have s := hold 4 rfl
          simp [predsOf, Region.binds, slotV] at hp
          refine wpOp_of rfl rfl ?_
          simp at s
          go_simp
          exact hK _ _ (by simp) (Below.refl _ _) rfl
        · simp [predsOf, Region.binds, slotV] at hp
          refine wpOp_of rfl rfl ?_
          go_simp
          exact hK _ _ (by simp) (Below.refl _ _) rfl
        · simp [predsOf, Region.binds, slotV] at hp
          refine wpOp_of rfl rfl ?_
          obtain ⟨q0, q1, q2⟩ := hel W h6
          go_simp
          exact hK _ _ (by simp) (Below.refl _ _) rfl
        · simp [predsOf, Region.binds, slotV] at hp
          refine wpOp_of rfl rfl ?_
          go_simp
          refine (may_any ek eg es W).mono ?_
          rintro e W' ⟨rfl, hB'⟩
          rw [em]
          exact hK _ _ (by simp) hB' rfl
        · simp [predsOf, Region.binds, slotV] at hp
          refine wpOp_of rfl rfl ?_
          go_simp
          exact hK _ _ (by simp) (Below.refl _ _) (by simp)
        · simp [predsOf, Region.binds, slotV] at hp
          refine wpOp_of rfl rfl ?_
          go_simp
          exact hK _ _ (by simp) (Below.refl _ _) (by simp)
        · have s := hold 6 rfl
          simp [predsOf, Region.binds, slotV] at hp
          have hg := slot_bool (x := a.tmps[52]?) (b := false) (by simp [hp])
          refine wpOp_of rfl (by simp [Region.wanted, yielded, hg]) ?_
          simp at s
          go_simp
          exact hK _ _ (by simp) (Below.refl _ _) rfl
        · simp [predsOf, Region.binds, slotV] at hp
          have hg := slot_bool (x := a.tmps[52]?) (b := false) (by simp [hp])
          refine wpOp_of rfl (by simp [Region.wanted, yielded, hg]) ?_
          go_simp
          exact hK _ _ (by simp) (Below.refl _ _) (by simp)
        · simp [predsOf, Region.binds, slotV] at hp
          refine wpOp_of rfl rfl ?_
          go_simp
          exact hK _ _ (by simp) (Below.refl _ _) (by simp)
        · simp [predsOf, Region.binds, slotV] at hp
          refine wpOp_of rfl rfl ?_
          go_simp
          exact hK _ _ (by simp) (Below.refl _ _) (by simp)
        · have s := hold 5 rfl
          simp [predsOf, Region.binds, slotV] at hp
          have hg := slot_bool (x := a.tmps[56]?) (b := false) (by simp [hp])
          refine wpOp_of rfl (by simp [Region.wanted, yielded, hg]) ?_
          simp at s
          obtain ⟨q0, q1, q2⟩ := hex W h6
          go_simp
          exact hK _ _ (by simp) (Below.refl _ _) rfl
        · have s := hold 2 rfl
          simp [predsOf, Region.binds, slotV] at hp
          have hg := slot_bool (x := a.tmps[56]?) (b := false) (by simp [hp])
          refine wpOp_of rfl (by simp [Region.wanted, yielded, hg]) ?_
          simp at s
          go_simp
          exact hK _ _ (by simp) (Below.refl _ _) rfl
        · have s := hold 4 rfl
          simp [predsOf, Region.binds, slotV] at hp
          have hg := slot_bool (x := a.tmps[56]?) (b := false) (by simp [hp])
          refine wpOp_of rfl (by simp [Region.wanted, yielded, hg]) ?_
          simp at s
          go_simp
          exact hK _ _ (by simp) (Below.refl _ _) rfl
        · simp [predsOf, Region.binds, slotV] at hp
          have hg := slot_bool (x := a.tmps[56]?) (b := false) (by simp [hp])
          refine wpOp_of rfl (by simp [Region.wanted, yielded, hg]) ?_
          go_simp
          exact hK _ _ (by simp) (Below.refl _ _) rfl
        · simp [predsOf, Region.binds, slotV] at hp
          have hg := slot_bool (x := a.tmps[56]?) (b := false) (by simp [hp])
          refine wpOp_of rfl (by simp [Region.wanted, yielded, hg]) ?_
          obtain ⟨q0, q1, q2⟩ := hel W h6
          go_simp
          exact hK _ _ (by simp) (Below.refl _ _) rfl
        · simp [predsOf, Region.binds, slotV] at hp
          have hg := slot_bool (x := a.tmps[56]?) (b := false) (by simp [hp])
          refine wpOp_of rfl (by simp [Region.wanted, yielded, hg]) ?_
          go_simp
          exact hK _ _ (by simp) (Below.refl _ _) (by simp)
        · have i0 : i = 0 := by simp at hi; omega
          subst i0
          simp [predsOf, Region.binds, slotV] at hp
          refine wpOp_of rfl rfl ?_
          go_simp
          exact hK _ _ (by simp) (Below.refl _ _) (by simp)
      case fin =>
        intro vs W hRs h6
        have hr := hRs 17 (by decide)
        simp at hr
        simp only [putAll, List.foldl_cons, List.foldl_nil, Act.put, List.setIfInBounds_toArray, List.set_cons_succ, List.set_cons_zero, hr]
        clear hRs hr hel hex
        go_wp2
        go_roundw
        case rel => exact ⟨j + 1, by omega, by go_num, hb5.trans (h6.mono hb5.size)⟩
        case measure => simp [intOf]; omega
    · have hj3 : j = 3 := by omega
      subst hj3
      rw [show (((3 : Nat)) : Int) = 3 from rfl]
      go_wp2
      go_loopw [7] (fun ii wr => ∃ j : Nat, j ≤ 6 ∧ ii = .int .i64 (j : Int) ∧ Below w2.heap.size w2 wr) (fun i _ => 6 - (intOf i).toNat)
      case atStart => exact ⟨0, by omega, rfl, hBj⟩
      case round =>
        clear hBj
        obtain ⟨j, hj, rfl, hBj⟩ := hrel
        by_cases hlt : j < 6
        · obtain ⟨⟨ek, eg, es⟩, hel0⟩ : ∃ x, (bads M)[j]? = some x := ⟨_, List.getElem?_eq_getElem (show j < (bads M).length from hlt)⟩
          obtain ⟨em, rk, rg⟩ := bads_may hMs _ (List.mem_of_getElem? hel0)
          dsimp only at em rk rg
          have hel : ∀ W, Below w2.heap.size w2 W → W.cell? ⟨bd, j * 3, none⟩ = some (.int .i64 ek) ∧ W.cell? ⟨bd, j * 3 + 1, none⟩ = some (.int .i64 eg) ∧ W.cell? ⟨bd, j * 3 + 2, none⟩ = some (.string es) := fun W h => (HX.out.on h).elem hel0
          clear hel0
          have hp : PB.put ek eg es = { data := #[] } := by rw [PB.put, em]; rfl
          obtain ⟨q0, q1, q2⟩ := hel wr hBj
          have HEL := Lib.hid hel
          have HP := Lib.hid hp
          clear hel hp
          go_wp2_with fail
          refine (may_any ek eg es _).mono ?_
          rintro e wr1 ⟨rfl, hB1⟩
          rw [em]
          clear q0 q1 q2
          have hb3 := hBj.trans (hB1.mono hBj.size)
          clear hB1
          obtain ⟨q0, q1, q2⟩ := HEL.out wr1 hb3
          go_wp2_with fail
          refine (bput_any ek eg es rk rg _).mono ?_
          rintro e wr2 ⟨rfl, hB2⟩
          rw [HP.out]
          have hb4 := hb3.trans (hB2.mono hb3.size)
          clear hB2 hb3 q0 q1 q2
          go_wp2
          go_roundw
          case rel => exact ⟨j + 1, by omega, by go_num, hb4⟩
          case measure => simp [intOf]; omega
        · have hj6 : j = 6 := by omega
          subst hj6
          rw [show (((6 : Nat)) : Int) = 6 from rfl]
          have hb3 := hb2.trans (hBj.mono z2)
          clear hBj hb2
          go_wp2_with fail
          refine (bput_any 2 1 ab (i64_lit (by decide)) (i64_lit (by decide)) _).mono ?_
          rintro e w4 ⟨rfl, hB4⟩
          rw [HS.out]
          have hb4 := hb3.trans (hB4.mono hb3.size)
          clear hb3 hB4
          have s64 := S64.out
          have q1s := Q1S.out
          have e0 := E0.out
          have e1 := E1.out
          have s64i : (S.size : Int) = 64 := by omega
          go_wp2_with fail
          refine (btake_any S0 _ (by rw [Q1S.out]; decide)).mono ?_
          rintro e w5 ⟨rfl, hB5⟩
          rw [Q1.out]
          have hb5 := (hb4.trans (hB5.mono hb4.size)).alloc (hb4.trans (hB5.mono hb4.size)).size (.cells #[.int .i64 (PB.tk S0), .int .i64 (PB.tg S0), .string (PB.tl S0)] 23)
          clear hb4 hB5
          go_wp2_with fail
          refine (btake_any S1 _ (by rw [Q2S.out]; decide)).mono ?_
          rintro e w6 ⟨rfl, hB6⟩
          rw [Q2.out]
          have hb6 := (hb5.trans (hB6.mono hb5.size)).alloc (hb5.trans (hB6.mono hb5.size)).size (.cells #[.int .i64 (PB.tk S1), .int .i64 (PB.tg S1), .string (PB.tl S1)] 23)
          clear hb5 hB6
          have q3 := Q3.out
          go_wp2
          go_ret
          exact ⟨rfl, hb6⟩
end Go.Proofs.Ytjgjhbgadekceaa
