/-
  The law BlockAll: its walk.
-/
import Derived.Test.YtjgjhbgadekceaaKh
import Derived.Test.YtjgjhbgadekceaaKj
import Derived.Test.YtjgjhbgadekceaaKn
namespace Go.Proofs.Ytjgjhbgadekceaa
open Go.RowKit Go.Joins

theorem all_big (K G : Int) (L : ByteArray) (A : Option Addr) (n c : Nat) (s : ByteArray) (a y : Nat) (w : World) (h : 80 < L.size ∨ 5 < n ∨ 80 < s.size) :
    Calls Try.prog 3 #[.agg #[.int .i64 K, .int .i64 G, .string L], .slice A n c, .string s, .int .u8 (a : Int), .int .u8 (y : Int)] w fun e w' => e = .returned (.bool true) ∧ Below w.heap.size w w' := by
  have hx := Bx.new w 23 #[.int .i64 K, .int .i64 G, .string L]
  have hB := al w (.cells #[.int .i64 K, .int .i64 G, .string L] 23)
  obtain ⟨b, hb, hd⟩ : ∃ b, b = true ∧ (decide ((80 : Int) < (L.size : Int)) || decide ((5 : Int) < (n : Int)) || decide ((80 : Int) < (s.size : Int))) = b := ⟨_, rfl, by simp; omega⟩
  subst hb
  go_enter Try.func3, Try.ntmps3
  go_wp2_with fail
  refine (begun_any _).mono ?_
  rintro e w1 ⟨rfl, hb1⟩
  obtain ⟨c0, c1, c2, _⟩ := (hx.on hb1).three
  have hb2 := hB.trans (hb1.mono (by simp))
  clear hx hB hb1
  by_cases h0 : (80 : Int) < (L.size : Int)
  · go_wp2
    go_ret
    exact ⟨rfl, hb2⟩
  have d0 : decide ((80 : Int) < (L.size : Int)) = false := decide_eq_false h0
  by_cases h1 : (5 : Int) < (n : Int)
  · go_wp2
    go_ret
    exact ⟨rfl, hb2⟩
  have d1 : decide ((5 : Int) < (n : Int)) = false := decide_eq_false h1
  have h2 : (80 : Int) < (s.size : Int) := by omega
  go_wp2
  go_ret
  exact ⟨rfl, hb2⟩

set_option maxRecDepth 100000 in
set_option maxHeartbeats 8000000 in
theorem all_any (K0 G0 : Int) (L0 : ByteArray) (A : Option Addr) (n c : Nat) (bs : List Nat) (s : ByteArray) (a y : Nat) (w : World) (rK0 : I64 K0) (rG0 : I64 G0) (hL0 : L0.size ≤ 80) (hv : Tx w (.slice A n c) bs) (hn : bs.length = n) (h5 : n ≤ 5) (hs : s.size ≤ 80) (ha : a < 256) (hy : y < 256) :
    Calls Try.prog 3 #[.agg #[.int .i64 K0, .int .i64 G0, .string L0], .slice A n c, .string s, .int .u8 (a : Int), .int .u8 (y : Int)] w fun e w' => e = .returned (.bool true) ∧ Below w.heap.size w w' := by
  have hx := Bx.new w 23 #[.int .i64 K0, .int .i64 G0, .string L0]
  have hB := al w (.cells #[.int .i64 K0, .int .i64 G0, .string L0] 23)
  have d0 : decide ((80 : Int) < (L0.size : Int)) = false := decide_eq_false (by omega)
  have d1 : decide ((5 : Int) < (n : Int)) = false := decide_eq_false (by omega)
  have d2 : decide ((80 : Int) < (s.size : Int)) = false := decide_eq_false (by omega)
  have HV := Lib.hid hv
  have HN := Lib.hid hn
  clear hv hn
  go_enter Try.func3, Try.ntmps3
  go_wp2_with fail
  refine (begun_any _).mono ?_
  rintro e w1 ⟨rfl, hB1⟩
  have hx1 := hx.on hB1
  have hb1 := hB.trans (hB1.mono (by simp))
  clear hx hB hB1
  obtain ⟨c0, c1, c2, _⟩ := hx1.three
  go_wp2_with fail
  refine (made_any A n c _).mono ?_
  rintro e w2 ⟨g, rfl, hg, hp2, hB2⟩
  clear c0 c1 c2
  go_wp2_with fail
  refine (mblock_any w1 A n c bs (HV.out.below hb1) HN.out g w2 hB2 hg hp2).mono ?_
  rintro e w3 ⟨K, G, L, rfl, bK, bG, bL, hB3⟩
  have hx3 := hx1.on hB3
  have hb3 := hb1.trans (hB3.mono hb1.size)
  have hx4 := hx3.alloc (.cells #[.int .i64 K, .int .i64 G, .string L] 23)
  have hy4 := Bx.new w3 23 #[.int .i64 K, .int .i64 G, .string L]
  have hb4 := hb3.alloc hb3.size (.cells #[.int .i64 K, .int .i64 G, .string L] 23)
  clear hb1 hx1 hp2 hB2 hg hb3 hx3 hB3
  have rK : I64 K := by unfold I64; omega
  have rG : I64 G := by unfold I64; omega
  have mX : PB.may K G L.size = true := PB.may_spec.2 (by omega)
  have HM := Lib.hid mX
  clear mX
  go_upto_region 6 with fail
  generalize w3.alloc (.cells #[.int .i64 K, .int .i64 G, .string L] 23) = w4 at *
  generalize w3.heap.size = gx at *
  obtain ⟨c0, c1, c2, _⟩ := hx4.three
  obtain ⟨e0, e1, e2, _⟩ := hy4.three
  have hl5 := Bx.new w4 23 (bcs [(K0, G0, L0), (K, G, L)])
  have hy5 := hy4.alloc (.cells (bcs [(K0, G0, L0), (K, G, L)]) 23)
  have hb5 := hb4.alloc hb4.size (.cells (bcs [(K0, G0, L0), (K, G, L)]) 23)
  have hcc : w4.alloc (.cells (bcs [(K0, G0, L0), (K, G, L)]) 23) = w4.alloc (.cells #[.int .i64 K0, .int .i64 G0, .string L0, .int .i64 K, .int .i64 G, .string L] 23) := rfl
  clear hx4 hy4 hb4
  go_upto_region 7 with fail
  rw [← hcc]
  clear hcc c0 c1 c2 e0 e1 e2
  generalize w4.alloc (.cells (bcs [(K0, G0, L0), (K, G, L)]) 23) = w5 at *
  generalize w4.heap.size = gl at *
  have HL := Lib.hid hl5
  have HY := Lib.hid hy5
  have z5 := hb5.size
  clear hl5 hy5
  go_wp2
  go_loopw [13] (fun ii wr => ∃ j : Nat, j ≤ 2 ∧ ii = .int .i64 (j : Int) ∧ Below w5.heap.size w5 wr) (fun i _ => 2 - (intOf i).toNat)
  case atStart => exact ⟨0, by omega, rfl, Below.refl _ _⟩
  case round =>
    obtain ⟨j, hj, rfl, hBj⟩ := hrel
    by_cases hlt : j < 2
    · obtain ⟨⟨ek, eg, es⟩, hel0⟩ : ∃ x, [(K0, G0, L0), (K, G, L)][j]? = some x := ⟨_, List.getElem?_eq_getElem (by simpa using hlt)⟩
      have hmem := List.mem_of_getElem? hel0
      have rr : I64 ek ∧ I64 eg := by
        simp at hmem
        rcases hmem with ⟨rfl, rfl, rfl⟩ | ⟨rfl, rfl, rfl⟩
        · exact ⟨rK0, rG0⟩
        · exact ⟨rK, rG⟩
      obtain ⟨rk, rg⟩ := rr
      have hel : ∀ W, Below wr.heap.size wr W → W.cell? ⟨gl, j * 3, none⟩ = some (.int .i64 ek) ∧ W.cell? ⟨gl, j * 3 + 1, none⟩ = some (.int .i64 eg) ∧ W.cell? ⟨gl, j * 3 + 2, none⟩ = some (.string es) := fun W h => (HL.out.on (hBj.trans (h.mono hBj.size))).elem hel0
      clear hel0 hmem
      obtain ⟨M, hM⟩ : ∃ p, PB.may ek eg es.size = p := ⟨_, rfl⟩
      obtain ⟨P, hP⟩ : ∃ p, PB.put ek eg es = p := ⟨_, rfl⟩
      go_upto_region 10 with fail
      refine wp_region_grow Try.checked.mixed (by kernel_rfl) (fun W => Below wr.heap.size wr W)
        (fun i v W => match i with
          | 0 => v = .slice (some ⟨gl, 0, none⟩) 2 2
          | 1 => v = .int .i64 (j : Int)
          | 2 => v = .pointer (some ⟨gl, j * 3, none⟩)
          | 3 => v = .agg #[.int .i64 ek, .int .i64 eg, .string es]
          | 4 => v = .bool M
          | 5 => v = .slice (some ⟨gl, 0, none⟩) 2 2
          | 6 => v = .int .i64 (j : Int)
          | 7 => v = .pointer (some ⟨gl, j * 3, none⟩)
          | 8 => v = .agg #[.int .i64 ek, .int .i64 eg, .string es]
          | 9 => v = .bool M
          | 10 => v = .bool false
          | 11 => v = .bool false
          | 12 => v = .slice (some ⟨gl, 0, none⟩) 2 2
          | 13 => v = .int .i64 (j : Int)
          | 14 => v = .pointer (some ⟨gl, j * 3, none⟩)
          | 15 => v = .agg #[.int .i64 ek, .int .i64 eg, .string es]
          | 16 => v = .string P
          | 17 => v = .slice (some ⟨gl, 0, none⟩) 2 2
          | 18 => v = .int .i64 (j : Int)
          | 19 => v = .pointer (some ⟨gl, j * 3, none⟩)
          | 20 => v = .agg #[.int .i64 ek, .int .i64 eg, .string es]
          | 21 => v = .string P
          | 22 => v = .bool false
          | _ => v = .bool false) ?hS ?hR ?start ?each ?fin
      case hS =>
        intro W W' h hb
        exact h.trans (hb.mono h.size)
      case hR =>
        intro j v W W' h hb
        rcases j with _ | _ | _ | _ | _ | _ | _ | _ | _ | _ | _ | _ | _ | _ | _ | _ | _ | _ | _ | _ | _ | _ | _ | j <;> first | exact h
      case start => exact (Below.refl _ _).drew
      case each =>
        intro i hi a W hold hp h6 K hK
        rcases i with _ | _ | _ | _ | _ | _ | _ | _ | _ | _ | _ | _ | _ | _ | _ | _ | _ | _ | _ | _ | _ | _ | _ | i
        · have s0 := hold 12 rfl
          simp [predsOf, Region.binds, slotV] at hp
          refine wpOp_of rfl rfl ?_
          simp at s0
          go_simp
          exact hK _ _ (by simp) (Below.refl _ _) rfl
        · have s0 := hold 13 rfl
          simp [predsOf, Region.binds, slotV] at hp
          refine wpOp_of rfl rfl ?_
          simp at s0
          go_simp
          exact hK _ _ (by simp) (Below.refl _ _) rfl
        · simp [predsOf, Region.binds, slotV] at hp
          refine wpOp_of rfl rfl ?_
          go_simp
          exact hK _ _ (by simp) (Below.refl _ _) rfl
        · simp [predsOf, Region.binds, slotV] at hp
          refine wpOp_of rfl rfl ?_
          obtain ⟨q0, q1, q2⟩ := hel W h6
          go_simp
          exact hK _ _ (by simp) (Below.refl _ _) rfl
        · simp [predsOf, Region.binds, slotV] at hp
          refine wpOp_of rfl rfl ?_
          go_simp
          refine (may_any ek eg es W).mono ?_
          rintro e W' ⟨rfl, hB'⟩
          rw [hM]
          exact hK _ _ (by simp) hB' rfl
        · have s0 := hold 12 rfl
          simp [predsOf, Region.binds, slotV] at hp
          refine wpOp_of rfl rfl ?_
          simp at s0
          go_simp
          exact hK _ _ (by simp) (Below.refl _ _) rfl
        · have s0 := hold 13 rfl
          simp [predsOf, Region.binds, slotV] at hp
          refine wpOp_of rfl rfl ?_
          simp at s0
          go_simp
          exact hK _ _ (by simp) (Below.refl _ _) rfl
        · simp [predsOf, Region.binds, slotV] at hp
          refine wpOp_of rfl rfl ?_
          go_simp
          exact hK _ _ (by simp) (Below.refl _ _) rfl
        · simp [predsOf, Region.binds, slotV] at hp
          refine wpOp_of rfl rfl ?_
          obtain ⟨q0, q1, q2⟩ := hel W h6
          go_simp
          exact hK _ _ (by simp) (Below.refl _ _) rfl
        · simp [predsOf, Region.binds, slotV] at hp
          refine wpOp_of rfl rfl ?_
          go_simp
          refine (rmayB_any ek eg es W).mono ?_
          rintro e W' ⟨rfl, hB'⟩
          rw [hM]
          exact hK _ _ (by simp) hB' rfl
        · simp [predsOf, Region.binds, slotV] at hp
          refine wpOp_of rfl rfl ?_
          go_simp
          exact hK _ _ (by simp) (Below.refl _ _) (by simp)
        · simp [predsOf, Region.binds, slotV] at hp
          refine wpOp_of rfl rfl ?_
          go_simp
          exact hK _ _ (by simp) (Below.refl _ _) (by simp)
        · have s0 := hold 12 rfl
          simp [predsOf, Region.binds, slotV] at hp
          have hg := slot_bool (x := a.tmps[58]?) (b := false) (by simp [hp])
          refine wpOp_of rfl (by simp [Region.wanted, yielded, hg]) ?_
          simp at s0
          go_simp
          exact hK _ _ (by simp) (Below.refl _ _) rfl
        · have s0 := hold 13 rfl
          simp [predsOf, Region.binds, slotV] at hp
          have hg := slot_bool (x := a.tmps[58]?) (b := false) (by simp [hp])
          refine wpOp_of rfl (by simp [Region.wanted, yielded, hg]) ?_
          simp at s0
          go_simp
          exact hK _ _ (by simp) (Below.refl _ _) rfl
        · simp [predsOf, Region.binds, slotV] at hp
          have hg := slot_bool (x := a.tmps[58]?) (b := false) (by simp [hp])
          refine wpOp_of rfl (by simp [Region.wanted, yielded, hg]) ?_
          go_simp
          exact hK _ _ (by simp) (Below.refl _ _) rfl
        · simp [predsOf, Region.binds, slotV] at hp
          have hg := slot_bool (x := a.tmps[58]?) (b := false) (by simp [hp])
          refine wpOp_of rfl (by simp [Region.wanted, yielded, hg]) ?_
          obtain ⟨q0, q1, q2⟩ := hel W h6
          go_simp
          exact hK _ _ (by simp) (Below.refl _ _) rfl
        · simp [predsOf, Region.binds, slotV] at hp
          have hg := slot_bool (x := a.tmps[58]?) (b := false) (by simp [hp])
          refine wpOp_of rfl (by simp [Region.wanted, yielded, hg]) ?_
          go_simp
          refine (bput_any ek eg es rk rg W).mono ?_
          rintro e W' ⟨rfl, hB'⟩
          rw [hP]
          exact hK _ _ (by simp) hB' rfl
        · have s0 := hold 12 rfl
          simp [predsOf, Region.binds, slotV] at hp
          have hg := slot_bool (x := a.tmps[58]?) (b := false) (by simp [hp])
          refine wpOp_of rfl (by simp [Region.wanted, yielded, hg]) ?_
          simp at s0
          go_simp
          exact hK _ _ (by simp) (Below.refl _ _) rfl
        · have s0 := hold 13 rfl
          simp [predsOf, Region.binds, slotV] at hp
          have hg := slot_bool (x := a.tmps[58]?) (b := false) (by simp [hp])
          refine wpOp_of rfl (by simp [Region.wanted, yielded, hg]) ?_
          simp at s0
          go_simp
          exact hK _ _ (by simp) (Below.refl _ _) rfl
        · simp [predsOf, Region.binds, slotV] at hp
          have hg := slot_bool (x := a.tmps[58]?) (b := false) (by simp [hp])
          refine wpOp_of rfl (by simp [Region.wanted, yielded, hg]) ?_
          go_simp
          exact hK _ _ (by simp) (Below.refl _ _) rfl
        · simp [predsOf, Region.binds, slotV] at hp
          have hg := slot_bool (x := a.tmps[58]?) (b := false) (by simp [hp])
          refine wpOp_of rfl (by simp [Region.wanted, yielded, hg]) ?_
          obtain ⟨q0, q1, q2⟩ := hel W h6
          go_simp
          exact hK _ _ (by simp) (Below.refl _ _) rfl
        · simp [predsOf, Region.binds, slotV] at hp
          have hg := slot_bool (x := a.tmps[58]?) (b := false) (by simp [hp])
          refine wpOp_of rfl (by simp [Region.wanted, yielded, hg]) ?_
          go_simp
          refine (rputB_any ek eg es W).mono ?_
          rintro e W' ⟨rfl, hB'⟩
          rw [hP]
          exact hK _ _ (by simp) hB' rfl
        · simp [predsOf, Region.binds, slotV] at hp
          have hg := slot_bool (x := a.tmps[58]?) (b := false) (by simp [hp])
          refine wpOp_of rfl (by simp [Region.wanted, yielded, hg]) ?_
          go_simp
          exact hK _ _ (by simp) (Below.refl _ _) (by simp)
        · have i0 : i = 0 := by simp at hi; omega
          subst i0
          simp [predsOf, Region.binds, slotV] at hp
          refine wpOp_of rfl rfl ?_
          go_simp
          exact hK _ _ (by simp) (Below.refl _ _) (by simp)
      case fin =>
        intro vs W hRs h6
        have hr := hRs 23 (by decide)
        simp at hr
        simp only [putAll, List.foldl_cons, List.foldl_nil, Act.put, List.setIfInBounds_toArray, List.set_cons_succ, List.set_cons_zero, hr]
        clear hRs hr hel hM hP
        go_wp2
        go_roundw
        case rel => exact ⟨j + 1, by omega, by go_num, hBj.trans (h6.mono hBj.size)⟩
        case measure => simp [intOf]; omega
    · have hj2 : j = 2 := by omega
      subst hj2
      rw [show (((2 : Nat)) : Int) = 2 from rfl]
      have hb6 := hb5.trans (hBj.mono z5)
      have hy6 := HY.out.on hBj
      clear hBj hb5 HY HL
      obtain ⟨c0, c1, c2, _⟩ := hy6.three
      go_wp2_with fail
      refine (rputB_any K G L _).mono ?_
      rintro e w7 ⟨rfl, hB7⟩
      obtain ⟨P, hP⟩ : ∃ P, PB.put K G L = P := ⟨_, rfl⟩
      rw [hP]
      have sP : P.size = 64 := by rw [← hP]; exact PB.put_size HM.out
      have hy7 := hy6.on hB7
      have hb7 := hb6.trans (hB7.mono hb6.size)
      clear hy6 hb6 hB7 c0 c1 c2 hP
      obtain ⟨gb, cb, w8, hconv, hgb, hcb, hmk, hB8⟩ := to_bytes P w7
      rw [sP] at hconv
      obtain ⟨q, hq⟩ : ∃ q, a % 64 = q := ⟨_, rfl⟩
      have hq64 : q < 64 := by omega
      have hqi : (a : Int) % 64 = (q : Int) := by omega
      have hlen : (nums P).length = 64 := by rw [nums_length, sP]
      obtain ⟨x, hx0⟩ : ∃ x, (nums P)[q]? = some x := ⟨_, List.getElem?_eq_getElem (by omega)⟩
      have hx256 := nums_lt P x (List.mem_of_getElem? hx0)
      have hcell := hmk.cell hx0
      have hfz := hmk.frozen (i := q) (by omega)
      obtain ⟨z, hz⟩ : ∃ z, x ^^^ y = z := ⟨_, rfl⟩
      have hz256 : z < 256 := by rw [← hz]; exact Nat.xor_lt_two_pow (n := 8) hx256 hy
      have hxor : bits .xor .u8 (x : Int) (y : Int) = (z : Int) := by
        rw [← hz]
        exact u8_xor_nat x y hx256 hy
      have hms := hmk.set q z
      have hts := hms.tx (by
        intro b hb
        rcases List.mem_or_eq_of_mem_set hb with h | h
        · exact nums_lt P b h
        · omega) (by rw [List.length_set]; omega) 64 cb (by rw [List.length_set]; exact hlen)
      have hstr := hts.string
      have hsz : (str ((nums P).set q z)).size = 64 := by rw [str_size, List.length_set, hlen]
      generalize str ((nums P).set q z) = S3 at *
      have hy8 := hy7.on hB8
      have hb8 := hb7.trans (hB8.mono hb7.size)
      have hgx : gx ≠ gb := by have := hy7.lt; omega
      have hy9 := hy8.far (p := ⟨gb, q, none⟩) hgx (.int .u8 (z : Int))
      have hb9 := hb8.setCell (p := ⟨gb, q, none⟩) (Nat.le_trans hb7.size hgb) (.int .u8 (z : Int))
      clear hx0 hms hmk hB8 hy7 hb7 hy8 hb8 hgb hts hlen hz hq
      go_upto_region 14 with fail
      generalize w8.setCell ⟨gb, q, none⟩ (.int .u8 (z : Int)) = w9 at *
      clear hconv hcell hfz hxor hqi
      have ht10 := Bx.new w9 9 #[.string s, .string S3]
      have hy10 := hy9.alloc (.cells #[.string s, .string S3] 9)
      have hb10 := hb9.alloc hb9.size (.cells #[.string s, .string S3] 9)
      clear hy9 hb9
      go_upto_region 15 with fail
      generalize w9.alloc (.cells #[.string s, .string S3] 9) = w10 at *
      generalize w9.heap.size = gt at *
      have HT := Lib.hid ht10
      have HY := Lib.hid hy10
      have z10 := hb10.size
      clear ht10 hy10 hstr
      go_wp2
      go_loopw [16] (fun ii wr => ∃ j : Nat, j ≤ 2 ∧ ii = .int .i64 (j : Int) ∧ Below w10.heap.size w10 wr) (fun i _ => 2 - (intOf i).toNat)
      case atStart => exact ⟨0, by omega, rfl, Below.refl _ _⟩
      case round =>
        obtain ⟨j, hj, rfl, hBj⟩ := hrel
        by_cases hlt : j < 2
        · obtain ⟨T, hel0⟩ : ∃ x, [s, S3][j]? = some x := ⟨_, List.getElem?_eq_getElem (by simpa using hlt)⟩
          have hmem := List.mem_of_getElem? hel0
          have hT : T.size ≤ 80 := by
            simp at hmem
            rcases hmem with rfl | rfl <;> omega
          have hel : ∀ W, Below w10.heap.size w10 W → W.cell? ⟨gt, j, none⟩ = some (.string T) := fun W h => by
            rw [(HT.out.on h).cell j]
            rcases j with _ | _ | j
            · simp at hel0; rw [← hel0]; rfl
            · simp at hel0; rw [← hel0]; rfl
            · omega
          clear hel0 hmem
          have q0 := hel wr hBj
          have HEL := Lib.hid hel
          clear hel
          obtain ⟨t0, e0⟩ : ∃ x, PB.tk T = x := ⟨_, rfl⟩
          obtain ⟨t1, e1⟩ : ∃ x, PB.tg T = x := ⟨_, rfl⟩
          obtain ⟨t2, e2⟩ : ∃ x, PB.tl T = x := ⟨_, rfl⟩
          obtain ⟨t3, e3⟩ : ∃ x, PB.took T = x := ⟨_, rfl⟩
          have E0 := Lib.hid e0
          have E1 := Lib.hid e1
          have E2 := Lib.hid e2
          have E3 := Lib.hid e3
          clear e0 e1 e2 e3
          go_wp2_with fail
          refine (btake_any T _ (by omega)).mono ?_
          rintro e v1 ⟨rfl, hB1⟩
          rw [E0.out, E1.out, E2.out, E3.out]
          have hb1 := hBj.trans (hB1.mono hBj.size)
          have hb2 := hb1.alloc hb1.size (.cells #[.int .i64 t0, .int .i64 t1, .string t2] 23)
          have hu2 := Bx.new v1 23 #[.int .i64 t0, .int .i64 t1, .string t2]
          clear q0 hB1 hb1 hBj
          go_upto_region 19 with fail
          generalize v1.alloc (.cells #[.int .i64 t0, .int .i64 t1, .string t2] 23) = v2 at *
          generalize v1.heap.size = gu at *
          have q0 := HEL.out v2 hb2
          go_wp2_with fail
          refine (rtakeB_any T _).mono ?_
          rintro e v3 ⟨rfl, hB3⟩
          rw [E0.out, E1.out, E2.out, E3.out]
          have hb3 := hb2.trans (hB3.mono hb2.size)
          have hu4 := (hu2.on hB3).alloc (.cells #[.int .i64 t0, .int .i64 t1, .string t2] 23)
          have hb4 := hb3.alloc hb3.size (.cells #[.int .i64 t0, .int .i64 t1, .string t2] 23)
          have hv4 := Bx.new v3 23 #[.int .i64 t0, .int .i64 t1, .string t2]
          clear q0 hB3 hb3 hu2 hb2
          go_upto_region 20 with fail
          generalize v3.alloc (.cells #[.int .i64 t0, .int .i64 t1, .string t2] 23) = v4 at *
          generalize v3.heap.size = gv at *
          obtain ⟨c0, c1, c2, _⟩ := hu4.three
          obtain ⟨d0, d1, d2, _⟩ := hv4.three
          go_wp2
          go_roundw
          case rel => exact ⟨j + 1, by omega, by go_num, hb4⟩
          case measure => simp [intOf]; omega
        · have hj2 : j = 2 := by omega
          subst hj2
          rw [show (((2 : Nat)) : Int) = 2 from rfl]
          have hb11 := hb10.trans (hBj.mono z10)
          have hy11 := HY.out.on hBj
          clear hBj hb10 HY HT
          obtain ⟨c0, c1, c2, _⟩ := hy11.three
          go_wp2_with fail
          refine (may_any K G L _).mono ?_
          rintro e w12 ⟨rfl, hB12⟩
          rw [HM.out]
          have hb12 := hb11.trans (hB12.mono hb11.size)
          go_wp2
          go_ret
          exact ⟨rfl, hb12⟩
end Go.Proofs.Ytjgjhbgadekceaa
