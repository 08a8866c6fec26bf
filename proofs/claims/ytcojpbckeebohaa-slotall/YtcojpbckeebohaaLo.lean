/-
  The law SlotAll: its walk.
-/
import Derived.Test.YtcojpbckeebohaaLm
import Derived.Test.YtcojpbckeebohaaLg
namespace Go.Proofs.Ytcojpbckeebohaa
open Go.RowKit Go.Joins

theorem below_ge {w w' : World} {B : Nat} (h : Below B w w') (hb : w.heap.size = B) : B ≤ w'.heap.size := by subst hb; exact h.size

set_option maxRecDepth 100000 in
set_option maxHeartbeats 8000000 in
theorem allLaw_any (x : PS.S) (hx5 : R5 x) (v : Value) (l : List Nat) (s : ByteArray) (a y : Nat) (w : World) (h : Us w v l) (ha : a < 256) (hy : y < 256) :
    Calls Try.prog 3 #[.agg (sv x), v, .string s, .int .u8 (a : Int), .int .u8 (y : Int)] w fun e w' => e = .returned (.bool true) ∧ Below w.heap.size w w' := by
  obtain ⟨i0, hi, hz0, hz1, hz2⟩ := info_parts Try.info9
  obtain ⟨A, c, rfl⟩ := h.form
  have hsl := slots_any (.slice A l.length c) l
  have c7 := xmay_any x hx5
  have c8 := rmayS_any x
  have c9 := xput_any x hx5
  have c10 := rputS_any x hx5
  obtain ⟨bm, hbm⟩ : ∃ b, PS.may x = b := ⟨_, rfl⟩
  obtain ⟨P0, hP0⟩ : ∃ b, PS.put x = b := ⟨_, rfl⟩
  rw [hbm] at c7 c8
  rw [hP0] at c9 c10
  clear hbm hP0 hx5
  obtain ⟨xn, xq, xm, xg, xp⟩ := x
  simp only [sv] at c7 c8 c9 c10 ⊢
  generalize hL : l.length = L at *
  have HU := Lib.hid h
  clear h
  have hx := Bx.new w 23 #[.int .i64 xn, .int .i64 xq, .int .i64 xm, .int .i64 xg, .int .i64 xp]
  have hB := al w (.cells #[.int .i64 xn, .int .i64 xq, .int .i64 xm, .int .i64 xg, .int .i64 xp] 23)
  go_enter Try.func3, Try.ntmps3
  go_wp2_with fail
  refine (begun_any _).mono ?_
  rintro e w1 ⟨rfl, hB1⟩
  have hx1 := hx.on hB1
  have hb1 := hB.trans (hB1.mono (by simp))
  clear hx hB hB1
  by_cases h20 : 20 < L
  · have hd : decide ((20 : Int) < (L : Int)) = true := by simp; omega
    go_wp2
    go_ret
    exact ⟨rfl, hb1⟩
  · have hd : decide ((20 : Int) < (L : Int)) = false := by simp; omega
    by_cases h80 : 80 < s.size
    · have hd8 : decide ((80 : Int) < (s.size : Int)) = true := by simp; omega
      go_wp2
      go_ret
      exact ⟨rfl, hb1⟩
    · have hd8 : decide ((80 : Int) < (s.size : Int)) = false := by simp; omega
      go_upto_region 5 with fail
      refine wp_region_grow Try.checked.mixed (by kernel_rfl) (fun W => Below w1.heap.size w1 W)
        (fun i v W => match i with
          | 0 => v = .agg #[.int .i64 xn, .int .i64 xq, .int .i64 xm, .int .i64 xg, .int .i64 xp]
          | 1 => v = .bool bm
          | 2 => v = .agg #[.int .i64 xn, .int .i64 xq, .int .i64 xm, .int .i64 xg, .int .i64 xp]
          | 3 => v = .bool bm
          | 4 => v = .bool false
          | 5 => v = .bool false
          | 6 => v = .agg #[.int .i64 xn, .int .i64 xq, .int .i64 xm, .int .i64 xg, .int .i64 xp]
          | 7 => v = .string P0
          | 8 => v = .agg #[.int .i64 xn, .int .i64 xq, .int .i64 xm, .int .i64 xg, .int .i64 xp]
          | 9 => v = .string P0
          | 10 => v = .bool false
          | _ => v = .bool false) ?hS ?hR ?start ?each ?fin
      case hS =>
        intro W W' h hb
        exact h.trans (hb.mono h.size)
      case hR =>
        intro j v W W' h hb
        rcases j with _ | _ | _ | _ | _ | _ | _ | _ | _ | _ | _ | j <;> first | exact h
      case start => exact (Below.refl _ _).drew
      case each =>
        intro i hi a W hold hp h6 K hK
        rcases i with _ | _ | _ | _ | _ | _ | _ | _ | _ | _ | _ | i
        · have s0 := hold 5 rfl
          simp [predsOf, Region.binds, slotV] at hp
          refine wpOp_of rfl rfl ?_
          simp at s0
          obtain ⟨⟨q0, q1, q2, q3, q4⟩, _⟩ := (hx1.on h6).five
          go_simp
          exact hK _ _ (by simp) (Below.refl _ _) rfl
        · simp [predsOf, Region.binds, slotV] at hp
          refine wpOp_of rfl rfl ?_
          go_simp
          refine (c7 W).mono ?_
          rintro e W' ⟨rfl, hB'⟩
          exact hK _ _ (by simp) hB' rfl
        · have s0 := hold 5 rfl
          simp [predsOf, Region.binds, slotV] at hp
          refine wpOp_of rfl rfl ?_
          simp at s0
          obtain ⟨⟨q0, q1, q2, q3, q4⟩, _⟩ := (hx1.on h6).five
          go_simp
          exact hK _ _ (by simp) (Below.refl _ _) rfl
        · simp [predsOf, Region.binds, slotV] at hp
          refine wpOp_of rfl rfl ?_
          go_simp
          refine (c8 W).mono ?_
          rintro e W' ⟨rfl, hB'⟩
          exact hK _ _ (by simp) hB' rfl
        · simp [predsOf, Region.binds, slotV] at hp
          refine wpOp_of rfl rfl ?_
          go_simp
          exact hK _ _ (by simp) (Below.refl _ _) (by simp)
        · simp [predsOf, Region.binds, slotV] at hp
          refine wpOp_of rfl rfl ?_
          go_simp
          exact hK _ _ (by simp) (Below.refl _ _) (by simp)
        · have s0 := hold 5 rfl
          simp [predsOf, Region.binds, slotV] at hp
          have hg := slot_bool (x := a.tmps[37]?) (b := false) (by simp [hp])
          refine wpOp_of rfl (by simp [Region.wanted, yielded, hg]) ?_
          simp at s0
          obtain ⟨⟨q0, q1, q2, q3, q4⟩, _⟩ := (hx1.on h6).five
          go_simp
          exact hK _ _ (by simp) (Below.refl _ _) rfl
        · simp [predsOf, Region.binds, slotV] at hp
          have hg := slot_bool (x := a.tmps[37]?) (b := false) (by simp [hp])
          refine wpOp_of rfl (by simp [Region.wanted, yielded, hg]) ?_
          go_simp
          refine (c9 W).mono ?_
          rintro e W' ⟨rfl, hB'⟩
          exact hK _ _ (by simp) hB' rfl
        · have s0 := hold 5 rfl
          simp [predsOf, Region.binds, slotV] at hp
          have hg := slot_bool (x := a.tmps[37]?) (b := false) (by simp [hp])
          refine wpOp_of rfl (by simp [Region.wanted, yielded, hg]) ?_
          simp at s0
          obtain ⟨⟨q0, q1, q2, q3, q4⟩, _⟩ := (hx1.on h6).five
          go_simp
          exact hK _ _ (by simp) (Below.refl _ _) rfl
        · simp [predsOf, Region.binds, slotV] at hp
          have hg := slot_bool (x := a.tmps[37]?) (b := false) (by simp [hp])
          refine wpOp_of rfl (by simp [Region.wanted, yielded, hg]) ?_
          go_simp
          refine (c10 W).mono ?_
          rintro e W' ⟨rfl, hB'⟩
          exact hK _ _ (by simp) hB' rfl
        · simp [predsOf, Region.binds, slotV] at hp
          have hg := slot_bool (x := a.tmps[37]?) (b := false) (by simp [hp])
          refine wpOp_of rfl (by simp [Region.wanted, yielded, hg]) ?_
          go_simp
          exact hK _ _ (by simp) (Below.refl _ _) (by simp)
        · have i0 : i = 0 := by simp at hi; omega
          subst i0
          simp [predsOf, Region.binds, slotV] at hp
          refine wpOp_of rfl rfl ?_
          go_simp
          exact hK _ _ (by simp) (Below.refl _ _) (by simp)
      case fin =>
        intro vs W hRs h6
        have hr := hRs 11 (by decide)
        simp at hr
        simp only [putAll, List.foldl_cons, List.foldl_nil, Act.put, List.setIfInBounds_toArray, List.set_cons_succ, List.set_cons_zero, hr]
        clear hRs hr c7 c8 c9 c10 hx1
        have hb2 := hb1.trans (h6.mono hb1.size)
        clear h6 hb1
        have hs1 := hsl W (HU.out.below hb2) (by omega)
        clear hsl
        go_wp2_with fail
        refine hs1.mono ?_
        rintro e w3 ⟨v3, rfl, hO3, hB3⟩
        have hW3 := hB3.size
        have hlen : (PS.slots l).length = L / 5 := by rw [PS.slots, PS.slotsN_length, hL]
        have hle : ∀ t ∈ PS.slots l, t.size ≤ 64 := PS.slotsN_le l _
        generalize PS.slots l = ss at *
        obtain ⟨M, hM⟩ : ∃ M, L / 5 = M := ⟨_, rfl⟩
        have hM4 : M ≤ 4 := by omega
        rw [hM] at hlen
        have hO4 := hO3
        unfold Ro at hO4
        obtain ⟨A3, c3, rfl⟩ := own_form hO4
        rw [hlen] at hO4 ⊢
        generalize hXS : ss.map Value.string = XS at hO4
        have HXS := Lib.hid hXS
        have HLE := Lib.hid hle
        have HLEN := Lib.hid hlen
        have hwW := hb2.size
        obtain ⟨gW, hgW⟩ : ∃ g, W.heap.size = g := ⟨_, rfl⟩
        rw [hgW] at hW3 hB3 hO4 hwW
        clear hXS hs1 hO3 HU hL hle hlen
        go_wp2_with (at_builtin; refine wpList_append_sl rfl _ _ 28 rfl gW 9 i0 (.string { data := #[] }) 1 16 Try.underlying28 hi hz0 hz1 hz2 rfl (by decide) _ _ _ rfl (hO4.alloc _) _ 1 1 _ rfl (Sl.new w3 _ 9 _ 1 1 _ rfl rfl) ?q1 ?q2 ?q3 ?q4 ?_)
        case q1 => rfl
        case q2 => unfold maxLen; omega
        case q3 => omega
        case q4 => first | omega | (simp; omega)
        intro v4 w4 hown hgrow
        have hb4 : Below gW W w4 := (hB3.alloc hW3 _).grown hgrow (by simp; omega) (fun k hk => own_ge hO4 hk)
        have hW4 := below_ge hb4 hgW
        have hown' : Ro w4 gW v4 (ss ++ [s]) := by
          unfold Ro
          rw [List.length_append, HLEN.out, List.map_append, HXS.out]
          exact hown
        obtain ⟨A4, c4, rfl⟩ := own_form hown'
        have HO4 := Lib.hid hown'
        clear hown hown' hgrow hO4 hB3 HXS
        rw [List.length_append, HLEN.out, show M + [s].length = M + 1 from rfl]
        have hm : PS.may ⟨1 + (a : Int), 5, 9, 1, 3⟩ = true := PS.may_spec.2 (by dsimp only; omega)
        have hpu := rputS_any _ (R5.may hm)
        have sP := PS.put_size hm
        simp only [sv] at hpu
        generalize PS.put ⟨1 + (a : Int), 5, 9, 1, 3⟩ = P at hpu sP
        clear hm
        go_wp2_with fail
        refine (hpu _).mono ?_
        rintro e w7 ⟨rfl, hB7⟩
        have hb7 := hb4.trans (hB7.mono hW4)
        have hO7 := HO4.out.on hB7
        clear hpu hb4 HO4 hB7
        obtain ⟨gb, cb, w8, hconv, hgb, hcb, hmk, hB8⟩ := to_bytes P w7
        rw [sP] at hconv
        obtain ⟨q, hq⟩ : ∃ q, a % 64 = q := ⟨_, rfl⟩
        have hq64 : q < 64 := by omega
        have hqi : (a : Int) % 64 = (q : Int) := by omega
        have hqt : (a : Int).tmod 64 = (q : Int) := by rw [Int.tmod_eq_emod_of_nonneg (by omega)]; omega
        have hplen : (nums P).length = 64 := by rw [nums_length, sP]
        obtain ⟨x, hx0⟩ : ∃ x, (nums P)[q]? = some x := ⟨_, List.getElem?_eq_getElem (by omega)⟩
        have hx256 := nums_lt P x (List.mem_of_getElem? hx0)
        have hcell := hmk.cell hx0
        have hfz := hmk.frozen (i := q) (by omega)
        obtain ⟨z, hz⟩ : ∃ z, x ^^^ y = z := ⟨_, rfl⟩
        have hz256 : z < 256 := by rw [← hz]; exact Nat.xor_lt_two_pow (n := 8) hx256 hy
        have hxor : bits .xor .u8 (x : Int) (y : Int) = (z : Int) := by
          rw [← hz]
          exact u8_xor_nat x y hx256 hy
        have hms := hmk.set q z
        have hts := hms.tx (by
          intro b hb
          rcases List.mem_or_eq_of_mem_set hb with h | h
          · exact nums_lt P b h
          · omega) (by rw [List.length_set]; omega) 64 cb (by rw [List.length_set]; exact hplen)
        have hstr := hts.string
        have hsz : (str ((nums P).set q z)).size = 64 := by rw [str_size, List.length_set, hplen]
        generalize str ((nums P).set q z) = S3 at *
        have hB9 := hB8.setCell (p := ⟨gb, q, none⟩) hgb (.int .u8 (z : Int))
        have hO9 := hO7.on hB9
        have hW7 := below_ge hb7 hgW
        have hb9 := hb7.trans (hB9.mono hW7)
        have hW9 := below_ge hb9 hgW
        clear hx0 hms hmk hB8 hb7 hgb hts hplen hz hq hB9 hO7
        go_upto_region 10 with fail
        generalize w8.setCell ⟨gb, q, none⟩ (.int .u8 (z : Int)) = w9 at *
        clear hconv hcell hfz hxor hqi hqt
        have hlen2 : (ss ++ [s]).length = M + 1 := by rw [List.length_append, HLEN.out]; rfl
        unfold Ro at hO9
        rw [hlen2] at hO9
        generalize hXS2 : (ss ++ [s]).map Value.string = XS2 at hO9
        have HXS2 := Lib.hid hXS2
        have HL2 := Lib.hid hlen2
        clear hXS2 hlen2
        go_wp2_with (at_builtin; refine wpList_append_sl rfl _ _ 28 rfl gW 9 i0 (.string { data := #[] }) 1 16 Try.underlying28 hi hz0 hz1 hz2 rfl (by decide) _ _ _ rfl (hO9.alloc _) _ 1 1 _ rfl (Sl.new w9 _ 9 _ 1 1 _ rfl rfl) ?r1 ?r2 ?r3 ?r4 ?_)
        case r1 => rfl
        case r2 => unfold maxLen; omega
        case r3 => omega
        case r4 => first | omega | (simp; omega)
        intro v5 w10 hown hgrow
        have hb10' : Below gW W w10 := (hb9.alloc hW9 _).grown hgrow (by simp; omega) (fun k hk => own_ge hO9 hk)
        have hb10 := hb2.trans (hb10'.mono hwW)
        have hown' : Ro w10 gW v5 (ss ++ [s] ++ [S3]) := by
          unfold Ro
          rw [List.length_append, HL2.out, List.map_append, HXS2.out]
          exact hown
        have hlen3 : (ss ++ [s] ++ [S3]).length = M + 2 := by rw [List.length_append, HL2.out]; rfl
        have hrow := hown'.row (by
          intro t ht
          simp at ht
          rcases ht with ht | rfl | rfl
          · have := HLE.out t ht
            omega
          · omega
          · omega) (by omega)
        have hle3 := hrow.2.1
        generalize ss ++ [s] ++ [S3] = tt at *
        obtain ⟨A5, c5, rfl⟩ := hrow.form
        rw [hlen3] at hrow ⊢
        obtain ⟨K, hK⟩ : ∃ K, M + 2 = K := ⟨_, rfl⟩
        rw [hK] at hrow hlen3 ⊢
        have hK6 : K ≤ 6 := by omega
        have HROW := Lib.hid hrow
        have HLE3 := Lib.hid hle3
        have HL3 := Lib.hid hlen3
        clear hown hown' hgrow hO9 hb9 HXS2 hstr hrow hle3 hlen3 HLE HLEN HL2 hK
        go_wp2
        go_loopw [13] (fun ii wr => ∃ j : Nat, j ≤ K ∧ ii = .int .i64 (j : Int) ∧ Below w10.heap.size w10 wr) (fun i _ => K - (intOf i).toNat)
        case atStart => exact ⟨0, by omega, rfl, Below.refl _ _⟩
        case round =>
          obtain ⟨j, hj, rfl, hBj⟩ := hrel
          by_cases hlt : j < K
          · have hsl := HROW.out.1
            rw [HL3.out] at hsl
            obtain ⟨A', c', hv, _, hA⟩ := hsl
            injection hv with e1 e2 e3
            subst e1 e3
            obtain ⟨b0, o, rfl, hb0, hcell⟩ := hA (by omega)
            obtain ⟨T, hT⟩ : ∃ x, tt[j]? = some x := ⟨_, List.getElem?_eq_getElem (by rw [HL3.out]; exact hlt)⟩
            have hg := hcell j (by omega)
            rw [List.getElem?_map, hT, Option.map_some] at hg
            have hTs := HLE3.out T (List.mem_of_getElem? hT)
            have hel : ∀ W, Below w10.heap.size w10 W → W.cell? ⟨b0, o + j, none⟩ = some (.string T) := fun W hW => (hW.cell hb0).trans hg
            have q0 := hel wr hBj
            have HEL := Lib.hid hel
            have htk := fun W => xtake_any T W hTs
            have htr := rtakeS_any T
            generalize PS.tk T = Y at *
            generalize PS.took T = t3 at *
            obtain ⟨yn, yq, ym, yg, yp⟩ := Y
            simp only [sv] at htk htr
            clear hel hcell hA hT hg hb0
            go_wp2_with fail
            refine (htk _).mono ?_
            rintro e v1 ⟨rfl, hB1⟩
            have hb1 := hBj.trans (hB1.mono hBj.size)
            have hb2 := hb1.alloc hb1.size (.cells #[.int .i64 yn, .int .i64 yq, .int .i64 ym, .int .i64 yg, .int .i64 yp] 23)
            have hu2 := Bx.new v1 23 #[.int .i64 yn, .int .i64 yq, .int .i64 ym, .int .i64 yg, .int .i64 yp]
            clear q0 hB1 hb1 hBj htk
            go_upto_region 15 with fail
            generalize v1.alloc (.cells #[.int .i64 yn, .int .i64 yq, .int .i64 ym, .int .i64 yg, .int .i64 yp] 23) = v2 at *
            generalize v1.heap.size = gu at *
            have q0 := HEL.out v2 hb2
            go_wp2_with fail
            refine (htr _).mono ?_
            rintro e v3 ⟨rfl, hB3⟩
            have hb3 := hb2.trans (hB3.mono hb2.size)
            have hu4 := (hu2.on hB3).alloc (.cells #[.int .i64 yn, .int .i64 yq, .int .i64 ym, .int .i64 yg, .int .i64 yp] 23)
            have hb4 := hb3.alloc hb3.size (.cells #[.int .i64 yn, .int .i64 yq, .int .i64 ym, .int .i64 yg, .int .i64 yp] 23)
            have hv4 := Bx.new v3 23 #[.int .i64 yn, .int .i64 yq, .int .i64 ym, .int .i64 yg, .int .i64 yp]
            clear q0 hB3 hb3 hu2 hb2 htr
            go_upto_region 16 with fail
            generalize v3.alloc (.cells #[.int .i64 yn, .int .i64 yq, .int .i64 ym, .int .i64 yg, .int .i64 yp] 23) = v4 at *
            generalize v3.heap.size = gv at *
            obtain ⟨⟨c0, c1, c2, c3, c4⟩, _⟩ := hu4.five
            obtain ⟨⟨d0, d1, d2, d3, d4⟩, _⟩ := hv4.five
            go_wp2
            go_roundw
            case rel => exact ⟨j + 1, by omega, by go_num, hb4⟩
            case measure => simp [intOf]; omega
          · have hjK : j = K := by omega
            subst hjK
            have hb11 := hb10.trans (hBj.mono hb10.size)
            have hr11 := HROW.out.below hBj
            have hn1 := xnewest_any _ tt wr hr11
            have hn2 := fun W (h : Below wr.heap.size wr W) => rnewest_any _ tt W (hr11.below h)
            generalize PS.newest tt = X at *
            obtain ⟨yn, yq, ym, yg, yp⟩ := X
            simp only [sv] at hn1 hn2
            obtain ⟨bo, hbo⟩ : ∃ b, decide (0 < yn) = b := ⟨_, rfl⟩
            simp only [hbo] at hn1 hn2
            clear hbo hBj hb10 HROW HLE3 HL3 hr11
            go_wp2_with fail
            refine hn1.mono ?_
            rintro e w12 ⟨rfl, hB12⟩
            have hb12 := hb11.trans (hB12.mono hb11.size)
            have hB13 := hB12.alloc hB12.size (.cells #[.int .i64 yn, .int .i64 yq, .int .i64 ym, .int .i64 yg, .int .i64 yp] 23)
            have hu13 := Bx.new w12 23 #[.int .i64 yn, .int .i64 yq, .int .i64 ym, .int .i64 yg, .int .i64 yp]
            have hb13 := hb12.alloc hb12.size (.cells #[.int .i64 yn, .int .i64 yq, .int .i64 ym, .int .i64 yg, .int .i64 yp] 23)
            clear hn1 hB12 hb12 hb11
            go_upto_region 19 with fail
            generalize w12.alloc (.cells #[.int .i64 yn, .int .i64 yq, .int .i64 ym, .int .i64 yg, .int .i64 yp] 23) = w13 at *
            generalize w12.heap.size = gu at *
            go_wp2_with fail
            refine (hn2 _ hB13).mono ?_
            rintro e w14 ⟨rfl, hB14⟩
            have hb14 := hb13.trans (hB14.mono hb13.size)
            have hu15 := (hu13.on hB14).alloc (.cells #[.int .i64 yn, .int .i64 yq, .int .i64 ym, .int .i64 yg, .int .i64 yp] 23)
            have hv15 := Bx.new w14 23 #[.int .i64 yn, .int .i64 yq, .int .i64 ym, .int .i64 yg, .int .i64 yp]
            have hb15 := hb14.alloc hb14.size (.cells #[.int .i64 yn, .int .i64 yq, .int .i64 ym, .int .i64 yg, .int .i64 yp] 23)
            clear hn2 hB14 hb14 hb13 hB13 hu13
            go_upto_region 20 with fail
            generalize w14.alloc (.cells #[.int .i64 yn, .int .i64 yq, .int .i64 ym, .int .i64 yg, .int .i64 yp] 23) = w15 at *
            generalize w14.heap.size = gv at *
            obtain ⟨⟨c0, c1, c2, c3, c4⟩, _⟩ := hu15.five
            obtain ⟨⟨d0, d1, d2, d3, d4⟩, _⟩ := hv15.five
            go_wp2
            go_ret
            exact ⟨rfl, hb15⟩
end Go.Proofs.Ytcojpbckeebohaa
