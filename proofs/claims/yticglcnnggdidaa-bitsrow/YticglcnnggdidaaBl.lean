/-
  The law BitsRow: its walk.
-/
import Derived.Test.YticglcnnggdidaaBk
import Derived.Test.YticglcnnggdidaaRg
namespace Go.Proofs.Yticglcnnggdidaa
open Go.RowKit Go.Joins

theorem slot_bool' {x : Option Value} {b : Bool} (h : x.getD undef = .bool b) : x = some (.bool b) := by
  cases x with
  | none => cases h
  | some v => exact congrArg some h

/-- The numbers of the row. -/
def shn (n x : Nat) : Nat := x / 2 ^ (32 - 8 * n)
def row (n : Nat) (ls : List Nat) : List Int := ls.map fun x => ((shn n x : Nat) : Int)
theorem shn_lt (n x : Nat) (h1 : 1 ≤ n) (h4 : n ≤ 4) (hx : x < 4294967296) : shn n x < 256 ^ n := by
  unfold shn
  rcases (show n = 1 ∨ n = 2 ∨ n = 3 ∨ n = 4 by omega) with rfl | rfl | rfl | rfl <;> simp <;> omega
theorem shn_le (n x : Nat) : shn n x ≤ x := Nat.div_le_self _ _
theorem row_length (n : Nat) (ls : List Nat) : (row n ls).length = ls.length := by simp [row]
theorem row_take (n : Nat) (ls : List Nat) (k x : Nat) (h : ls[k]? = some x) : row n (ls.take (k + 1)) = row n (ls.take k) ++ [((shn n x : Nat) : Int)] := by
  simp [row, List.take_add_one, h]
theorem row_fits (n : Nat) (ls : List Nat) (h : ∀ x ∈ ls, x < 4294967296) : ∀ z ∈ row n ls, -9223372036854775808 ≤ z ∧ z ≤ 9223372036854775807 := by
  intro z hz
  obtain ⟨x, hx, rfl⟩ := List.mem_map.1 hz
  have := shn_le n x
  have := h x hx
  omega

theorem putS_row (n : Nat) (zs : List Int) (h1 : 1 ≤ n) (h4 : n ≤ 4) : PlainBits.putS [] (n : Int) zs = PlainBits.put [] n zs := by
  have hw : PlainBits.wide (n : Int) = true := by simp [PlainBits.wide]; omega
  rw [PlainBits.putS, if_pos hw, Int.toNat_natCast]
theorem row_halves (n : Nat) (zs : List Int) (h : Nat) (h1 : 1 ≤ n) (h4 : n ≤ 4) : PlainBits.putS [] (n : Int) (zs.take h) = PlainBits.put [] n (zs.take h) ∧ PlainBits.putS (PlainBits.put [] n (zs.take h)) (n : Int) (zs.drop h) = PlainBits.put [] n zs := by
  refine ⟨putS_row n _ h1 h4, ?_⟩
  have hw : PlainBits.wide (n : Int) = true := by simp [PlainBits.wide]; omega
  rw [PlainBits.putS, if_pos hw, Int.toNat_natCast, PlainBits.put_put, List.take_append_drop]
theorem row_at (n : Nat) (ls : List Nat) (j x : Nat) (h1 : 1 ≤ n) (h4 : n ≤ 4) (hl : ∀ x ∈ ls, x < 4294967296) (hx : ls[j]? = some x) :
    PlainBits.takeN ((PlainBits.put [] n (row n ls)).drop (j * n)) (n : Int) = shn n x ∧ PlainBits.can ((PlainBits.put [] n (row n ls)).drop (j * n)).length (n : Int) = true := by
  have hz : (row n ls)[j]? = some ((shn n x : Nat) : Int) := by simp [row, hx]
  have hat := PlainBits.put_at n (row n ls) j _ hz
  have hj : j < ls.length := (List.getElem?_eq_some_iff.1 hx).1
  have hle : (j + 1) * n ≤ n * ls.length := by rw [Nat.mul_comm n]; exact Nat.mul_le_mul_right n hj
  rw [Nat.add_mul, Nat.one_mul] at hle
  have hc : PlainBits.can ((PlainBits.put [] n (row n ls)).drop (j * n)).length (n : Int) = true := by
    have : n ≤ ((PlainBits.put [] n (row n ls)).drop (j * n)).length := by
      rw [List.length_drop, PlainBits.put_length, row_length]; simp only [List.length_nil]; omega
    simp only [PlainBits.can, PlainBits.wide, Bool.and_eq_true, decide_eq_true_eq]
    omega
  refine ⟨?_, hc⟩
  rw [PlainBits.takeN, if_pos hc, Int.toNat_natCast, hat]
  exact PlainBits.dec_enc_of_lt n _ (shn_lt n x h1 h4 (hl x (List.mem_of_getElem? hx)))

/-- A piece of a row of numbers. -/
theorem In.piece {w : World} {A : Option Addr} {n c l h : Nat} {zs : List Int} (x : In w (.slice A n c) zs) (l0 : zs.length = n) (hlh : l ≤ h) (hh : h ≤ n) (hnc : n ≤ c) : In w (sliced A l h c 1) ((zs.drop l).take (h - l)) := by
  obtain ⟨⟨A', c', hv, hl, hA⟩, hb, hm⟩ := x
  injection hv with e1 e2 e3
  subst e1 e3
  have hlen : ((zs.drop l).take (h - l)).length = h - l := by simp; omega
  refine ⟨⟨if c = l then A else A.map (·.add (l * 1)), c - l, by rw [hlen]; rfl, by simp, fun hn => ?_⟩, fun b hb' => hb b (List.mem_of_mem_drop (List.mem_of_mem_take hb')), by rw [hlen]; omega⟩
  rw [hlen] at hn
  obtain ⟨b, o, rfl, hbs, hc⟩ := hA (by omega)
  refine ⟨b, o + l, ?_, hbs, fun j hj => ?_⟩
  · rw [if_neg (by omega)]
    simp [Addr.add_lit]
  · rw [hlen] at hj
    have := hc (l + j) (by omega)
    rw [← Nat.add_assoc] at this
    rw [this]
    have h1 : j < h - l := by omega
    simp [h1]
theorem isub_h {A : Option Addr} {n c p : Nat} {zs : List Int} (l0 : zs.length = n) (hp : p ≤ n) (hnc : n ≤ c) : ∃ u, (∀ W, (Instr.slice 25 (.slice A n c) none (some (.int .i64 (p : Int))) none).run Try.prog W = .ok u W) ∧ ∀ W, In W (.slice A n c) zs → In W u (zs.take p) := by
  refine ⟨sliced A 0 p c 1, fun W => ?_, fun W h => by simpa using h.piece l0 (Nat.zero_le p) hp hnc⟩
  rw [run_slice_h W 25 A n c (by kernel_rfl) .i64 (p : Int) (by omega) (by omega)]
  kernel_rfl
theorem isub_l {A : Option Addr} {n c p : Nat} {zs : List Int} (l0 : zs.length = n) (hp : p ≤ n) (hnc : n ≤ c) : ∃ u, (∀ W, (Instr.slice 25 (.slice A n c) (some (.int .i64 (p : Int))) none none).run Try.prog W = .ok u W) ∧ ∀ W, In W (.slice A n c) zs → In W u (zs.drop p) := by
  refine ⟨sliced A p n c 1, fun W => ?_, fun W h => by
    have := h.piece l0 hp (Nat.le_refl n) hnc
    rwa [List.take_of_length_le (by simp; omega)] at this⟩
  rw [run_slice_l W 25 A n c (by kernel_rfl) .i64 (p : Int) (by omega) (by omega)]
  kernel_rfl

set_option maxHeartbeats 4000000 in
theorem row_big (k : Nat) (A : Option Addr) (L c : Nat) (w : World) (hbig : 8 < L) :
    Calls Try.prog 6 #[.slice A L c, .int .u8 (k : Int)] w fun e w' => e = .returned (.bool true) ∧ Below w.heap.size w w' := by
  have h1 : (8 : Int) < (L : Int) := by omega
  go_enter Try.func6, Try.ntmps6
  go_wp2_with fail
  refine (begun_any _).mono ?_
  rintro e w1 ⟨rfl, hb1⟩
  go_wp2
  go_ret
  exact ⟨rfl, hb1⟩

set_option maxRecDepth 100000 in
set_option maxHeartbeats 8000000 in
theorem row_any (k : Nat) (A : Option Addr) (L c : Nat) (ls : List Nat) (w : World) (hk : k < 256) (xl : Sl w 1 (.slice A L c) L (ls.map fun (x : Nat) => Value.int .u32 (x : Int))) (el : ls.length = L) (hl : ∀ x ∈ ls, x < 4294967296) (h8 : L ≤ 8) :
    Calls Try.prog 6 #[.slice A L c, .int .u8 (k : Int)] w fun e w' => e = .returned (.bool true) ∧ Below w.heap.size w w' := by
  obtain ⟨i3, hi3, hy0, hy1, hy2⟩ := info_parts Try.info3
  have g1 : ¬ (8 : Int) < (L : Int) := by omega
  go_enter Try.func6, Try.ntmps6
  go_wp2_with fail
  refine (begun_any _).mono ?_
  rintro e w1 ⟨rfl, hb1⟩
  have z1 := hb1.size
  have HXL := Lib.hid (xl.below hb1)
  have HEL := Lib.hid el
  have HLL := Lib.hid hl
  clear xl el hl
  go_upto_region 5 with fail
  go_cut [5] (fun x wx => ∃ n : Nat, 1 ≤ n ∧ n ≤ 4 ∧ x = .int .i64 (n : Int) ∧ w1 = wx)
  case first =>
    go_wp2_with fail
    go_meet
    exact ⟨1 + k % 4, by omega, by omega, by simp, rfl⟩
  case rest =>
    obtain ⟨n, hn1, hn4, rfl, rfl⟩ := hcut
    go_wp2_with fail
    go_loopw [6, 7] (fun s ii wr => ∃ j : Nat, j ≤ L ∧ ii = .int .i64 (j : Int) ∧ wr.ownsRow w1.heap.size 3 1 s j ((row n (ls.take j)).map iv) ∧ Below w1.heap.size w1 wr) (fun _ i _ => L - (intOf i).toNat)
    case atStart => exact ⟨0, Nat.zero_le _, rfl, World.ownsRow_nil _ _ _ _, Below.refl _ _⟩
    case round =>
      obtain ⟨j, hj, rfl, hOj, hBj⟩ := hrel
      have zj := hBj.size
      obtain ⟨As, cs, rfl, hcs⟩ := own_cap hOj
      by_cases hlt : j < L
      · obtain ⟨A', c', hv, _, hA⟩ := HXL.out.below hBj
        injection hv with e1 e2 e3
        subst e1 e3
        obtain ⟨b0, o, rfl, _, hcell⟩ := hA (by omega)
        obtain ⟨x, hx⟩ : ∃ x, ls[j]? = some x := ⟨_, List.getElem?_eq_getElem (by have := HEL.out; omega)⟩
        have hg := hcell j (by omega)
        rw [List.getElem?_map, hx, Option.map_some] at hg
        have hxr := HLL.out x (List.mem_of_getElem? hx)
        have HN := Lib.hid (row_take n ls j x hx)
        clear hcell hA hx
        generalize hxs : (row n (ls.take j)).map iv = xs at hOj
        have HXS := Lib.hid hxs
        clear hxs
        have hlti : (j : Int) < (L : Int) := by omega
        have hdiv : (x : Int) / 2 ^ (32 - 8 * n) = ((shn n x : Nat) : Int) := by
          rw [shn, Int.natCast_ediv, Int.natCast_pow]; rfl
        have hyl : shn n x < 4294967296 := Nat.lt_of_le_of_lt (shn_le n x) hxr
        generalize shn n x = y at *
        go_wp2_with (at_builtin; refine wpList_append_sl rfl _ _ 25 rfl w1.heap.size 3 i3 (.int .i64 0) 1 8 Try.underlying25 hi3 hy0 hy1 hy2 rfl (by decide) _ _ _ rfl (hOj.alloc _) _ 1 1 _ rfl (Sl.new wr _ 3 _ 1 1 _ rfl rfl) ?q1 ?q2 ?q3 ?q4 ?_)
        case q1 => rfl
        case q2 => unfold maxLen; omega
        case q3 => omega
        case q4 => omega
        intro v2 w2 hown hgrow
        have hb2 : Below w1.heap.size w1 w2 := (hBj.alloc (by omega) _).grown hgrow (by simp; omega) (fun k hk => own_ge hOj hk)
        have hnew : xs ++ [Value.int .i64 (y : Int)] = (row n (ls.take (j + 1))).map iv := by
          rw [HN.out, ← HXS.out]; simp [iv]
        have HW : RowKit.Hid (w2.ownsRow w1.heap.size 3 1 v2 (j + 1) ((row n (ls.take (j + 1))).map iv)) := Lib.hid (by rw [← hnew]; exact hown)
        clear hown hgrow hnew HN
        go_wp2
        go_roundw
        case rel => exact ⟨j + 1, by omega, by go_num, HW.out, hb2⟩
        case measure => simp [intOf]; omega
      · have hjl : L = j := by omega
        subst hjl
        rw [List.take_of_length_le (by have := HEL.out; omega)] at hOj
        have xv : In wr (.slice As L cs) (row n ls) := ⟨by rw [row_length, HEL.out]; exact Sl.own hOj, row_fits n ls HLL.out, by rw [row_length, HEL.out]; omega⟩
        have hb2 := hb1.trans (hBj.mono z1)
        have z2 := hb2.size
        clear hOj hBj hb1 z1 zj HXL
        have hpo := putS_row n (row n ls) hn1 hn4
        have lB : (PlainBits.put [] n (row n ls)).length = n * L := by rw [PlainBits.put_length, row_length, HEL.out]; simp
        have HAT := Lib.hid (fun j x hx => row_at n ls j x hn1 hn4 HLL.out hx)
        have hML : n * L ≤ 32 := Nat.le_trans (Nat.mul_le_mul hn4 h8) (by decide)
        have HHV := Lib.hid (fun h => row_halves n (row n ls) h hn1 hn4)
        have HRL := Lib.hid (row_length n ls)
        have HRW : RowKit.Hid (∀ (j x : Nat), ls[j]? = some x → (row n ls)[j]? = some ((shn n x : Nat) : Int)) := Lib.hid (fun j x hx => by simp [row, hx])
        generalize PlainBits.put [] n (row n ls) = Bt at *
        generalize row n ls = zs at *
        generalize hM : n * L = M at *
        have hMi : (n : Int) * (L : Int) = (M : Int) := by rw [← hM]; simp
        have HM := Lib.hid hM
        have HLB := Lib.hid lB
        have HPO := Lib.hid hpo
        have HXV := Lib.hid xv
        clear hM lB hpo xv
        go_wp2_with fail
        refine (put_any _ _ [] zs (n : Int) wr (Tx.nil _) HXV.out (by decide)).mono ?_
        rintro e w2 ⟨v2, rfl, hO2, hB2⟩
        rw [HPO.out] at hO2
        have hb3 := hb2.trans (hB2.mono z2)
        have z3 := hb3.size
        have HXB := Lib.hid (hO2.text (by rw [HLB.out]; omega))
        obtain ⟨Ab, cb, hvb, hcb⟩ := own_cap hO2.1
        rw [HLB.out] at hvb hcb
        subst hvb
        have HXV2 := Lib.hid (HXV.out.below hB2)
        clear hO2 hB2 hb2 z2 HXV
        go_wp2
        go_loopw [9] (fun ii wq => ∃ j : Nat, j ≤ L ∧ ii = .int .i64 (j : Int) ∧ w2 = wq) (fun i _ => L - (intOf i).toNat)
        case atStart => exact ⟨0, Nat.zero_le _, rfl, rfl⟩
        case round =>
          obtain ⟨j, hj, rfl, rfl⟩ := hrel
          by_cases hlt : j < L
          · obtain ⟨x, hx⟩ : ∃ x, ls[j]? = some x := ⟨_, List.getElem?_eq_getElem (by have := HEL.out; omega)⟩
            obtain ⟨ht1, ht2⟩ := HAT.out j x hx
            have hjM : j * n ≤ M := by rw [← HM.out, Nat.mul_comm n L]; exact Nat.mul_le_mul_right n (by omega)
            obtain ⟨ub, cub, rb, yb⟩ := sub_l (A := Ab) (c := cb) (p := j * n) (bs := Bt) HLB.out hjM hcb
            have hrb : (Instr.slice 23 (.slice Ab M cb) (some (.int .i64 ((j : Int) * (n : Int)))) none none).run Try.prog w2 = .ok ub w2 := by
              rw [← Int.natCast_mul]; exact rb w2
            have hj0 : 0 ≤ (j : Int) * (n : Int) := by rw [← Int.natCast_mul]; omega
            have hj1 : (j : Int) * (n : Int) ≤ 32 := by rw [← Int.natCast_mul]; omega
            obtain ⟨A', c', hv, _, hA⟩ := HXV2.out.1
            injection hv with e1 e2 e3
            subst e1 e3
            obtain ⟨b0, o, rfl, _, hcell⟩ := hA (by omega)
            have hg := hcell j (by omega)
            rw [List.getElem?_map, HRW.out j x hx, Option.map_some, iv] at hg
            have HU := Lib.hid (yb w2 HXB.out)
            have HT1 := Lib.hid ht1
            have HT2 := Lib.hid ht2
            clear hA hcell hx ht1 ht2 rb yb e2
            generalize shn n x = y at *
            have hlti : (j : Int) < (L : Int) := by omega
            go_wp2_with fail
            refine (take_any _ _ (n : Int) w2 HU.out).mono ?_
            rintro e w3 ⟨rfl, rfl⟩
            rw [HT1.out, HT2.out]
            clear HU HT1 HT2
            go_wp2
            go_roundw
            case rel => exact ⟨j + 1, by omega, by go_num, trivial⟩
            case measure => simp [intOf]; omega
          · have hjl : L = j := by omega
            subst hjl
            obtain ⟨h, hh⟩ : ∃ h, L / 2 = h := ⟨_, rfl⟩
            have hhL : h ≤ L := by omega
            have hq1 : (L : Int).tdiv 2 = (h : Int) := by
              rw [Int.tdiv_eq_ediv_of_nonneg (by omega), ← hh]; simp
            have hq2 : IntKind.i64.wrap (h : Int) = (h : Int) := by rw [IntKind.wrap_i64]; omega
            obtain ⟨r0, HB2⟩ := HHV.out h
            have lzs : zs.length = L := by rw [HRL.out, HEL.out]
            obtain ⟨u1, r1, y1⟩ := isub_h (A := As) (c := cs) (p := h) (zs := zs) lzs hhL hcs
            obtain ⟨u2, r2, y2⟩ := isub_l (A := As) (c := cs) (p := h) (zs := zs) lzs hhL hcs
            have lB1 : (PlainBits.put [] n (zs.take h)).length ≤ 32 := by
              rw [PlainBits.put_length]
              have : n * (zs.take h).length ≤ 4 * 8 := Nat.mul_le_mul hn4 (by simp; omega)
              simp only [List.length_nil]; omega
            generalize PlainBits.put [] n (zs.take h) = B1 at *
            replace HB2 := Lib.hid HB2
            have HB1 := Lib.hid r0
            have lB := HLB.out
            have xv := HXV2.out
            have xB := HXB.out
            clear r0 hh
            go_upto_region 20 with fail
            refine wp_region_grow Try.checked.mixed (by kernel_rfl) (fun W => Below w2.heap.size w2 W)
              (fun i v W => match i with
                | 0 => v = .int .i64 (n : Int)
                | 1 => v = .slice As L cs
                | 2 => v = .slice As L cs
                | 3 => v = .int .i64 (L : Int)
                | 4 => v = .int .i64 (h : Int)
                | 5 => In W v (zs.take h)
                | 6 => Tx W v B1
                | 7 => v = .int .i64 (n : Int)
                | 8 => v = .slice As L cs
                | 9 => v = .slice As L cs
                | 10 => v = .int .i64 (L : Int)
                | 11 => v = .int .i64 (h : Int)
                | 12 => In W v (zs.drop h)
                | 13 => Tx W v Bt
                | 14 => v = .string (str Bt)
                | 15 => v = .slice Ab M cb
                | 16 => v = .string (str Bt)
                | 17 => v = .bool true
                | _ => v = .bool true) ?hS ?hR ?start ?each ?fin
            case hS =>
              intro W W' h hb
              exact h.trans (hb.mono h.size)
            case hR =>
              intro j v W W' h hb
              rcases j with _ | _ | _ | _ | _ | _ | _ | _ | _ | _ | _ | _ | _ | _ | _ | _ | _ | _ | j <;> first | exact h | exact Tx.below h hb | exact In.below h hb
            case start => exact (Below.refl _ _).drew
            case each =>
              intro i hi a W hold hp h6 K hK
              rcases i with _ | _ | _ | _ | _ | _ | _ | _ | _ | _ | _ | _ | _ | _ | _ | _ | _ | _ | i
              · have s := hold 5 rfl
                simp [predsOf, Region.binds, slotV] at hp
                refine wpOp_of rfl rfl ?_
                simp at s
                go_simp
                exact hK _ _ (by simp) (Below.refl _ _) rfl
              · have s := hold 6 rfl
                simp [predsOf, Region.binds, slotV] at hp
                refine wpOp_of rfl rfl ?_
                simp at s
                go_simp
                exact hK _ _ (by simp) (Below.refl _ _) rfl
              · have s := hold 6 rfl
                simp [predsOf, Region.binds, slotV] at hp
                refine wpOp_of rfl rfl ?_
                simp at s
                go_simp
                exact hK _ _ (by simp) (Below.refl _ _) rfl
              · simp [predsOf, Region.binds, slotV] at hp
                refine wpOp_of rfl rfl ?_
                go_simp
                exact hK _ _ (by simp) (Below.refl _ _) rfl
              · simp [predsOf, Region.binds, slotV] at hp
                refine wpOp_of rfl rfl ?_
                go_simp
                exact hK _ _ (by simp) (Below.refl _ _) (by simp)
              · simp [predsOf, Region.binds, slotV] at hp
                refine wpOp_of rfl rfl ?_
                have hrun := r1 W
                go_simp
                exact hK _ _ (by simp) (Below.refl _ _) (y1 W (xv.below h6))
              · simp [predsOf, Region.binds, slotV] at hp
                refine wpOp_of rfl rfl ?_
                go_simp
                refine (put_any _ _ [] (zs.take h) (n : Int) W (Tx.nil _) hp.2 (by decide)).mono ?_
                rintro e W' ⟨v', rfl, hO, hB⟩
                rw [HB1.out] at hO
                exact hK _ _ (by simp) hB (hO.text (by omega))
              · have s := hold 5 rfl
                simp [predsOf, Region.binds, slotV] at hp
                refine wpOp_of rfl rfl ?_
                simp at s
                go_simp
                exact hK _ _ (by simp) (Below.refl _ _) rfl
              · have s := hold 6 rfl
                simp [predsOf, Region.binds, slotV] at hp
                refine wpOp_of rfl rfl ?_
                simp at s
                go_simp
                exact hK _ _ (by simp) (Below.refl _ _) rfl
              · have s := hold 6 rfl
                simp [predsOf, Region.binds, slotV] at hp
                refine wpOp_of rfl rfl ?_
                simp at s
                go_simp
                exact hK _ _ (by simp) (Below.refl _ _) rfl
              · simp [predsOf, Region.binds, slotV] at hp
                refine wpOp_of rfl rfl ?_
                go_simp
                exact hK _ _ (by simp) (Below.refl _ _) rfl
              · simp [predsOf, Region.binds, slotV] at hp
                refine wpOp_of rfl rfl ?_
                go_simp
                exact hK _ _ (by simp) (Below.refl _ _) (by simp)
              · simp [predsOf, Region.binds, slotV] at hp
                refine wpOp_of rfl rfl ?_
                have hrun := r2 W
                go_simp
                exact hK _ _ (by simp) (Below.refl _ _) (y2 W (xv.below h6))
              · simp [predsOf, Region.binds, slotV] at hp
                refine wpOp_of rfl rfl ?_
                go_simp
                refine (put_any _ _ B1 (zs.drop h) (n : Int) W hp.1 hp.2.2.1 (by omega)).mono ?_
                rintro e W' ⟨v', rfl, hO, hB⟩
                rw [HB2.out] at hO
                exact hK _ _ (by simp) hB (hO.text (by omega))
              · simp [predsOf, Region.binds, slotV] at hp
                refine wpOp_of rfl rfl ?_
                have hs := hp.string
                go_simp
                exact hK _ _ (by simp) (Below.refl _ _) rfl
              · have s := hold 8 rfl
                simp [predsOf, Region.binds, slotV] at hp
                refine wpOp_of rfl rfl ?_
                simp at s
                go_simp
                exact hK _ _ (by simp) (Below.refl _ _) rfl
              · simp [predsOf, Region.binds, slotV] at hp
                refine wpOp_of rfl rfl ?_
                have hs := (xB.below h6).string
                go_simp
                exact hK _ _ (by simp) (Below.refl _ _) rfl
              · simp [predsOf, Region.binds, slotV] at hp
                refine wpOp_of rfl rfl ?_
                go_simp
                exact hK _ _ (by simp) (Below.refl _ _) (by simp)
              · have i0 : i = 0 := by simp at hi; omega
                subst i0
                simp [predsOf, Region.binds, slotV] at hp
                refine wpOp_of rfl rfl ?_
                go_simp
                exact hK _ _ (by simp) (Below.refl _ _) (by simp)
            case fin =>
              intro vs W hRs h6
              have hr := hRs 18 (by decide)
              simp at hr
              simp only [putAll, List.foldl_cons, List.foldl_nil, Act.put, List.setIfInBounds_toArray, List.set_cons_succ, List.set_cons_zero, hr]
              clear hRs hr
              go_wp2
              go_ret
              exact ⟨rfl, hb3.trans (h6.mono z3)⟩
end Go.Proofs.Yticglcnnggdidaa
