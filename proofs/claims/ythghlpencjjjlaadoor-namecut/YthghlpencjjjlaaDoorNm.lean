/-
  The walk of NameCut.
-/
import Derived.Test.YthghlpencjjjlaaDoorNl
namespace Go.Proofs.YthghlpencjjjlaaDoor
open Go.RowKit Go.Joins

theorem cut_out (n : Nat) (A : Option Addr) (n1 c1 : Nat) (W : World) (hM : Ml W) (h : 8 < n1) : Calls Tryd.prog 6 #[.int .u8 (n : Int), .slice A n1 c1] W fun e w' => e = .returned (.bool true) ∧ Below W.heap.size W w' := by
  have hb := begun_any W hM
  have h2' : (8 : Int) < (n1 : Int) := by omega
  clear h
  go_enter Tryd.func6, Tryd.ntmps6
  go_wp2_with fail
  refine hb.mono ?_
  rintro e w1 ⟨rfl, hB⟩
  go_wp2
  go_ret
  exact ⟨rfl, hB⟩

theorem four_cell (w : World) (x : Nat) : (w.alloc (.cells #[.string { data := #[97] }, .string { data := #[98, 46, 99] }, .string { data := #[120, 45, 121, 46, 122] }, .string { data := #[49, 50, 51, 52, 53, 54] }] 9)).cell? ⟨w.heap.size, x % 4, none⟩ = some (.string (PN.nm PN.four x)) := by
  rw [row_cell]
  have h : ∀ y : Fin 4, (#[.string { data := #[97] }, .string { data := #[98, 46, 99] }, .string { data := #[120, 45, 121, 46, 122] }, .string { data := #[49, 50, 51, 52, 53, 54] }] : Array Value)[y.val]? = some (.string (PN.four.getD y.val { data := #[] })) := fun y => by
    match y with
    | 0 => rfl
    | 1 => rfl
    | 2 => rfl
    | 3 => rfl
  exact h ⟨x % 4, Nat.mod_lt _ (by decide)⟩

/-- The front of a row of strings. -/
theorem Ss.sub {A : Option Addr} {n c p : Nat} {ss : List ByteArray} (l0 : ss.length = n) (hp : p ≤ n) (hnc : n ≤ c) : ∃ A' c', p ≤ c' ∧ (∀ W, (Instr.slice 27 (.slice A n c) none (some (.int .i64 (p : Int))) none).run Tryd.prog W = .ok (.slice A' p c') W) ∧ ∀ W, Ss W (.slice A n c) ss → Ss W (.slice A' p c') (ss.take p) := by
  refine ⟨if c = 0 then A else A.map (·.add (0 * 1)), c - 0, by omega, fun W => ?_, fun W h => ?_⟩
  · rw [run_slice_h W 27 A n c (by kernel_rfl) .i64 (p : Int) (by omega) (by omega)]
    kernel_rfl
  · obtain ⟨⟨A', c', hv, hl, hA⟩, hb, hm⟩ := h
    injection hv with e1 e2 e3
    subst e1 e3
    have hlen : (ss.take p).length = p := by rw [List.length_take]; omega
    refine ⟨⟨_, c, by rw [hlen]; rfl, by simp, fun hn => ?_⟩, fun s hs => hb s (List.mem_of_mem_take hs), by rw [hlen]; omega⟩
    rw [hlen] at hn
    obtain ⟨b, o, rfl, hbs, hc⟩ := hA (by omega)
    refine ⟨b, o, ?_, hbs, fun j hj => ?_⟩
    · rw [if_neg (by omega)]
      simp [Addr.add_lit]
    · rw [hlen] at hj
      rw [hc j (by omega)]
      have h1 : j < p := by omega
      simp [h1]

set_option maxRecDepth 100000 in
set_option maxHeartbeats 8000000 in
theorem cut_any (n : Nat) (A : Option Addr) (n1 c1 : Nat) (bs : List Nat) (W : World) (hM : Ml W) (hn : n < 256) (hx : Tx W (.slice A n1 c1) bs) (hl : bs.length = n1) (hn8 : n1 ≤ 8) : Calls Tryd.prog 6 #[.int .u8 (n : Int), .slice A n1 c1] W fun e w' => e = .returned (.bool true) ∧ Below W.heap.size W w' := by
  obtain ⟨i0, hi, hz0, hz1, hz2⟩ := info_parts Tryd.info9
  have hb := begun_any W hM
  have hs2 : ¬ (8 : Int) < (n1 : Int) := by omega
  have HX := Lib.hid hx
  have HW := Lib.hid hM
  have HLn := Lib.hid hl
  clear hx hM hl
  go_enter Tryd.func6, Tryd.ntmps6
  go_wp2_with fail
  refine hb.mono ?_
  rintro e w1 ⟨rfl, hB1⟩
  clear hb
  go_wp2
  go_loopw [5, 6] (fun o i wr => ∃ k : Nat, k ≤ n1 ∧ i = .int .i64 (k : Int) ∧ Ro wr W.heap.size o ((bs.take k).map (PN.nm PN.four)) ∧ Below W.heap.size W wr) (fun _ i _ => n1 - (intOf i).toNat)
  case atStart => exact ⟨0, Nat.zero_le _, rfl, World.ownsRow_nil _ _ _ _, hB1⟩
  case round =>
    clear hB1
    obtain ⟨k, hk, rfl, hO, hB⟩ := hrel
    by_cases hlt : k < n1
    · obtain ⟨b0, o0, rfl, hb0, hcell⟩ := (HX.out.below hB).at (by rw [HLn.out]; omega)
      obtain ⟨x, hx⟩ : ∃ x, bs[k]? = some x := ⟨_, List.getElem?_eq_getElem (by rw [HLn.out]; omega)⟩
      have hx256 := HX.out.2.1 x (List.mem_of_getElem? hx)
      have hg := (Below.cell (al wr (.cells #[.string { data := #[97] }, .string { data := #[98, 46, 99] }, .string { data := #[120, 45, 121, 46, 122] }, .string { data := #[49, 50, 51, 52, 53, 54] }] 9)) (p := ⟨b0, o0 + k, none⟩) hb0).trans (hcell k x hx)
      have h5 := four_cell wr x
      have hnx : (bs.take (k + 1)).map (PN.nm PN.four) = (bs.take k).map (PN.nm PN.four) ++ [PN.nm PN.four x] := by rw [List.take_add_one, hx, List.map_append]; rfl
      have hkl : ((bs.take k).map (PN.nm PN.four)).length = k := by rw [List.length_map, List.length_take, HLn.out]; omega
      have HN := Lib.hid hnx
      have HKL := Lib.hid hkl
      have HO := Lib.hid hO
      have zW := hB.size
      have ha1 := hB.alloc zW (.cells #[.string { data := #[97] }, .string { data := #[98, 46, 99] }, .string { data := #[120, 45, 121, 46, 122] }, .string { data := #[49, 50, 51, 52, 53, 54] }] 9)
      have hO1 := HO.out.on (al wr (.cells #[.string { data := #[97] }, .string { data := #[98, 46, 99] }, .string { data := #[120, 45, 121, 46, 122] }, .string { data := #[49, 50, 51, 52, 53, 54] }] 9))
      generalize PN.nm PN.four x = X at *
      obtain ⟨y, hy⟩ : ∃ y, x % 4 = y := ⟨_, rfl⟩
      rw [hy] at h5
      have y5 : y < 4 := by omega
      have hmod : (x : Int) % 4 = (y : Int) := by omega
      obtain ⟨Ao, co, rfl⟩ := own_form hO1
      have hO2 := hO1
      unfold Ro at hO2
      rw [HKL.out] at hO2 ⊢
      generalize hXS : ((bs.take k).map (PN.nm PN.four)).map Value.string = XS at hO2
      have HXS := Lib.hid hXS
      clear hcell hx hnx hkl hO hXS hO1 HO hy
      go_wp2_with (at_builtin; refine wpList_append_sl rfl _ _ 27 rfl W.heap.size 9 i0 (.string { data := #[] }) 1 16 Tryd.underlying27 hi hz0 hz1 hz2 rfl (by decide) _ _ _ rfl (hO2.alloc _) _ 1 1 _ rfl (Sl.new _ _ 9 _ 1 1 _ (by simp) rfl) ?q1 ?q2 ?q3 ?q4 ?_)
      case q1 => first | rfl | (intro u hu; simp at hu; subst hu; rfl)
      case q2 => unfold maxLen; omega
      case q3 => omega
      case q4 => first | omega | (simp; omega)
      intro v' w5 hown hgrow
      have hb5 : Below W.heap.size W w5 := (ha1.alloc ha1.size _).grown hgrow (by simp; omega) (fun k hk => own_ge hO2 hk)
      have hown' : Ro w5 W.heap.size v' ((bs.take (k + 1)).map (PN.nm PN.four)) := by
        rw [HN.out]
        unfold Ro
        rw [List.length_append, HKL.out, List.map_append, HXS.out]
        exact hown
      have HV := Lib.hid hown'
      clear hown hown' hgrow hO2 h5 hg ha1
      go_wp2
      go_roundw
      case rel => exact ⟨k + 1, by omega, by go_num, HV.out, hb5⟩
      case measure => simp [intOf]; omega
    · have hkn : k = n1 := by omega
      subst hkn
      rw [List.take_of_length_le (by rw [HLn.out]; exact Nat.le_refl _)] at hO
      have hsz : ∀ z ∈ bs.map (PN.nm PN.four), z.size ≤ 6 := by
        intro z hz
        obtain ⟨y, _, rfl⟩ := List.mem_map.1 hz
        exact (PN.four_ok y).2
      have hml : (bs.map (PN.nm PN.four)).length = k := by rw [List.length_map, HLn.out]
      generalize bs.map (PN.nm PN.four) = NS at *
      have hSN := hO.row (fun z hz => by have := hsz z hz; omega) (by omega)
      have hpl : (PN.path NS).size ≤ 65535 := by
        have := join_small NS hsz (by omega)
        rw [Lib.size_eq, PN.path, PN.mk_data, List.length_cons]; omega
      obtain ⟨A6, c6, rfl, hc6⟩ := hO.form
      rw [hml] at hSN hc6 ⊢
      have hx1 := Tx.new wr #[.int .u8 (n : Int)] (0, 0) 1 1 wr.heap.size rfl [n] rfl rfl (by simpa using hn) (by decide)
      have ha1 := al wr (.cells #[.int .u8 (n : Int)] 5)
      have hmd := made_any (some ⟨wr.heap.size, 0, none⟩) 1 1 (wr.alloc (.cells #[.int .u8 (n : Int)] 5))
      have HSN := Lib.hid hSN
      have HX1 := Lib.hid hx1
      have HA1 := Lib.hid ha1
      clear hO hsz HX hSN hx1 ha1 HLn hml
      go_wp2_with fail
      refine hmd.mono ?_
      rintro e w2 ⟨g, rfl, hg, hbx, hB2⟩
      have hmp := mpath_any _ _ 1 1 [n] HX1.out rfl g 0 w2 hB2 hg hbx (by decide)
      clear hmd hbx
      go_wp2_with fail
      refine hmp.mono ?_
      rintro e w3 ⟨s, j3, rfl, hs8, _, _, hB3⟩
      have hwr3 : Below wr.heap.size wr w3 := HA1.out.trans (hB3.mono HA1.out.size)
      have hq := path_any _ NS w3 (HSN.out.below hwr3) (fun A n c h => by injection h with _ h1 h2; omega)
      have hpl2 := hpl
      generalize PN.path NS = PS at *
      clear hmp hB2 hg HSN HX1 HA1 hB3
      go_wp2_with fail
      refine hq.mono ?_
      rintro e w4 ⟨rfl, hB4⟩
      have hb4 : Below W.heap.size W w4 := hB.trans ((hwr3.trans (hB4.mono hwr3.size)).mono hB.size)
      have hR := Ss.new w4 #[.string s, .string PS] (0, 0) 2 2 w4.heap.size rfl [s, PS] rfl rfl (by intro z hz; simp at hz; rcases hz with rfl | rfl <;> omega) (by decide)
      have hb5 := hb4.alloc hb4.size (.cells #[.string s, .string PS] 9)
      clear hq hB4 hwr3 hB hb4
      go_wp2
      generalize hw5 : World.alloc w4 _ = w5 at *
      have HR := Lib.hid hR
      have hzz : ∀ z ∈ [s, PS], z.size ≤ 65535 := by intro z hz; simp at hz; rcases hz with rfl | rfl <;> omega
      have HZ := Lib.hid hzz
      have HM5 := Lib.hid (HW.out.below hb5)
      have hz5 : Below w5.heap.size w5 w5 := Below.refl _ _
      clear hR hw5 hpl hpl2 hs8 hzz
      go_loopw [8] (fun i wr => ∃ k : Nat, k ≤ 2 ∧ i = .int .i64 (k : Int) ∧ Below w5.heap.size w5 wr) (fun i _ => 2 - (intOf i).toNat)
      case atStart => exact ⟨0, Nat.zero_le _, rfl, hz5⟩
      case round =>
        clear hz5 hlt hk
        obtain ⟨k, hk, rfl, hBr⟩ := hrel
        by_cases hlt : k < 2
        · obtain ⟨x, hx⟩ : ∃ x, [s, PS][k]? = some x := ⟨_, List.getElem?_eq_getElem hlt⟩
          have hxz := HZ.out x (List.mem_of_getElem? hx)
          have hg := (HR.out.below hBr).cellAt hx
          have cf := parts_any x false wr (HM5.out.below hBr) hxz
          have hkz : (0 : Int) ≤ (k : Int) := by omega
          have hkl : (k : Int) < 2 := by omega
          go_wp2_with fail
          refine cf.mono ?_
          rintro e w6 ⟨v6, rfl, hO6, hB6⟩
          have hb6 := hBr.trans (hB6.mono hBr.size)
          clear cf hg
          have hg := (HR.out.below hb6).cellAt hx
          have ct := parts_any x true w6 (HM5.out.below hb6) hxz
          obtain ⟨A6, c6, rfl, hc6⟩ := hO6.form
          have hSP6 := hO6.small
          generalize hP : PN.pt false x = P at *
          generalize hPL : P.length = L at *
          have HSP6 := Lib.hid hSP6
          clear hO6 hSP6
          go_wp2_with fail
          refine ct.mono ?_
          rintro e w7 ⟨v7, rfl, hO7, hB7⟩
          have hb7 := hb6.trans (hB7.mono hb6.size)
          have HSP := Lib.hid (HSP6.out.below hB7)
          obtain ⟨A7, c7, rfl, _⟩ := hO7.form
          generalize (PN.pt true x).length = L7 at *
          clear ct hO7 HSP6 hB7 hB6 hBr hb6 hg
          cases hf : PN.is false x with
          | false =>
            generalize PN.is true x = tb at *
            go_wp2
            go_roundw
            case rel => exact ⟨k + 1, by omega, by go_num, hb7⟩
            case measure => simp [intOf]; omega
          | true =>
            rw [PN.is_own hf]
            obtain ⟨f1, f2, f3⟩ := PN.is_some hf
            rw [hP] at f1 f2 f3
            have f4 := (PN.pt_le false x).2
            rw [hP] at f4
            rw [hPL] at f2
            have hpa : ∀ W', Below w7.heap.size w7 W' → Calls Tryd.prog 17 #[.slice A6 L c6] W' fun e w' => e = .returned (.string x) ∧ Below W'.heap.size W' w' := fun W' h => by
              have := path_any _ P W' (HSP.out.below h) (fun A n c h => by injection h with _ h1 h2; omega)
              rwa [f1] at this
            have hcw : ∀ W', Below w7.heap.size w7 W' → W'.cell? ⟨w4.heap.size, k, none⟩ = some (.string x) := fun W' h => (HR.out.below (hb7.trans (h.mono hb7.size))).cellAt hx
            have HPL := Lib.hid hPL
            have HPO := Lib.hid f3
            have HPZ := Lib.hid f4
            have HM7 := Lib.hid (HM5.out.below hb7)
            clear f1 f3 f4 hP hPL hx hf hxz
            go_upto_region 17 with fail
            refine wp_region_grow Tryd.checked.mixed (by kernel_rfl) (fun W' => Below w7.heap.size w7 W')
              (fun i v W' => match i with
                | 0 => v = .bool true
                | 1 => v = .bool false
                | 2 => v = .bool false
                | 3 => v = .slice A6 L c6
                | 4 => v = .string x
                | 5 => v = .slice (some ⟨w4.heap.size, 0, none⟩) 2 2
                | 6 => v = .int .i64 (k : Int)
                | 7 => v = .pointer (some ⟨w4.heap.size, k, none⟩)
                | 8 => v = .string x
                | 9 => v = .bool false
                | _ => v = .bool false) ?hS ?hR ?start ?each ?fin
            case hS =>
              intro W W' h hb
              exact h.trans (hb.mono h.size)
            case hR =>
              intro j v W W' h hb
              rcases j with _ | _ | _ | _ | _ | _ | _ | _ | _ | _ | j <;> first | exact h
            case start => exact (Below.refl _ _).drew
            case each =>
              intro i hi a W' hold hp h6 K hK
              rcases i with _ | _ | _ | _ | _ | _ | _ | _ | _ | _ | i
              · have s := hold 12 rfl
                simp [predsOf, Region.binds, slotV] at hp
                refine wpOp_of rfl rfl ?_
                simp at s
                go_simp
                exact hK _ _ (by simp) (Below.refl _ _) rfl
              · simp [predsOf, Region.binds, slotV] at hp
                refine wpOp_of rfl rfl ?_
                go_simp
                exact hK _ _ (by simp) (Below.refl _ _) (by simp)
              · simp [predsOf, Region.binds, slotV] at hp
                refine wpOp_of rfl rfl ?_
                go_simp
                exact hK _ _ (by simp) (Below.refl _ _) (by simp)
              · have s := hold 9 rfl
                simp [predsOf, Region.binds, slotV] at hp
                have hg := slot_bool (x := a.tmps[69]?) (b := false) (by simp [hp])
                refine wpOp_of rfl (by simp [Region.wanted, yielded, hg]) ?_
                simp at s
                go_simp
                exact hK _ _ (by simp) (Below.refl _ _) rfl
              · simp [predsOf, Region.binds, slotV] at hp
                have hg := slot_bool (x := a.tmps[69]?) (b := false) (by simp [hp])
                refine wpOp_of rfl (by simp [Region.wanted, yielded, hg]) ?_
                go_simp
                refine (hpa W' h6).mono ?_
                rintro e W2 ⟨rfl, hB'⟩
                exact hK _ _ (by simp) hB' rfl
              · have s := hold 7 rfl
                simp [predsOf, Region.binds, slotV] at hp
                have hg := slot_bool (x := a.tmps[69]?) (b := false) (by simp [hp])
                refine wpOp_of rfl (by simp [Region.wanted, yielded, hg]) ?_
                simp at s
                go_simp
                exact hK _ _ (by simp) (Below.refl _ _) rfl
              · have s := hold 8 rfl
                simp [predsOf, Region.binds, slotV] at hp
                have hg := slot_bool (x := a.tmps[69]?) (b := false) (by simp [hp])
                refine wpOp_of rfl (by simp [Region.wanted, yielded, hg]) ?_
                simp at s
                go_simp
                exact hK _ _ (by simp) (Below.refl _ _) rfl
              · simp [predsOf, Region.binds, slotV] at hp
                have hg := slot_bool (x := a.tmps[69]?) (b := false) (by simp [hp])
                refine wpOp_of rfl (by simp [Region.wanted, yielded, hg]) ?_
                go_simp
                exact hK _ _ (by simp) (Below.refl _ _) rfl
              · simp [predsOf, Region.binds, slotV] at hp
                have hg := slot_bool (x := a.tmps[69]?) (b := false) (by simp [hp])
                refine wpOp_of rfl (by simp [Region.wanted, yielded, hg]) ?_
                have hc := hcw W' h6
                go_simp
                exact hK _ _ (by simp) (Below.refl _ _) rfl
              · simp [predsOf, Region.binds, slotV] at hp
                have hg := slot_bool (x := a.tmps[69]?) (b := false) (by simp [hp])
                refine wpOp_of rfl (by simp [Region.wanted, yielded, hg]) ?_
                go_simp
                exact hK _ _ (by simp) (Below.refl _ _) (by simp)
              · have i0 : i = 0 := by simp at hi; omega
                subst i0
                simp [predsOf, Region.binds, slotV] at hp
                refine wpOp_of rfl rfl ?_
                go_simp
                exact hK _ _ (by simp) (Below.refl _ _) (by simp)
            case fin =>
              intro vs W' hRs h6
              have hr := hRs 10 (by decide)
              simp at hr
              simp only [putAll, List.foldl_cons, List.foldl_nil, Act.put, List.setIfInBounds_toArray, List.set_cons_succ, List.set_cons_zero, hr]
              clear hRs hr hcw hpa
              go_wp2
              go_loopw [13] (fun ii wr => ∃ j : Nat, j ≤ L ∧ ii = .int .i64 (j : Int) ∧ Below w7.heap.size w7 wr) (fun i _ => L - (intOf i).toNat)
              case atStart => exact ⟨0, Nat.zero_le _, rfl, h6⟩
              case round =>
                clear h6
                obtain ⟨j, hj, rfl, hBi⟩ := hrel
                by_cases hlj : j < L
                · obtain ⟨y, hy⟩ : ∃ y, P[j]? = some y := ⟨_, List.getElem?_eq_getElem (by rw [HPL.out]; omega)⟩
                  have hmy : PN.may y.data.toList = true := by have := HPO.out y (List.mem_of_getElem? hy); simpa [PN.ok] using this
                  have hSi := HSP.out.below hBi
                  obtain ⟨As, cs, hcs, rs, ys⟩ := Ss.sub (A := A6) (n := L) (c := c6) (p := j) (ss := P) HPL.out (by omega) hc6
                  have hrs := rs wr
                  have htk : (P.take j).length = j := by rw [List.length_take, HPL.out]; omega
                  have hok : ∀ z ∈ P.take j, PN.ok false z.data.toList = true := fun z hz => HPO.out z (List.mem_of_mem_take hz)
                  have hip := PN.is_path (P.take j) hok
                  have hpp := PN.pt_path (P.take j) hok (by rw [htk]; omega)
                  rw [htk, decide_eq_true (show j ≤ 8 by omega)] at hip
                  have hpl : (PN.path (P.take j)).size ≤ 65535 := by
                    have := join_small (P.take j) (fun z hz => HPZ.out z (List.mem_of_mem_take hz)) (by omega)
                    rw [Lib.size_eq, PN.path, PN.mk_data, List.length_cons]; omega
                  have hq := path_any _ (P.take j) wr (ys wr hSi) (fun A n c h => by injection h with _ h1 h2; omega)
                  obtain ⟨b0, o0, rfl, hb0, hcell⟩ := hSi.at (by rw [HPL.out]; omega)
                  have hcj := hcell j y hy
                  have hMi := (HM7.out).below hBi
                  have hpp2 : (PN.pt false (PN.path (P.take j))).length = j := by rw [hpp, htk]
                  generalize PN.path (P.take j) = PJ at *
                  have jz : (0 : Int) ≤ (j : Int) := by omega
                  have jl : (j : Int) < (L : Int) := by omega
                  have jc : (j : Int) ≤ (c6 : Int) := by omega
                  clear hy hok rs ys hcell hpp htk hSi
                  go_wp2_with fail
                  refine hq.mono ?_
                  rintro e w8 ⟨rfl, hB8⟩
                  have hc8 := (hB8.cell (p := ⟨b0, o0 + j, none⟩) hb0).trans hcj
                  have hz8 := Nat.lt_of_lt_of_le hb0 hB8.size
                  have hpq := parts_any PJ false w8 (hMi.below hB8) hpl
                  rw [hip] at hpq
                  clear hq hcj hrs
                  go_wp2_with fail
                  refine hpq.mono ?_
                  rintro e w9 ⟨v9, rfl, hO9, hB9⟩
                  have hc9 := (hB9.cell (p := ⟨b0, o0 + j, none⟩) hz8).trans hc8
                  obtain ⟨A9, c9, hv9, _⟩ := hO9.form
                  rw [hpp2] at hv9
                  subst hv9
                  have hbi := hBi.trans ((hB8.trans (hB9.mono hB8.size)).mono hBi.size)
                  have m1 := may_any y w9
                  rw [hmy] at m1
                  clear hpq hc8 hO9 hip hpp2 hpl hMi hB8 hB9 hBi
                  go_wp2_with fail
                  refine m1.mono ?_
                  rintro e w10 ⟨rfl, hw10⟩
                  rw [hw10]
                  clear hw10 m1
                  go_wp2
                  go_roundw
                  case rel => exact ⟨j + 1, by omega, by go_num, hbi⟩
                  case measure => simp [intOf]; omega
                · go_wp2
                  go_roundw
                  case rel => exact ⟨k + 1, by omega, by go_num, hb7.trans (hBi.mono hb7.size)⟩
                  case measure => simp [intOf]; omega
        · go_wp2
          go_ret
          exact ⟨rfl, hb5.trans (hBr.mono hb5.size)⟩
end Go.Proofs.YthghlpencjjjlaaDoor
