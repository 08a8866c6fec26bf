/-
  The walk of NameBack.
-/
import Derived.Test.YthghlpencjjjlaaDoorNh
namespace Go.Proofs.YthghlpencjjjlaaDoor
open Go.RowKit Go.Joins

theorem back_out (s : ByteArray) (A : Option Addr) (n c : Nat) (w : World) (hw : Ml w) (h : 80 < s.size ∨ 9 < n) : Calls Tryd.prog 4 #[.string s, .slice A n c] w fun e w' => e = .returned (.bool true) ∧ Below w.heap.size w w' := by
  have hb := begun_any w hw
  generalize hz : s.size = z at *
  by_cases h1 : 80 < z
  · have h1' : (80 : Int) < (z : Int) := by omega
    clear h
    go_enter Tryd.func4, Tryd.ntmps4
    go_wp2_with fail
    refine hb.mono ?_
    rintro e w1 ⟨rfl, hB⟩
    go_wp2
    go_ret
    exact ⟨rfl, hB⟩
  · have h1' : ¬ (80 : Int) < (z : Int) := by omega
    have h2' : (9 : Int) < (n : Int) := by omega
    clear h
    go_enter Tryd.func4, Tryd.ntmps4
    go_wp2_with fail
    refine hb.mono ?_
    rintro e w1 ⟨rfl, hB⟩
    go_wp2
    go_ret
    exact ⟨rfl, hB⟩

theorem join_small (ss : List ByteArray) (hz : ∀ s ∈ ss, s.size ≤ 6) (hl : ss.length ≤ 9) : (Lib.join (ss.map (·.data.toList)) [47]).length ≤ 100 := by
  cases ss with
  | nil => simp [Lib.join]
  | cons x r =>
    rw [List.map_cons, Lib.join_length]
    have hs : ∀ l : List ByteArray, (∀ s ∈ l, s.size ≤ 6) → Lib.lens (l.map (·.data.toList)) ≤ l.length * 6 := by
      intro l
      induction l with
      | nil => intro _; simp [Lib.lens]
      | cons y t ih =>
        intro h
        have h1 := h y (by simp)
        have h2 := ih fun s hs => h s (by simp [hs])
        rw [Lib.size_eq] at h1
        simp only [Lib.lens, List.map_cons, List.sum_cons, List.length_cons] at h2 ⊢
        omega
    have := hs (x :: r) hz
    simp only [List.map_cons, List.length_cons, List.length_map, List.length_nil] at this hl ⊢
    omega

theorem row_cell (w : World) (cs : Array Value) (t : TypeId) (j : Nat) : (w.alloc (.cells cs t)).cell? ⟨w.heap.size, j, none⟩ = cs[j]? := cell_alloc_mark_at w cs t (0, 0) w.heap.size j rfl

theorem five_cell (w : World) (x : Nat) : (w.alloc (.cells #[.string { data := #[97] }, .string { data := #[98, 99] }, .string { data := #[126, 49] }, .string { data := #[120, 45, 121, 46, 122, 33] }, .string { data := #[49, 50, 51, 52, 53, 54] }] 9)).cell? ⟨w.heap.size, x % 5, none⟩ = some (.string (PN.nm PN.five x)) := by
  rw [row_cell]
  have h : ∀ y : Fin 5, (#[.string { data := #[97] }, .string { data := #[98, 99] }, .string { data := #[126, 49] }, .string { data := #[120, 45, 121, 46, 122, 33] }, .string { data := #[49, 50, 51, 52, 53, 54] }] : Array Value)[y.val]? = some (.string (PN.five.getD y.val { data := #[] })) := fun y => by
    match y with
    | 0 => rfl
    | 1 => rfl
    | 2 => rfl
    | 3 => rfl
    | 4 => rfl
  exact h ⟨x % 5, Nat.mod_lt _ (by decide)⟩

set_option maxRecDepth 100000 in
set_option maxHeartbeats 8000000 in
theorem back_any (s : ByteArray) (A : Option Addr) (n c : Nat) (bs : List Nat) (w : World) (hw : Ml w) (hx : Tx w (.slice A n c) bs) (hn : bs.length = n) (hs : s.size ≤ 80) (hn9 : n ≤ 9) : Calls Tryd.prog 4 #[.string s, .slice A n c] w fun e w' => e = .returned (.bool true) ∧ Below w.heap.size w w' := by
  obtain ⟨i0, hi, hz0, hz1, hz2⟩ := info_parts Tryd.info9
  have hb := begun_any w hw
  have hs1 : ¬ (80 : Int) < (s.size : Int) := by omega
  have hs2 : ¬ (9 : Int) < (n : Int) := by omega
  have HX := Lib.hid hx
  have HW := Lib.hid hw
  have HLn := Lib.hid hn
  clear hx hw hn
  go_enter Tryd.func4, Tryd.ntmps4
  go_wp2_with fail
  refine hb.mono ?_
  rintro e w1 ⟨rfl, hB1⟩
  clear hb
  have hp1 := parts_any s true w1 (HW.out.below hB1) (by omega)
  go_wp2_with fail
  refine hp1.mono ?_
  rintro e w2 ⟨v2, rfl, hO2, hB2⟩
  clear hp1
  have hb2 := hB1.trans (hB2.mono hB1.size)
  have hSm := hO2.small
  obtain ⟨A2, c2, rfl, hc2⟩ := hO2.form
  have hpa := path_any _ _ w2 hSm (fun A n c h => by injection h with _ h1 h2; omega)
  generalize (PN.pt true s).length = L2 at *
  have hpy : PN.is true s = true → PN.path (PN.pt true s) = s := fun h => (PN.is_some h).1
  have HPY := Lib.hid hpy
  generalize PN.path (PN.pt true s) = PP at *
  clear hpy hSm hO2
  cases hk : PN.is true s with
  | true =>
    have hps := HPY.out hk
    subst hps
    have hse := seq_yes PP
    clear HPY hk
    go_wp2_with fail
    refine hpa.mono ?_
    rintro e w3 ⟨rfl, hB3⟩
    have hb3 := hb2.trans (hB3.mono hb2.size)
    clear hpa hB3 hb2 hB1 hB2
    go_wp2
    go_loopw [7, 8] (fun o i wr => ∃ k : Nat, k ≤ n ∧ i = .int .i64 (k : Int) ∧ Ro wr w.heap.size o ((bs.take k).map (PN.nm PN.five)) ∧ Below w.heap.size w wr) (fun _ i _ => n - (intOf i).toNat)
    case atStart => exact ⟨0, Nat.zero_le _, rfl, World.ownsRow_nil _ _ _ _, hb3⟩
    case round =>
      clear hb3
      obtain ⟨k, hk, rfl, hO, hB⟩ := hrel
      by_cases hlt : k < n
      · obtain ⟨b0, o0, rfl, hb0, hcell⟩ := (HX.out.below hB).at (by rw [HLn.out]; omega)
        obtain ⟨x, hx⟩ : ∃ x, bs[k]? = some x := ⟨_, List.getElem?_eq_getElem (by rw [HLn.out]; omega)⟩
        have hx256 := HX.out.2.1 x (List.mem_of_getElem? hx)
        have hg := (Below.cell (al wr (.cells #[.string { data := #[97] }, .string { data := #[98, 99] }, .string { data := #[126, 49] }, .string { data := #[120, 45, 121, 46, 122, 33] }, .string { data := #[49, 50, 51, 52, 53, 54] }] 9)) (p := ⟨b0, o0 + k, none⟩) hb0).trans (hcell k x hx)
        have h5 := five_cell wr x
        have hnx : (bs.take (k + 1)).map (PN.nm PN.five) = (bs.take k).map (PN.nm PN.five) ++ [PN.nm PN.five x] := by rw [List.take_add_one, hx, List.map_append]; rfl
        have hkl : ((bs.take k).map (PN.nm PN.five)).length = k := by rw [List.length_map, List.length_take, HLn.out]; omega
        have HN := Lib.hid hnx
        have HKL := Lib.hid hkl
        have HO := Lib.hid hO
        have zW := hB.size
        have ha1 := hB.alloc zW (.cells #[.string { data := #[97] }, .string { data := #[98, 99] }, .string { data := #[126, 49] }, .string { data := #[120, 45, 121, 46, 122, 33] }, .string { data := #[49, 50, 51, 52, 53, 54] }] 9)
        have hO1 := HO.out.on (al wr (.cells #[.string { data := #[97] }, .string { data := #[98, 99] }, .string { data := #[126, 49] }, .string { data := #[120, 45, 121, 46, 122, 33] }, .string { data := #[49, 50, 51, 52, 53, 54] }] 9))
        generalize PN.nm PN.five x = X at *
        obtain ⟨y, hy⟩ : ∃ y, x % 5 = y := ⟨_, rfl⟩
        rw [hy] at h5
        have y5 : y < 5 := by omega
        have hmod : (x : Int) % 5 = (y : Int) := by omega
        obtain ⟨Ao, co, rfl⟩ := own_form hO1
        have hO2 := hO1
        unfold Ro at hO2
        rw [HKL.out] at hO2 ⊢
        generalize hXS : ((bs.take k).map (PN.nm PN.five)).map Value.string = XS at hO2
        have HXS := Lib.hid hXS
        clear hcell hx hnx hkl hO hXS hO1 HO hy
        go_wp2_with (at_builtin; refine wpList_append_sl rfl _ _ 27 rfl w.heap.size 9 i0 (.string { data := #[] }) 1 16 Tryd.underlying27 hi hz0 hz1 hz2 rfl (by decide) _ _ _ rfl (hO2.alloc _) _ 1 1 _ rfl (Sl.new _ _ 9 _ 1 1 _ (by simp) rfl) ?q1 ?q2 ?q3 ?q4 ?_)
        case q1 => first | rfl | (intro u hu; simp at hu; subst hu; rfl)
        case q2 => unfold maxLen; omega
        case q3 => omega
        case q4 => first | omega | (simp; omega)
        intro v' w5 hown hgrow
        have hb5 : Below w.heap.size w w5 := (ha1.alloc ha1.size _).grown hgrow (by simp; omega) (fun k hk => own_ge hO2 hk)
        have hown' : Ro w5 w.heap.size v' ((bs.take (k + 1)).map (PN.nm PN.five)) := by
          rw [HN.out]
          unfold Ro
          rw [List.length_append, HKL.out, List.map_append, HXS.out]
          exact hown
        have HV := Lib.hid hown'
        clear hown hown' hgrow hO2 h5 hg ha1
        go_wp2
        go_roundw
        case rel => exact ⟨k + 1, by omega, by go_num, HV.out, hb5⟩
        case measure => simp [intOf]; omega
      · have hkn : k = n := by omega
        subst hkn
        rw [List.take_of_length_le (by rw [HLn.out]; exact Nat.le_refl _)] at hO
        have hok : ∀ z ∈ bs.map (PN.nm PN.five), PN.ok true z.data.toList = true := by
          intro z hz
          obtain ⟨y, _, rfl⟩ := List.mem_map.1 hz
          exact (PN.five_ok y).1
        have hsz : ∀ z ∈ bs.map (PN.nm PN.five), z.size ≤ 6 := by
          intro z hz
          obtain ⟨y, _, rfl⟩ := List.mem_map.1 hz
          exact (PN.five_ok y).2
        have hml : (bs.map (PN.nm PN.five)).length = k := by rw [List.length_map, HLn.out]
        generalize bs.map (PN.nm PN.five) = NS at *
        have hSN := hO.row (fun z hz => by have := hsz z hz; omega) (by omega)
        have hip := PN.is_path NS hok
        have hpp := PN.pt_path NS hok
        have hpl : (PN.path NS).size ≤ 65535 := by
          have := join_small NS hsz (by omega)
          rw [Lib.size_eq, PN.path, PN.mk_data, List.length_cons]; omega
        obtain ⟨A6, c6, rfl, hc6⟩ := hO.form
        have hq := path_any _ NS wr hSN (fun A n c h => by injection h with _ h1 h2; omega)
        have hwr := HW.out.below hB
        rw [hml] at hip hq ⊢ hpp
        have HSN := Lib.hid hSN
        have HPP := Lib.hid hpp
        generalize PN.path NS = PS at *
        clear hO hok hsz HX hpp hSN
        go_wp2_with fail
        refine hq.mono ?_
        rintro e w7 ⟨rfl, hB7⟩
        have hpq := parts_any PS true w7 (hwr.below hB7) hpl
        rw [hip] at hpq
        go_wp2_with fail
        refine hpq.mono ?_
        rintro e w8 ⟨v8, rfl, hO8, hB8⟩
        have hb8 := (hB.trans (hB7.mono hB.size)).trans (hB8.mono (hB.trans (hB7.mono hB.size)).size)
        have hSm8 := hO8.small
        obtain ⟨A8, c8, rfl, _⟩ := hO8.form
        clear hq hpq hO8
        by_cases h8 : k ≤ 8
        · have e8 := HPP.out h8
          have hdk : decide (k ≤ 8) = true := by simpa using h8
          have hdi : decide ((k : Int) ≤ 8) = true := by simp; omega
          rw [e8] at hSm8 ⊢
          have htx := texts_any _ _ NS w8 hSm8 ((HSN.out.below hB7).below hB8)
          rw [hml] at htx ⊢
          rw [hdk]
          have h8i : (k : Int) ≤ 8 := by omega
          clear hSm8 e8 HSN HPP hB7 hB8 hB
          go_wp2_with fail
          refine htx.mono ?_
          rintro e w9 ⟨rfl, hB9⟩
          go_wp2
          go_ret
          exact ⟨rfl, hb8.trans (hB9.mono hb8.size)⟩
        · have hdk : decide (k ≤ 8) = false := by simpa using h8
          have hdi : decide ((k : Int) ≤ 8) = false := by simp; omega
          rw [hdk]
          generalize (PN.pt true PS).length = L8
          clear hSm8 HSN HPP hB7 hB8 hB
          have h8i : ¬ (k : Int) ≤ 8 := by omega
          go_wp2
          go_ret
          exact ⟨rfl, hb8⟩
  | false =>
    have hb3 := hb2
    clear HPY hk hpa hb2 hB1 hB2
    go_wp2
    go_loopw [7, 8] (fun o i wr => ∃ k : Nat, k ≤ n ∧ i = .int .i64 (k : Int) ∧ Ro wr w.heap.size o ((bs.take k).map (PN.nm PN.five)) ∧ Below w.heap.size w wr) (fun _ i _ => n - (intOf i).toNat)
    case atStart => exact ⟨0, Nat.zero_le _, rfl, World.ownsRow_nil _ _ _ _, hb3⟩
    case round =>
      clear hb3
      obtain ⟨k, hk, rfl, hO, hB⟩ := hrel
      by_cases hlt : k < n
      · obtain ⟨b0, o0, rfl, hb0, hcell⟩ := (HX.out.below hB).at (by rw [HLn.out]; omega)
        obtain ⟨x, hx⟩ : ∃ x, bs[k]? = some x := ⟨_, List.getElem?_eq_getElem (by rw [HLn.out]; omega)⟩
        have hx256 := HX.out.2.1 x (List.mem_of_getElem? hx)
        have hg := (Below.cell (al wr (.cells #[.string { data := #[97] }, .string { data := #[98, 99] }, .string { data := #[126, 49] }, .string { data := #[120, 45, 121, 46, 122, 33] }, .string { data := #[49, 50, 51, 52, 53, 54] }] 9)) (p := ⟨b0, o0 + k, none⟩) hb0).trans (hcell k x hx)
        have h5 := five_cell wr x
        have hnx : (bs.take (k + 1)).map (PN.nm PN.five) = (bs.take k).map (PN.nm PN.five) ++ [PN.nm PN.five x] := by rw [List.take_add_one, hx, List.map_append]; rfl
        have hkl : ((bs.take k).map (PN.nm PN.five)).length = k := by rw [List.length_map, List.length_take, HLn.out]; omega
        have HN := Lib.hid hnx
        have HKL := Lib.hid hkl
        have HO := Lib.hid hO
        have zW := hB.size
        have ha1 := hB.alloc zW (.cells #[.string { data := #[97] }, .string { data := #[98, 99] }, .string { data := #[126, 49] }, .string { data := #[120, 45, 121, 46, 122, 33] }, .string { data := #[49, 50, 51, 52, 53, 54] }] 9)
        have hO1 := HO.out.on (al wr (.cells #[.string { data := #[97] }, .string { data := #[98, 99] }, .string { data := #[126, 49] }, .string { data := #[120, 45, 121, 46, 122, 33] }, .string { data := #[49, 50, 51, 52, 53, 54] }] 9))
        generalize PN.nm PN.five x = X at *
        obtain ⟨y, hy⟩ : ∃ y, x % 5 = y := ⟨_, rfl⟩
        rw [hy] at h5
        have y5 : y < 5 := by omega
        have hmod : (x : Int) % 5 = (y : Int) := by omega
        obtain ⟨Ao, co, rfl⟩ := own_form hO1
        have hO2 := hO1
        unfold Ro at hO2
        rw [HKL.out] at hO2 ⊢
        generalize hXS : ((bs.take k).map (PN.nm PN.five)).map Value.string = XS at hO2
        have HXS := Lib.hid hXS
        clear hcell hx hnx hkl hO hXS hO1 HO hy
        go_wp2_with (at_builtin; refine wpList_append_sl rfl _ _ 27 rfl w.heap.size 9 i0 (.string { data := #[] }) 1 16 Tryd.underlying27 hi hz0 hz1 hz2 rfl (by decide) _ _ _ rfl (hO2.alloc _) _ 1 1 _ rfl (Sl.new _ _ 9 _ 1 1 _ (by simp) rfl) ?q1 ?q2 ?q3 ?q4 ?_)
        case q1 => first | rfl | (intro u hu; simp at hu; subst hu; rfl)
        case q2 => unfold maxLen; omega
        case q3 => omega
        case q4 => first | omega | (simp; omega)
        intro v' w5 hown hgrow
        have hb5 : Below w.heap.size w w5 := (ha1.alloc ha1.size _).grown hgrow (by simp; omega) (fun k hk => own_ge hO2 hk)
        have hown' : Ro w5 w.heap.size v' ((bs.take (k + 1)).map (PN.nm PN.five)) := by
          rw [HN.out]
          unfold Ro
          rw [List.length_append, HKL.out, List.map_append, HXS.out]
          exact hown
        have HV := Lib.hid hown'
        clear hown hown' hgrow hO2 h5 hg ha1
        go_wp2
        go_roundw
        case rel => exact ⟨k + 1, by omega, by go_num, HV.out, hb5⟩
        case measure => simp [intOf]; omega
      · have hkn : k = n := by omega
        subst hkn
        rw [List.take_of_length_le (by rw [HLn.out]; exact Nat.le_refl _)] at hO
        have hok : ∀ z ∈ bs.map (PN.nm PN.five), PN.ok true z.data.toList = true := by
          intro z hz
          obtain ⟨y, _, rfl⟩ := List.mem_map.1 hz
          exact (PN.five_ok y).1
        have hsz : ∀ z ∈ bs.map (PN.nm PN.five), z.size ≤ 6 := by
          intro z hz
          obtain ⟨y, _, rfl⟩ := List.mem_map.1 hz
          exact (PN.five_ok y).2
        have hml : (bs.map (PN.nm PN.five)).length = k := by rw [List.length_map, HLn.out]
        generalize bs.map (PN.nm PN.five) = NS at *
        have hSN := hO.row (fun z hz => by have := hsz z hz; omega) (by omega)
        have hip := PN.is_path NS hok
        have hpp := PN.pt_path NS hok
        have hpl : (PN.path NS).size ≤ 65535 := by
          have := join_small NS hsz (by omega)
          rw [Lib.size_eq, PN.path, PN.mk_data, List.length_cons]; omega
        obtain ⟨A6, c6, rfl, hc6⟩ := hO.form
        have hq := path_any _ NS wr hSN (fun A n c h => by injection h with _ h1 h2; omega)
        have hwr := HW.out.below hB
        rw [hml] at hip hq ⊢ hpp
        have HSN := Lib.hid hSN
        have HPP := Lib.hid hpp
        generalize PN.path NS = PS at *
        clear hO hok hsz HX hpp hSN
        go_wp2_with fail
        refine hq.mono ?_
        rintro e w7 ⟨rfl, hB7⟩
        have hpq := parts_any PS true w7 (hwr.below hB7) hpl
        rw [hip] at hpq
        go_wp2_with fail
        refine hpq.mono ?_
        rintro e w8 ⟨v8, rfl, hO8, hB8⟩
        have hb8 := (hB.trans (hB7.mono hB.size)).trans (hB8.mono (hB.trans (hB7.mono hB.size)).size)
        have hSm8 := hO8.small
        obtain ⟨A8, c8, rfl, _⟩ := hO8.form
        clear hq hpq hO8
        by_cases h8 : k ≤ 8
        · have e8 := HPP.out h8
          have hdk : decide (k ≤ 8) = true := by simpa using h8
          have hdi : decide ((k : Int) ≤ 8) = true := by simp; omega
          rw [e8] at hSm8 ⊢
          have htx := texts_any _ _ NS w8 hSm8 ((HSN.out.below hB7).below hB8)
          rw [hml] at htx ⊢
          rw [hdk]
          have h8i : (k : Int) ≤ 8 := by omega
          clear hSm8 e8 HSN HPP hB7 hB8 hB
          go_wp2_with fail
          refine htx.mono ?_
          rintro e w9 ⟨rfl, hB9⟩
          go_wp2
          go_ret
          exact ⟨rfl, hb8.trans (hB9.mono hb8.size)⟩
        · have hdk : decide (k ≤ 8) = false := by simpa using h8
          have hdi : decide ((k : Int) ≤ 8) = false := by simp; omega
          rw [hdk]
          generalize (PN.pt true PS).length = L8
          clear hSm8 HSN HPP hB7 hB8 hB
          have h8i : ¬ (k : Int) ≤ 8 := by omega
          go_wp2
          go_ret
          exact ⟨rfl, hb8⟩
end Go.Proofs.YthghlpencjjjlaaDoor
