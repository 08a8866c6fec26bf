/-
  Contracts: the document's Names, NewTree, SameTree, Links.
  Contracts: New, the document's NewTree, with.
  Contracts: the document's SameTree, Links.
-/
import Derived.Test.YtdnobplhfbgbaaaGreatDoorQs
import Derived.Test.YtdnobplhfbgbaaaGreatDoorMTa
import Derived.Test.YtdnobplhfbgbaaaGreatDoorMNn
import Derived.Test.YtdnobplhfbgbaaaGreatDoorNl
import Derived.OwnWalk
namespace Go.Proofs.YtdnobplhfbgbaaaGreatDoor
open Go.RowKit Go.Joins

theorem Fit.nil : Fit [] := ⟨fun _ h => (by cases h), by decide⟩
set_option maxHeartbeats 4000000 in
theorem names_any (v : Value) (t : List PT.N) (k : Nat) (w : World) (h : Ts w v t) (hk : k ≤ 1000000) : Calls Tryz.prog 75 #[v, .int .i64 ((k + 1 : Nat) : Int)] w fun e w' => ∃ v', e = .returned v' ∧ Eo w' w.heap.size v' (PT.names t k) ∧ Fit (PT.names t k) ∧ Below w.heap.size w w' := by
  obtain ⟨A, c, rfl⟩ := h.form
  have hl := h.2.2
  rw [show ((k + 1 : Nat) : Int) = (k : Int) + 1 by omega]
  have hw1 : IntKind.i64.wrap ((k : Int) + 1 - 1) = (k : Int) := by rw [IntKind.wrap_i64]; omega
  have hn1 : ¬ (k : Int) + 1 < 1 := by omega
  cases hx : t[k]? with
  | none =>
    have hge : t.length ≤ k := List.getElem?_eq_none_iff.1 hx
    have hN : PT.names t k = [] := by rw [PT.names, hx]
    rw [hN]
    generalize t.length = L at *
    have hgt : (L : Int) < (k : Int) + 1 := by omega
    clear h hN hx
    go_enter Tryz.func75, Tryz.ntmps75
    go_wp2_with fail
    go_ret
    exact ⟨_, rfl, Eo.nil _ _, Fit.nil, Below.refl _ _⟩
  | some n =>
    have hlt : k < t.length := (List.getElem?_eq_some_iff.1 hx).1
    obtain ⟨b0, o0, rfl, hb0, hcell⟩ := h.at (by omega)
    obtain ⟨c0, c1, c2⟩ := hcell k n hx
    have hN : PT.names t k = PT.ents n := PT.names_at hx
    have hfit := h.2.1 n (List.mem_of_getElem? hx)
    rw [hN]
    generalize t.length = L at *
    have hgt : ¬ (L : Int) < (k : Int) + 1 := by omega
    clear h hN hx hcell
    by_cases hk2 : n.kind = 2
    · have hE : PT.ents n = PD.tl n.body := by rw [PT.ents, if_pos hk2]
      rw [hE]
      have ht := rtake_any n.body w hfit.2.2
      rw [hk2] at c0
      obtain ⟨kd, md, s⟩ := n
      dsimp only at *
      clear hE hfit
      go_enter Tryz.func75, Tryz.ntmps75
      go_wp2_with (go_at_call 86; refine ht.mono ?_; rintro e w1 ⟨v1, rfl, hO, hF, hB⟩)
      go_ret
      exact ⟨_, rfl, hO, hF, hB⟩
    · have hE : PT.ents n = [] := PT.ents_none hk2
      rw [hE]
      obtain ⟨kd, md, s⟩ := n
      dsimp only at *
      clear hE hfit
      go_enter Tryz.func75, Tryz.ntmps75
      go_wp2_with fail
      go_ret
      exact ⟨_, rfl, Eo.nil _ _, Fit.nil, Below.refl _ _⟩
end Go.Proofs.YtdnobplhfbgbaaaGreatDoor
namespace Go.Proofs.YtdnobplhfbgbaaaGreatDoor
open Go.RowKit Go.Joins

theorem Tryz.info27 : (Tryz.prog.info? 27).map (fun i => (i.zero, i.size, i.bytes)) = some (some (.agg #[.int .i64 0, .int .i64 0, .string { data := #[] }]), 3, 32) := by kernel_rfl
theorem Bx.tri {w : World} {g : Nat} {a b : Int} {s : ByteArray} (h : Bx w g 27 #[.int .i64 a, .int .i64 b, .string s]) : w.cell? ⟨g, 0, none⟩ = some (.int .i64 a) ∧ w.cell? ⟨g, 1, none⟩ = some (.int .i64 b) ∧ w.cell? ⟨g, 2, none⟩ = some (.string s) := ⟨h.cell 0, h.cell 1, h.cell 2⟩
/-- A row of one's own that has something lies in a block. -/
theorem own_box {w : World} {base size n : Nat} {e : TypeId} {v : Value} {xs : List Value} (h : w.ownsRow base e size v n xs) (hn : 0 < n) : ∃ g c cur, v = .slice (some ⟨g, 0, none⟩) n c ∧ base ≤ g ∧ Bx w g e cur ∧ n ≤ c ∧ cur.size = c * size := by
  obtain ⟨hl, h⟩ := h
  rcases h with ⟨rfl, rfl⟩ | ⟨g, cap, cur, rfl, hb, hh, hn', hm, hs, ht⟩
  · omega
  · exact ⟨g, cap, cur, rfl, hb, hh, hn', hs⟩
theorem own_none (w : World) (base : Nat) (e : TypeId) (size g : Nat) (hg : base ≤ g) (hh : Bx w g e #[]) : w.ownsRow base e size (.slice (some ⟨g, 0, none⟩) 0 0) 0 [] :=
  ⟨by simp, .inr ⟨g, 0, #[], rfl, hg, hh, Nat.le_refl _, by decide, by simp, by simp⟩⟩
def zeros9 : Array Value := madeCells #[.int .i64 0, .int .i64 0, .string { data := #[] }] 27
theorem make9 (w : World) : (Instr.makeSlice 24 (.int .i64 9) (.int .i64 9)).run Tryz.prog w = .ok (.slice (some ⟨w.heap.size, 0, none⟩) 9 9) (w.alloc (.cells zeros9 27)) := by
  obtain ⟨i0, hi, hz0, hz1, hz2⟩ := info_parts Tryz.info27
  have h := run_make (P := Tryz.prog) w 24 27 i0 (.agg #[.int .i64 0, .int .i64 0, .string { data := #[] }]) Tryz.underlying24 hi hz0 .i64 .i64 9 9 (by decide) (by decide) (by rw [hz2]; decide) (by decide)
  rw [hz1] at h
  exact h
theorem zeros9_list : zeros9.toList = ns (List.replicate 9 PT.zero) := by
  unfold zeros9 madeCells
  rw [Array.toList_map, Array.toList_range]
  rfl
theorem zeros9_size : zeros9.size = 27 := by rw [← Array.length_toList, zeros9_list, ns_length]; rfl
theorem zeros_To (w : World) (g : Nat) (h : Bx w g 27 zeros9) : To 27 w g (.slice (some ⟨g, 0, none⟩) 9 9) (List.replicate 9 PT.zero) :=
  ⟨ns_length _, .inr ⟨g, 9, zeros9, rfl, Nat.le_refl _, h, by decide, by decide, zeros9_size, by rw [zeros9_list, List.take_of_length_le (by rw [ns_length]; exact Nat.le_refl _)]⟩⟩
theorem zeros9_at (j : Nat) : zeros9[j]? = (ns (List.replicate 9 PT.zero))[j]? := by rw [← Array.getElem?_toList, zeros9_list]
set_option maxRecDepth 100000 in
set_option maxHeartbeats 4000000 in
theorem rnew_any (w : World) : Calls Tryz.prog 33 #[] w fun e w' => ∃ v', e = .returned v' ∧ To 27 w' w.heap.size v' PT.new ∧ Below w.heap.size w w' := by
  have hmk := make9 w
  have hz := Bx.new w 27 zeros9
  have hb := al w (.cells zeros9 27)
  go_enter Tryz.func33, Tryz.ntmps33
  go_upto_region 2 with fail
  generalize w.alloc (.cells zeros9 27) = w1 at *
  generalize hgx : w.heap.size = gx at *
  have c0 : w1.cell? ⟨gx, 0, none⟩ = some (.int .i64 0) := (hz.cell 0).trans (zeros9_at 0)
  have c1 : w1.cell? ⟨gx, 1, none⟩ = some (.int .i64 0) := (hz.cell 1).trans (zeros9_at 1)
  have c2 : w1.cell? ⟨gx, 2, none⟩ = some (.string { data := #[] }) := (hz.cell 2).trans (zeros9_at 2)
  have f0 := hz.frozen 0
  have f1 := hz.frozen 1
  have f2 := hz.frozen 2
  have hT := zeros_To w1 gx hz
  have hN := hT.set (k := 0) (by decide) (by decide) ⟨2, 7, { data := #[] }⟩
  have hend : Below gx w (((w1.setCell ⟨gx, 0, none⟩ (.int .i64 2)).setCell ⟨gx, 1, none⟩ (.int .i64 7)).setCell ⟨gx, 2, none⟩ (.string { data := #[] })) := ((hb.setCell (p := ⟨gx, 0, none⟩) (Nat.le_refl _) _).setCell (p := ⟨gx, 1, none⟩) (Nat.le_refl _) _).setCell (p := ⟨gx, 2, none⟩) (Nat.le_refl _) _
  go_wp2
  go_ret
  exact ⟨_, rfl, hgx ▸ hN, hgx ▸ hend⟩
set_option maxRecDepth 100000 in
set_option maxHeartbeats 4000000 in
theorem with_any (v : Value) (t : List PT.N) (k : Nat) (n : PT.N) (w : World) (h : Ts w v t) (hk : k < t.length) : Calls Tryz.prog 77 #[v, .int .i64 ((k + 1 : Nat) : Int), .agg #[.int .i64 n.kind, .int .i64 n.mode, .string n.body]] w fun e w' => ∃ v', e = .returned v' ∧ To 27 w' w.heap.size v' (t.set k n) ∧ Below w.heap.size w w' := by
  obtain ⟨i0, hi, hz0, hz1, hz2⟩ := info_parts Tryz.info27
  obtain ⟨A, c, rfl⟩ := h.form
  have hl := h.2.2
  rw [show ((k + 1 : Nat) : Int) = (k : Int) + 1 by omega]
  have hw1 : IntKind.i64.wrap ((k : Int) + 1 - 1) = (k : Int) := by rw [IntKind.wrap_i64]; omega
  obtain ⟨kd, md, s⟩ := n
  have hb1 := al w (.cells #[.int .i64 kd, .int .i64 md, .string s] 27)
  have hbx1 := Bx.new w 27 #[.int .i64 kd, .int .i64 md, .string s]
  have hz1' : (w.alloc (.cells #[.int .i64 kd, .int .i64 md, .string s] 27)).heap.size = w.heap.size + 1 := by simp
  generalize hL : t.length = L at *
  have H := Lib.hid h
  clear h
  go_enter Tryz.func77, Tryz.ntmps77
  go_upto_region 1 with fail
  generalize w.alloc (.cells #[.int .i64 kd, .int .i64 md, .string s] 27) = w1 at *
  generalize hgx : w.heap.size = gx at *
  have hown0 : (w1.alloc (.cells #[] 27)).ownsRow (gx + 1) 27 3 (.slice (some ⟨gx + 1, 0, none⟩) 0 0) 0 [] := own_none _ _ _ _ _ (by omega) (hz1' ▸ Bx.new w1 27 #[])
  have hb2 := hb1.alloc (by omega) (.cells #[] 27)
  have hT := H.out.below (hgx ▸ hb2)
  have hx2 := hbx1.alloc (.cells #[] 27)
  go_wp2_with (at_builtin; refine wpList_append_sl rfl _ _ 24 rfl (gx + 1) 27 i0 (.agg #[.int .i64 0, .int .i64 0, .string { data := #[] }]) 3 32 Tryz.underlying24 hi hz0 hz1 hz2 rfl (by decide) _ 0 [] rfl hown0 _ L c (ns t) rfl (hL ▸ hT.1.1) (ns_cell _) ?q2 ?q3 ?q4 ?_)
  case q2 => unfold maxLen; omega
  case q3 => omega
  case q4 => simp; omega
  intro v5 w5 hown hgrow
  have hb5 : Below gx w w5 := hb2.grown hgrow (by simp; omega) (fun k hk => by simp [Value.ownBlock] at hk; omega)
  have hx5 := hx2.grown hgrow (by simp [Value.ownBlock])
  obtain ⟨g, cap, cur, rfl, hgb, hbg, hcap, hcs⟩ := own_box hown (by omega)
  have hO5 : To 27 w5 (gx + 1) (.slice (some ⟨g, 0, none⟩) L cap) t := by unfold To; rw [hL]; exact hown
  have hN := (hO5.set (k := k) hL hk ⟨kd, md, s⟩).base (Nat.le_succ gx)
  have hend : Below gx w (((w5.setCell ⟨g, k * 3, none⟩ (.int .i64 kd)).setCell ⟨g, k * 3 + 1, none⟩ (.int .i64 md)).setCell ⟨g, k * 3 + 2, none⟩ (.string s)) := ((hb5.setCell (p := ⟨g, k * 3, none⟩) (by exact Nat.le_of_succ_le hgb) _).setCell (p := ⟨g, k * 3 + 1, none⟩) (by exact Nat.le_of_succ_le hgb) _).setCell (p := ⟨g, k * 3 + 2, none⟩) (by exact Nat.le_of_succ_le hgb) _
  obtain ⟨c0, c1, c2⟩ := hx5.tri
  have d := hbg.cell
  have f := hbg.frozen
  have e0 : cur[k * 3]? = some cur[k * 3] := Array.getElem?_eq_getElem (by omega)
  have e1 : cur[k * 3 + 1]? = some cur[k * 3 + 1] := Array.getElem?_eq_getElem (by omega)
  have e2 : cur[k * 3 + 2]? = some cur[k * 3 + 2] := Array.getElem?_eq_getElem (by omega)
  have d0 := (d (k * 3)).trans e0
  have d1 := (d (k * 3 + 1)).trans e1
  have d2 := (d (k * 3 + 2)).trans e2
  have f0 := f (k * 3)
  have f1 := f (k * 3 + 1)
  have f2 := f (k * 3 + 2)
  generalize cur[k * 3] = z0 at *
  generalize cur[k * 3 + 1] = z1 at *
  generalize cur[k * 3 + 2] = z2 at *
  have HN := Lib.hid hN
  have HE := Lib.hid hend
  clear hN hend hO5 hown hgrow hx5 hbg d f e0 e1 e2 hx2 hT hb2 hown0 hbx1 hb5
  go_wp2
  go_ret
  exact ⟨_, rfl, hgx ▸ HN.out, hgx ▸ HE.out⟩
end Go.Proofs.YtdnobplhfbgbaaaGreatDoor
namespace Go.Proofs.YtdnobplhfbgbaaaGreatDoor
open Go.RowKit Go.Joins

theorem take_eq_at {α : Type} {a b : List α} {k : Nat} {x y : α} (h : a.take k = b.take k) (hx : a[k]? = some x) (hy : b[k]? = some y) : a.take (k + 1) = b.take (k + 1) ↔ x = y := by
  have h1 : a.take (k + 1) = a.take k ++ [x] := by rw [List.take_add_one, hx]; rfl
  have h2 : b.take (k + 1) = b.take k ++ [y] := by rw [List.take_add_one, hy]; rfl
  rw [h1, h2, h]
  simp
theorem take_ne_at {α : Type} {a b : List α} {k : Nat} {x y : α} (hx : a[k]? = some x) (hy : b[k]? = some y) (hxy : x ≠ y) : a ≠ b := fun e => by
  subst e
  rw [hx] at hy
  exact hxy (Option.some.inj hy)
set_option maxHeartbeats 4000000 in
theorem rsame_any (v u : Value) (a b : List PT.N) (w : World) (h : Ts w v a) (h' : Ts w u b) : Calls Tryz.prog 26 #[v, u] w fun e w' => e = .returned (.bool (decide (a = b))) ∧ Below w.heap.size w w' := by
  obtain ⟨A, c, rfl⟩ := h.form
  obtain ⟨A', c', rfl⟩ := h'.form
  have hl := h.2.2
  by_cases hab : a.length = b.length
  · rw [hab] at h hl ⊢
    have HS := Lib.hid h
    have HS' := Lib.hid h'
    generalize hL : b.length = L at *
    have HL := Lib.hid hL
    have HA := Lib.hid hab
    clear h hL h' hab
    obtain ⟨D, hD⟩ : ∃ D, decide (a = b) = D := ⟨_, rfl⟩
    rw [hD]
    have HD := Lib.hid hD
    clear hD
    go_enter Tryz.func26, Tryz.ntmps26
    go_wp2
    go_loopw [5] (fun i wr => ∃ k : Nat, k ≤ L ∧ i = .int .i64 (k : Int) ∧ Below w.heap.size w wr ∧ a.take k = b.take k) (fun i _ => L - (intOf i).toNat)
    case atStart => exact ⟨0, Nat.zero_le _, rfl, Below.refl _ _, rfl⟩
    case round =>
      obtain ⟨k, hk, rfl, hB, hT⟩ := hrel
      by_cases hlt : k < L
      · obtain ⟨b0, o0, rfl, hb0, hcell⟩ := (HS.out.below hB).at (by rw [HA.out]; omega)
        obtain ⟨b1, o1, rfl, hb1, hcell'⟩ := (HS'.out.below hB).at (by rw [HL.out]; omega)
        obtain ⟨x, hx⟩ : ∃ x, a[k]? = some x := ⟨_, List.getElem?_eq_getElem (by rw [HA.out]; omega)⟩
        obtain ⟨y, hy⟩ : ∃ y, b[k]? = some y := ⟨_, List.getElem?_eq_getElem (by rw [HL.out]; omega)⟩
        obtain ⟨g0, g1, g2⟩ := hcell k x hx
        obtain ⟨g3, g4, g5⟩ := hcell' k y hy
        have hE := take_eq_at hT hx hy
        have hN := take_ne_at hx hy
        obtain ⟨k1, m1, s1⟩ := x
        obtain ⟨k2, m2, s2⟩ := y
        dsimp only at g0 g1 g2 g3 g4 g5
        clear hcell hcell' hx hy hb0 hb1
        by_cases e1 : k1 = k2
        · subst e1
          by_cases e2 : m1 = m2
          · subst e2
            by_cases e3 : s1 = s2
            · subst e3
              have hq := seq_yes s1
              have hE' := Lib.hid (hE.2 rfl)
              clear hE hN
              go_wp2_with fail
              go_quiet (fail)
              go_wp2
              go_roundw
              case rel => exact ⟨k + 1, by omega, by go_num, drewN_below hB _, hE'.out⟩
              case measure => simp [intOf]; omega
            · have hq := seq_no e3
              have hDf : D = false := by rw [← HD.out]; exact decide_eq_false (hN fun e => by injection e; contradiction)
              subst hDf
              clear hE hN
              go_wp2_with fail
              go_quiet (fail)
              go_wp2
              go_ret
              exact ⟨rfl, drewN_below hB _⟩
          · have hDf : D = false := by rw [← HD.out]; exact decide_eq_false (hN fun e => by injection e; contradiction)
            subst hDf
            clear hE hN
            go_wp2_with fail
            go_quiet (fail)
            go_wp2
            go_ret
            exact ⟨rfl, drewN_below hB _⟩
        · have hDf : D = false := by rw [← HD.out]; exact decide_eq_false (hN fun e => by injection e; contradiction)
          subst hDf
          clear hE hN
          go_wp2_with fail
          go_quiet (fail)
          go_wp2
          go_ret
          exact ⟨rfl, drewN_below hB _⟩
      · have hDt : D = true := by
          rw [← HD.out]
          have hkL : k = L := by omega
          subst hkL
          rw [List.take_of_length_le (by rw [HA.out]; exact Nat.le_refl _), List.take_of_length_le (by rw [HL.out]; exact Nat.le_refl _)] at hT
          exact decide_eq_true hT
        subst hDt
        clear HS HS' HL HA HD hT
        go_wp2
        go_ret
        exact ⟨rfl, hB⟩
  · have hDf : decide (a = b) = false := decide_eq_false fun e => hab (by rw [e])
    rw [hDf]
    generalize a.length = L at *
    generalize b.length = M at *
    have hne : ¬ (L : Int) = (M : Int) := by omega
    clear h h' hDf hab
    go_enter Tryz.func26, Tryz.ntmps26
    go_wp2
    go_ret
    exact ⟨rfl, Below.refl _ _⟩

theorem names_ix (v : Value) (t : List PT.N) (k : Nat) (w : World) (h : Ts w v t) (hk : k ≤ 1000000) : Calls Tryz.prog 75 #[v, .int .i64 ((k : Int) + 1)] w fun e w' => ∃ v', e = .returned v' ∧ Eo w' w.heap.size v' (PT.names t k) ∧ Fit (PT.names t k) ∧ Below w.heap.size w w' := by
  have := names_any v t k w h hk
  rw [show ((k + 1 : Nat) : Int) = (k : Int) + 1 by omega] at this
  exact this
namespace PT
/-- How many entries have the number z. -/
def cntI (l : List E) (z : Int) : Nat := l.countP fun e => decide (e.2 = z)
def namedI (t : List N) (z : Int) : Nat := (t.map fun n => cntI (ents n) z).sum
def linksI (t : List N) (z : Int) : Nat := if z = 1 then 1 else namedI t z
theorem cntI_snoc {l : List E} {k : Nat} {e : E} (z : Int) (h : l[k]? = some e) : cntI (l.take (k + 1)) z = cntI (l.take k) z + if e.2 = z then 1 else 0 := by
  rw [List.take_add_one, h]
  simp [cntI, List.countP_append, List.countP_cons]
theorem cntI_le (l : List E) (k : Nat) (z : Int) : cntI (l.take k) z ≤ k := by
  have := List.countP_le_length (p := fun e : E => decide (e.2 = z)) (l := l.take k)
  rw [List.length_take] at this
  unfold cntI
  omega
theorem namedI_snoc {t : List N} {k : Nat} (z : Int) (h : k < t.length) : namedI (t.take (k + 1)) z = namedI (t.take k) z + cntI (names t k) z := by
  have hx := List.getElem?_eq_getElem h
  rw [names_at hx, List.take_add_one, hx, namedI, namedI, List.map_append, List.sum_append]
  simp
theorem namedI_named (t : List N) (k : Nat) : namedI t ((k + 1 : Nat) : Int) = named t k := by
  unfold namedI named
  congr 1
  apply List.map_congr_left
  intro n _
  unfold cntI cnt
  apply List.countP_congr
  intro e he
  have hm := PD.may_size (ents_may he)
  simp only [decide_eq_true_eq, beq_iff_eq]
  unfold ix
  constructor <;> intro h <;> omega
theorem linksI_root (t : List N) : linksI t 1 = 1 := if_pos rfl
theorem linksI_named (t : List N) {k : Nat} (h : 0 < k) : linksI t ((k + 1 : Nat) : Int) = named t k := by
  rw [linksI, if_neg (by omega), namedI_named]
/-- No entry has a number below one. -/
theorem namedI_low (t : List N) {z : Int} (h : z < 1 ∨ 9 < z) : namedI t z = 0 := by
  unfold namedI
  apply sum_zero
  intro x hx
  obtain ⟨n, _, rfl⟩ := List.mem_map.1 hx
  refine List.countP_eq_zero.2 fun e he => ?_
  have hm := PD.may_size (ents_may he)
  simp only [decide_eq_true_eq]
  omega
end PT
set_option maxHeartbeats 4000000 in
theorem rlinks_any (v : Value) (t : List PT.N) (z : Int) (w : World) (h : Ts w v t) : Calls Tryz.prog 38 #[v, .int .i64 z] w fun e w' => e = .returned (.int .i64 (PT.linksI t z : Nat)) ∧ Below w.heap.size w w' := by
  obtain ⟨A, c, rfl⟩ := h.form
  have hl := h.2.2
  by_cases h1 : z = 1
  · subst h1
    rw [PT.linksI_root]
    clear h
    go_enter Tryz.func38, Tryz.ntmps38
    go_wp2
    go_ret
    exact ⟨rfl, Below.refl _ _⟩
  · rw [show PT.linksI t z = PT.namedI t z from if_neg h1]
    have hnm := fun k W (hW : Below w.heap.size w W) (hk : k ≤ 1000000) => names_ix (.slice A t.length c) t k W (h.below hW) hk
    have hsn := fun k (hk : k < t.length) => PT.namedI_snoc (t := t) (k := k) z hk
    have htk : PT.namedI (t.take t.length) z = PT.namedI t z := by rw [List.take_of_length_le (Nat.le_refl _)]
    have hst : PT.namedI (t.take 0) z = 0 := rfl
    obtain ⟨F, hF⟩ : ∃ F : Nat → Nat, ∀ k, PT.namedI (t.take k) z = F k := ⟨_, fun _ => rfl⟩
    obtain ⟨R, hR⟩ : ∃ R, PT.namedI t z = R := ⟨_, rfl⟩
    rw [hR] at htk ⊢
    rw [hF] at htk hst
    simp only [hF] at hsn
    generalize hL : t.length = L at *
    have HM := Lib.hid hnm
    have HS := Lib.hid hsn
    have HT := Lib.hid htk
    have hz0 : (z == 1) = false := by simpa using h1
    clear h hnm hsn htk hF hR hL
    go_enter Tryz.func38, Tryz.ntmps38
    go_wp2
    go_loopw [5, 6] (fun n i wr => ∃ k : Nat, k ≤ L ∧ i = .int .i64 ((k : Int) + 1) ∧ n = .int .i64 (F k : Nat) ∧ F k ≤ 65536 * k ∧ Below w.heap.size w wr) (fun _ i _ => L + 1 - (intOf i).toNat)
    case atStart => exact ⟨0, Nat.zero_le _, rfl, by rw [hst]; rfl, by rw [hst]; exact Nat.zero_le _, Below.refl _ _⟩
    case round =>
      obtain ⟨k, hk, rfl, rfl, hFk, hB⟩ := hrel
      by_cases hlt : k < L
      · have hle : (k : Int) + 1 ≤ (L : Int) := by omega
        have hn := HM.out k wr hB (by omega)
        have hs := HS.out k hlt
        go_wp2_with (go_at_call 75; refine hn.mono ?_; rintro e w1 ⟨v1, rfl, hO, hFt, hB1⟩)
        have hb1 := hB.trans (hB1.mono hB.size)
        have hE := hO.row hFt
        obtain ⟨Am, cm, rfl⟩ := hE.form
        have hm := hE.2.2
        generalize PT.names t k = m at *
        generalize hM : m.length = M at *
        have HE := Lib.hid hE
        have HMl := Lib.hid hM
        have hcl : PT.cntI m z ≤ M := by have := PT.cntI_le m M z; rw [List.take_of_length_le (by omega)] at this; exact this
        have hct : PT.cntI (m.take M) z = PT.cntI m z := by rw [List.take_of_length_le (by omega)]
        have HC := Lib.hid hct
        have HK := Lib.hid hs
        clear hn hO hFt hB1 hE hM hB hs hct
        generalize F k = y at *
        go_loopw [5, 8] (fun n i wr => ∃ j : Nat, j ≤ M ∧ i = .int .i64 (j : Int) ∧ n = .int .i64 ((y + PT.cntI (m.take j) z : Nat) : Int) ∧ Below w1.heap.size w1 wr) (fun _ i _ => M - (intOf i).toNat)
        case atStart => exact ⟨0, Nat.zero_le _, rfl, rfl, Below.refl _ _⟩
        case round =>
          obtain ⟨j, hj, rfl, rfl, hB⟩ := hrel
          by_cases hlt2 : j < M
          · obtain ⟨b1, o1, rfl, hb2, hcell⟩ := (HE.out.below hB).at (by rw [HMl.out]; omega)
            obtain ⟨x, hx⟩ : ∃ x, m[j]? = some x := ⟨_, List.getElem?_eq_getElem (by rw [HMl.out]; omega)⟩
            obtain ⟨g0, g1⟩ := hcell j x hx
            have hcs := PT.cntI_snoc z hx
            have hcj := PT.cntI_le m j z
            have hcs' := Lib.hid hcs
            obtain ⟨s, z2⟩ := x
            dsimp only at g0 g1
            clear hcell hx hb2 hcs
            generalize PT.cntI (m.take j) z = cj at *
            have hz1 : IntKind.i64.wrap (((y + cj : Nat) : Int) + 1) = ((y + cj : Nat) : Int) + 1 := by rw [IntKind.wrap_i64]; omega
            obtain ⟨yc, hyc⟩ : ∃ yc, y + cj = yc := ⟨_, rfl⟩
            rw [hyc] at hz1 ⊢
            by_cases hzz : z2 = z
            · subst hzz
              have hf := hcs'.out
              rw [if_pos rfl] at hf
              have HF := Lib.hid hf
              clear hf
              have hyb : yc ≤ 65536 * 65536 + 65536 := by omega
              have HY := Lib.hid hyc
              clear hyc
              go_wp2
              go_roundw
              case rel => exact ⟨j + 1, by omega, by go_num, by rw [HF.out, ← HY.out]; congr 1, hB⟩
              case measure => simp [intOf]; omega
            · have hf := hcs'.out
              rw [if_neg hzz] at hf
              have HF := Lib.hid hf
              clear hf
              have HY := Lib.hid hyc
              clear hyc
              go_wp2
              go_roundw
              case rel => exact ⟨j + 1, by omega, by go_num, by rw [HF.out, ← HY.out]; rfl, hB⟩
              case measure => simp [intOf]; omega
          · have hjM : j = M := by omega
            subst hjM
            have hc := HC.out
            have hbw := hb1.trans (hB.mono hb1.size)
            have hkn := HK.out
            rw [hc]
            rw [← hkn]
            have hfb : F (k + 1) ≤ 65536 * (k + 1) := by omega
            clear hc hB
            go_wp2
            go_roundw
            case rel => exact ⟨k + 1, by omega, by go_num, rfl, hfb, hbw⟩
            case measure => simp [intOf]; omega
      · have hkL : k = L := by omega
        subst hkL
        rw [HT.out]
        clear HM HS HT
        go_wp2
        go_ret
        exact ⟨rfl, hB⟩
end Go.Proofs.YtdnobplhfbgbaaaGreatDoor
