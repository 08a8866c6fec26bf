/-
  Contracts: tree's New, at, folder, there, modeMay.
  Contracts: tree's may, names, fit.
-/
import Derived.Test.YtdnobplhfbgbaaaGreatDoorMUe
import Derived.Test.YtdnobplhfbgbaaaGreatDoorMTa
namespace Go.Proofs.YtdnobplhfbgbaaaGreatDoor
open Go.RowKit Go.Joins


theorem PT.new_fit : FitN PT.new := by
  refine ⟨?_, by decide⟩
  intro n hn
  simp only [PT.new, List.mem_cons, List.mem_replicate] at hn
  rcases hn with rfl | ⟨_, rfl⟩ <;> exact ⟨by unfold I64; simp [PT.zero], by unfold I64; simp [PT.zero], by simp [PT.zero, ByteArray.size]⟩
set_option maxRecDepth 100000 in
set_option maxHeartbeats 4000000 in
theorem new_any (w : World) : Calls Tryz.prog 14 #[] w fun e w' => ∃ v', e = .returned v' ∧ To 27 w' w.heap.size v' PT.new ∧ Below w.heap.size w w' := by
  have hmk := make9 w
  have hz := Bx.new w 27 zeros9
  have hb := al w (.cells zeros9 27)
  go_enter Tryz.func14, Tryz.ntmps14
  go_upto_region 2 with fail
  generalize w.alloc (.cells zeros9 27) = w1 at *
  generalize hgx : w.heap.size = gx at *
  have c0 : w1.cell? ⟨gx, 0, none⟩ = some (.int .i64 0) := (hz.cell 0).trans (zeros9_at 0)
  have c1 : w1.cell? ⟨gx, 1, none⟩ = some (.int .i64 0) := (hz.cell 1).trans (zeros9_at 1)
  have c2 : w1.cell? ⟨gx, 2, none⟩ = some (.string { data := #[] }) := (hz.cell 2).trans (zeros9_at 2)
  have f0 := hz.frozen 0
  have f1 := hz.frozen 1
  have f2 := hz.frozen 2
  have hT := zeros_To w1 gx hz
  have hN := hT.set (k := 0) (by decide) (by decide) ⟨2, 7, { data := #[] }⟩
  have hend : Below gx w (((w1.setCell ⟨gx, 0, none⟩ (.int .i64 2)).setCell ⟨gx, 1, none⟩ (.int .i64 7)).setCell ⟨gx, 2, none⟩ (.string { data := #[] })) := ((hb.setCell (p := ⟨gx, 0, none⟩) (Nat.le_refl _) _).setCell (p := ⟨gx, 1, none⟩) (Nat.le_refl _) _).setCell (p := ⟨gx, 2, none⟩) (Nat.le_refl _) _
  go_wp2
  go_ret
  exact ⟨_, rfl, hgx ▸ hN, hgx ▸ hend⟩
/-- A node as a value. -/
def nodeV (n : PT.N) : Value := .agg #[.int .i64 n.kind, .int .i64 n.mode, .string n.body]
/-- The node of a number, as tree looks it up. -/
def PT.atz (t : List PT.N) (z : Int) : PT.N := if 1 ≤ z ∧ z ≤ (t.length : Int) then (t[(z - 1).toNat]?).getD PT.zero else PT.zero
theorem Tryz.info78 : (Tryz.prog.info? 78).map (fun i => (i.zero, i.size, i.bytes)) = some (some (.agg #[.int .i64 0, .int .i64 0, .string { data := #[] }]), 3, 32) := by kernel_rfl
theorem Bx.tri64 {w : World} {g : Nat} {a b : Int} {s : ByteArray} (h : Bx w g 78 #[.int .i64 a, .int .i64 b, .string s]) : w.cell? ⟨g, 0, none⟩ = some (.int .i64 a) ∧ w.cell? ⟨g, 1, none⟩ = some (.int .i64 b) ∧ w.cell? ⟨g, 2, none⟩ = some (.string s) := ⟨h.cell 0, h.cell 1, h.cell 2⟩
set_option maxRecDepth 100000 in
set_option maxHeartbeats 4000000 in
theorem folder_any (n : PT.N) (w : World) : Calls Tryz.prog 58 #[nodeV n] w fun e w' => e = .returned (.bool (decide (n.kind = 2))) ∧ Below w.heap.size w w' := by
  obtain ⟨kd, md, s⟩ := n
  have hb1 := al w (.cells #[.int .i64 kd, .int .i64 md, .string s] 78)
  have hbx1 := Bx.new w 78 #[.int .i64 kd, .int .i64 md, .string s]
  unfold nodeV
  go_enter Tryz.func58, Tryz.ntmps58
  go_upto_region 1 with fail
  generalize w.alloc (.cells #[.int .i64 kd, .int .i64 md, .string s] 78) = w1 at *
  generalize hgx : w.heap.size = gx at *
  obtain ⟨c0, c1, c2⟩ := hbx1.tri64
  go_wp2
  go_ret
  exact ⟨by congr 2, hgx ▸ hb1⟩
set_option maxRecDepth 100000 in
set_option maxHeartbeats 4000000 in
theorem there_any (n : PT.N) (w : World) : Calls Tryz.prog 104 #[nodeV n] w fun e w' => e = .returned (.bool (decide (n.kind ≠ 0))) ∧ Below w.heap.size w w' := by
  obtain ⟨kd, md, s⟩ := n
  have hb1 := al w (.cells #[.int .i64 kd, .int .i64 md, .string s] 78)
  have hbx1 := Bx.new w 78 #[.int .i64 kd, .int .i64 md, .string s]
  unfold nodeV
  go_enter Tryz.func104, Tryz.ntmps104
  go_upto_region 1 with fail
  generalize w.alloc (.cells #[.int .i64 kd, .int .i64 md, .string s] 78) = w1 at *
  generalize hgx : w.heap.size = gx at *
  obtain ⟨c0, c1, c2⟩ := hbx1.tri64
  go_wp2
  go_ret
  exact ⟨by congr 2; by_cases h : kd = 0 <;> simp [h], hgx ▸ hb1⟩
set_option maxRecDepth 100000 in
set_option maxHeartbeats 4000000 in
theorem modeMay_any (n : PT.N) (w : World) : Calls Tryz.prog 137 #[nodeV n] w fun e w' => e = .returned (.bool (decide (0 ≤ n.mode) && decide (n.mode ≤ 255))) ∧ Below w.heap.size w w' := by
  obtain ⟨kd, md, s⟩ := n
  have hb1 := al w (.cells #[.int .i64 kd, .int .i64 md, .string s] 78)
  have hbx1 := Bx.new w 78 #[.int .i64 kd, .int .i64 md, .string s]
  unfold nodeV
  go_enter Tryz.func137, Tryz.ntmps137
  go_upto_region 1 with fail
  generalize w.alloc (.cells #[.int .i64 kd, .int .i64 md, .string s] 78) = w1 at *
  generalize hgx : w.heap.size = gx at *
  obtain ⟨c0, c1, c2⟩ := hbx1.tri64
  by_cases h0 : 0 ≤ md
  · have hd : decide (md ≥ 0) = true := by simpa using h0
    go_wp2
    go_ret
    exact ⟨by simp [h0], hgx ▸ hb1⟩
  · have hd : decide (md ≥ 0) = false := by simpa using h0
    go_wp2
    go_ret
    exact ⟨by simp, hgx ▸ hb1⟩
def put3 (w : World) (g : Nat) (n : PT.N) : World := ((w.setCell ⟨g, 0, none⟩ (.int .i64 n.kind)).setCell ⟨g, 1, none⟩ (.int .i64 n.mode)).setCell ⟨g, 2, none⟩ (.string n.body)
theorem at_out {w W : World} {gx : Nat} {cur : Array Value} (tmps : Array Value) (n : PT.N) (hx : Bx W gx 78 cur) (hs : cur.size = 3) (ht : tmps[4]? = some (.pointer (some ⟨gx, 0, none⟩))) (hb : Below gx w W) : bodyPost Tryz.prog Tryz.f57 (fun e w' => e = .returned (nodeV n) ∧ Below gx w w') Exit.ret { tmps := tmps, defers := [] } (put3 W gx n) := by
  have h3 := ((hx.set 0 (.int .i64 n.kind)).set 1 (.int .i64 n.mode)).set 2 (.string n.body)
  have e3 : ((cur.setIfInBounds 0 (.int .i64 n.kind)).setIfInBounds 1 (.int .i64 n.mode)).setIfInBounds 2 (.string n.body) = #[.int .i64 n.kind, .int .i64 n.mode, .string n.body] := by
    obtain ⟨l⟩ := cur
    match l, hs with
    | [_, _, _], _ => rfl
  rw [e3] at h3
  have hg : gx ≤ gx := Nat.le_refl _
  have hend : Below gx w (put3 W gx n) := ((hb.setCell (p := ⟨gx, 0, none⟩) hg _).setCell (p := ⟨gx, 1, none⟩) hg _).setCell (p := ⟨gx, 2, none⟩) hg _
  obtain ⟨c0, c1, c2⟩ := h3.tri64
  refine bodyPost_ret (v := nodeV n) ?_ rfl ⟨rfl, hend⟩
  unfold put3
  simp [results, Tryz.results57, go_sem, ht, c0, c1, c2, nodeV]
set_option maxRecDepth 100000 in
set_option maxHeartbeats 4000000 in
theorem at_any (v : Value) (t : List PT.N) (z : Int) (w : World) (h : Ts w v t) : Calls Tryz.prog 57 #[v, .int .i64 z] w fun e w' => e = .returned (nodeV (PT.atz t z)) ∧ Below w.heap.size w w' := by
  obtain ⟨A, c, rfl⟩ := h.form
  have hl := h.2.2
  have hz0 := Bx.new w 78 #[.int .i64 0, .int .i64 0, .string { data := #[] }]
  have hb1 := al w (.cells #[.int .i64 0, .int .i64 0, .string { data := #[] }] 78)
  have H := Lib.hid (h.below hb1)
  clear h
  generalize hL : t.length = L at *
  go_enter Tryz.func57, Tryz.ntmps57
  go_upto_region 1 with fail
  generalize w.alloc (.cells #[.int .i64 0, .int .i64 0, .string { data := #[] }] 78) = w1 at *
  generalize hgx : w.heap.size = gx at *
  obtain ⟨c0, c1, c2⟩ := hz0.tri64
  have f0 := hz0.frozen 0
  have f1 := hz0.frozen 1
  have f2 := hz0.frozen 2
  have HE := Lib.hid (And.intro hz0 hb1)
  clear hb1 hz0
  by_cases h1 : z < 1
  · have hd : decide (z < 1) = true := by simpa using h1
    have hr : PT.atz t z = PT.zero := if_neg (by omega)
    go_wp2
    (try simp only [Exit.inBlock, Exit.then])
    (try rw [hr])
    rw [hgx]
    exact at_out (w := w) (W := w1) _ PT.zero HE.out.1 rfl rfl HE.out.2
  · have hd : decide (z < 1) = false := by simpa using h1
    by_cases h2 : z > (L : Int)
    · have hd2 : decide (z > (L : Int)) = true := by simpa using h2
      have hr : PT.atz t z = PT.zero := if_neg (by omega)
      go_wp2
      (try simp only [Exit.inBlock, Exit.then])
      (try rw [hr])
      exact at_out (w := w) (W := w1) _ PT.zero HE.out.1 rfl rfl HE.out.2
    · have hd2 : decide (z > (L : Int)) = false := by simpa using h2
      obtain ⟨k, rfl⟩ : ∃ k : Nat, z = (k : Int) + 1 := ⟨(z - 1).toNat, by omega⟩
      have hk : k < t.length := by omega
      have hr : PT.atz t ((k : Int) + 1) = t[k] := by
        unfold PT.atz
        rw [if_pos (by omega), show ((k : Int) + 1 - 1).toNat = k by omega, List.getElem?_eq_getElem hk]
        rfl
      have hw1 : IntKind.i64.wrap ((k : Int) + 1 - 1) = (k : Int) := by rw [IntKind.wrap_i64]; omega
      obtain ⟨b, o, rfl, hb, hc⟩ := (hL ▸ H.out : Ts w1 (.slice A t.length c) t).at (by omega)
      obtain ⟨d0, d1, d2⟩ := hc k t[k] (List.getElem?_eq_getElem hk)
      go_wp2
      (try simp only [Exit.inBlock, Exit.then])
      (try rw [hr])
      exact at_out (w := w) (W := w1) _ t[k] HE.out.1 rfl rfl HE.out.2
end Go.Proofs.YtdnobplhfbgbaaaGreatDoor
namespace Go.Proofs.YtdnobplhfbgbaaaGreatDoor
open Go.RowKit Go.Joins

theorem tak_none {n : PT.N} (h : n.kind ≠ 2) : PT.ents n = [] := PT.ents_none h
set_option maxRecDepth 100000 in
set_option maxHeartbeats 4000000 in
theorem nnames_any (n : PT.N) (w : World) : Calls Tryz.prog 110 #[nodeV n] w fun e w' => ∃ v', e = .returned v' ∧ Eo w' w.heap.size v' (PT.ents n) ∧ Fit (PT.ents n) ∧ Below w.heap.size w w' := by
  obtain ⟨kd, md, s⟩ := n
  have hb1 := al w (.cells #[.int .i64 kd, .int .i64 md, .string s] 78)
  have hbx1 := Bx.new w 78 #[.int .i64 kd, .int .i64 md, .string s]
  have hz1 : w.heap.size ≤ (w.alloc (.cells #[.int .i64 kd, .int .i64 md, .string s] 78)).heap.size := hb1.size
  have hlt : w.heap.size < (w.alloc (.cells #[.int .i64 kd, .int .i64 md, .string s] 78)).heap.size := by simp
  unfold nodeV
  go_enter Tryz.func110, Tryz.ntmps110
  go_upto_region 1 with fail
  generalize w.alloc (.cells #[.int .i64 kd, .int .i64 md, .string s] 78) = w1 at *
  generalize hgx : w.heap.size = gx at *
  obtain ⟨c0, c1, c2⟩ := hbx1.tri64
  have hfo := folder_any ⟨kd, md, s⟩ w1
  by_cases h2 : kd = 2
  · have hE : PT.ents ⟨kd, md, s⟩ = PD.tl s := by rw [PT.ents, if_pos h2]
    have hd : decide (kd = 2) = true := by simpa using h2
    clear h2
    go_wp2_with (first | (go_at_call 136; refine ht.mono ?_; rintro e w3 ⟨v3, rfl, hO, hF, hB3⟩) | (go_at_call 58; refine hfo.mono ?_; rintro e w2 ⟨rfl, hB2⟩; have hx2 := hbx1.on hB2; clear c0 c1 c2; obtain ⟨c0, c1, c2⟩ := hx2.tri64; have ht := take_any s w2))
    go_ret
    have hh := hB2.size
    rw [hE]
    subst hgx
    exact ⟨_, rfl, hO.base (Nat.le_trans hz1 hh), hF, (hb1.trans (hB2.mono hz1)).trans (hB3.mono (Nat.le_trans hz1 hh))⟩
  · have hE : PT.ents ⟨kd, md, s⟩ = [] := tak_none h2
    have hd : decide (kd = 2) = false := by simpa using h2
    clear h2
    go_wp2_with (go_at_call 58; refine hfo.mono ?_; rintro e w2 ⟨rfl, hB2⟩)
    go_ret
    rw [hE]
    subst hgx
    exact ⟨_, rfl, Eo.nil _ _, Fit.nil, hb1.trans (hB2.mono hz1)⟩
set_option maxRecDepth 100000 in
set_option maxHeartbeats 4000000 in
theorem may1_any (n : PT.N) (w : World) : Calls Tryz.prog 103 #[nodeV n] w fun e w' => e = .returned (.bool (PT.shapeB n)) ∧ Below w.heap.size w w' := by
  obtain ⟨kd, md, s⟩ := n
  have hb1 := al w (.cells #[.int .i64 kd, .int .i64 md, .string s] 78)
  have hbx1 := Bx.new w 78 #[.int .i64 kd, .int .i64 md, .string s]
  have hz1 : w.heap.size ≤ (w.alloc (.cells #[.int .i64 kd, .int .i64 md, .string s] 78)).heap.size := hb1.size
  have hlt : w.heap.size < (w.alloc (.cells #[.int .i64 kd, .int .i64 md, .string s] 78)).heap.size := by simp
  obtain ⟨R, hR⟩ : ∃ R, PT.shapeB ⟨kd, md, s⟩ = R := ⟨_, rfl⟩
  rw [hR]
  have HR := Lib.hid hR
  clear hR
  unfold nodeV
  go_enter Tryz.func103, Tryz.ntmps103
  go_upto_region 1 with fail
  generalize w.alloc (.cells #[.int .i64 kd, .int .i64 md, .string s] 78) = w1 at *
  generalize hgx : w.heap.size = gx at *
  obtain ⟨c0, c1, c2⟩ := hbx1.tri64
  by_cases h0 : kd = 0
  · subst h0
    by_cases hm : md = 0
    · subst hm
      by_cases hs : s = { data := #[] }
      · subst hs
        have hq := seq_yes { data := #[] }
        have hRt : R = true := HR.out.symm.trans (by decide)
        subst hRt
        go_wp2
        go_ret
        exact ⟨rfl, hgx ▸ hb1⟩
      · have hq := seq_no hs
        have hq2 : ¬ s.toList = [] := fun e => hs (by rw [ByteArray.toList_eq] at e; obtain ⟨⟨l⟩⟩ := s; exact congrArg (fun l => ByteArray.mk ⟨l⟩) e)
        have hq3 : (s.toList == []) = false := by simpa using hq2
        have hRt : R = false := HR.out.symm.trans (by unfold PT.shapeB; rw [if_pos rfl]; exact decide_eq_false fun e => hs (congrArg PT.N.body e))
        subst hRt
        clear hs
        go_wp2
        go_ret
        exact ⟨rfl, hgx ▸ hb1⟩
    · have hRt : R = false := HR.out.symm.trans (by unfold PT.shapeB; rw [if_pos rfl]; exact decide_eq_false fun e => hm (congrArg PT.N.mode e))
      subst hRt
      have hq : (md == 0) = false := by simpa using hm
      clear hm
      go_wp2
      go_ret
      exact ⟨rfl, hgx ▸ hb1⟩
  · have e0 : (kd == 0) = false := by simpa using h0
    have hmm := modeMay_any ⟨kd, md, s⟩
    dsimp only at hmm
    obtain ⟨M, hM⟩ : ∃ M, (decide (0 ≤ md) && decide (md ≤ 255)) = M := ⟨_, rfl⟩
    rw [hM] at hmm
    by_cases h1 : kd = 1
    · subst h1
      have hRt : (M && decide (s.size ≤ 120)) = R := by rw [← HR.out, ← hM]; simp [PT.shapeB, Bool.and_assoc]
      clear hM HR h0
      cases M
      · have hRf : R = false := by rw [← hRt]; rfl
        subst hRf
        clear hRt
        go_wp2_with (go_at_call 137; refine (hmm w1).mono ?_; rintro e w2 ⟨rfl, hB2⟩)
        go_ret
        exact ⟨rfl, hgx ▸ hb1.trans (hB2.mono hz1)⟩
      · have HR := Lib.hid hRt
        clear hRt
        go_wp2_with (go_at_call 137; refine (hmm w1).mono ?_; rintro e w2 ⟨rfl, hB2⟩; have hx2 := hbx1.on hB2; clear c0 c1 c2; obtain ⟨c0, c1, c2⟩ := hx2.tri64)
        go_ret
        exact ⟨by rw [← HR.out]; simp; omega, hgx ▸ hb1.trans (hB2.mono hz1)⟩
    · have e1 : (kd == 1) = false := by simpa using h1
      by_cases h2 : kd = 2
      · subst h2
        have hRt : (M && PD.tk s) = R := by
          rw [← HR.out, ← hM]
          cases hT : PD.tk s
          · simp [PT.shapeB, hT]
          · have := PD.tk_size hT
            simp [PT.shapeB, hT, this]
        clear hM HR h0 h1 e0 e1
        have HR := Lib.hid hRt
        clear hRt
        have ht := take_any s w1
        obtain ⟨T, hT⟩ : ∃ T, PD.tk s = T := ⟨_, rfl⟩
        rw [hT] at ht HR
        cases M
        · have hRf : R = false := by rw [← HR.out]; rfl
          subst hRf
          go_wp2_with (first | (go_at_call 137; refine hm3.mono ?_; rintro e w2 ⟨rfl, hB2⟩) | (go_at_call 136; refine ht.mono ?_; rintro e w3 ⟨v3, rfl, hO, hF, hB3⟩; have hx2 := hbx1.on hB3; clear c0 c1 c2; obtain ⟨c0, c1, c2⟩ := hx2.tri64; have hm3 := hmm w3))
          go_ret
          exact ⟨rfl, hgx ▸ (hb1.trans (hB3.mono hz1)).trans (hB2.mono (Nat.le_trans hz1 hB3.size))⟩
        · have hRf : R = T := by rw [← HR.out]; rfl
          subst hRf
          go_wp2_with (first | (go_at_call 137; refine hm3.mono ?_; rintro e w2 ⟨rfl, hB2⟩) | (go_at_call 136; refine ht.mono ?_; rintro e w3 ⟨v3, rfl, hO, hF, hB3⟩; have hx2 := hbx1.on hB3; clear c0 c1 c2; obtain ⟨c0, c1, c2⟩ := hx2.tri64; have hm3 := hmm w3))
          go_ret
          exact ⟨rfl, hgx ▸ (hb1.trans (hB3.mono hz1)).trans (hB2.mono (Nat.le_trans hz1 hB3.size))⟩
      · have e2 : (kd == 2) = false := by simpa using h2
        have hRf : R = false := by rw [← HR.out]; simp [PT.shapeB, h0, h1, h2]
        subst hRf
        clear h0 h1 h2 hmm hM
        go_wp2
        go_ret
        exact ⟨rfl, hgx ▸ hb1⟩
theorem all_snoc {α : Type} {l : List α} {k : Nat} {x : α} (p : α → Bool) (h : l[k]? = some x) : (l.take (k + 1)).all p = ((l.take k).all p && p x) := by
  rw [List.take_add_one, h]
  simp
theorem all_not {α : Type} {l : List α} {k : Nat} {x : α} {p : α → Bool} (h : l[k]? = some x) (hp : p x = false) : l.all p = false := by
  rw [List.all_eq_false]
  exact ⟨x, List.mem_of_getElem? h, by simp [hp]⟩
set_option maxRecDepth 100000 in
set_option maxHeartbeats 4000000 in
theorem fit_any (v : Value) (t : List PT.N) (w : World) (h : Ts w v t) : Calls Tryz.prog 56 #[v] w fun e w' => e = .returned (.bool (t.all PT.shapeB)) ∧ Below w.heap.size w w' := by
  obtain ⟨A, c, rfl⟩ := h.form
  have hl := h.2.2
  have HS := Lib.hid h
  obtain ⟨L, hL⟩ : ∃ L, t.length = L := ⟨_, rfl⟩
  obtain ⟨R, hR⟩ : ∃ R, t.all PT.shapeB = R := ⟨_, rfl⟩
  rw [hR]
  rw [hL] at HS hl ⊢
  have HR := Lib.hid hR
  have HL := Lib.hid hL
  clear h hR hL
  go_enter Tryz.func56, Tryz.ntmps56
  go_wp2
  go_loopw [7] (fun i wr => ∃ k : Nat, k ≤ L ∧ i = .int .i64 (k : Int) ∧ Below w.heap.size w wr ∧ (t.take k).all PT.shapeB = true) (fun i _ => L - (intOf i).toNat)
  case atStart => exact ⟨0, Nat.zero_le _, rfl, Below.refl _ _, by simp⟩
  case round =>
    obtain ⟨k, hk, rfl, hB, hT⟩ := hrel
    by_cases hlt : k < L
    · obtain ⟨b0, o0, rfl, hb0, hcell⟩ := (HL.out ▸ HS.out.below hB : Ts wr (.slice A t.length c) t).at (by rw [HL.out]; omega)
      obtain ⟨x, hx⟩ : ∃ x, t[k]? = some x := ⟨_, List.getElem?_eq_getElem (by rw [HL.out]; omega)⟩
      obtain ⟨g0, g1, g2⟩ := hcell k x hx
      have hs1 := all_snoc PT.shapeB hx
      have hn1 := all_not (p := PT.shapeB) hx
      rw [hT, Bool.true_and] at hs1
      rw [HR.out] at hn1
      obtain ⟨kd, md, s⟩ := x
      dsimp only at g0 g1 g2
      have hd : decide ((k : Int) < (L : Int)) = true := by simp; omega
      have hbn := hB.alloc hB.size (.cells #[.int .i64 kd, .int .i64 md, .string s] 27)
      have hbx := Bx.new wr 27 #[.int .i64 kd, .int .i64 md, .string s]
      obtain ⟨S, hS⟩ : ∃ S, PT.shapeB ⟨kd, md, s⟩ = S := ⟨_, rfl⟩
      rw [hS] at hs1 hn1
      go_upto_region 4 with fail
      generalize wr.alloc (.cells #[.int .i64 kd, .int .i64 md, .string s] 27) = w1 at *
      generalize hgx : wr.heap.size = gx at *
      obtain ⟨c0, c1, c2⟩ := hbx.tri
      have hm := may1_any ⟨kd, md, s⟩ w1
      have hz1 := hbn.size
      rw [hS] at hm
      clear hS hcell hx g0 g1 g2
      cases S
      · have hRf := hn1 rfl
        subst hRf
        clear hs1 hn1
        go_wp2_with (go_at_call 103; refine hm.mono ?_; rintro e w2 ⟨rfl, hB2⟩)
        go_ret
        exact ⟨rfl, hbn.trans (hB2.mono hz1)⟩
      · have HS1 := Lib.hid hs1
        clear hs1 hn1
        go_wp2_with (go_at_call 103; refine hm.mono ?_; rintro e w2 ⟨rfl, hB2⟩)
        go_roundw
        case rel => exact ⟨k + 1, by omega, by go_num, hbn.trans (hB2.mono hz1), HS1.out⟩
        case measure => simp [intOf]; omega
    · have hkL : k = L := by omega
      subst hkL
      rw [List.take_of_length_le (by rw [HL.out]; exact Nat.le_refl _), HR.out] at hT
      subst hT
      go_wp2
      go_ret
      exact ⟨rfl, hB⟩
end Go.Proofs.YtdnobplhfbgbaaaGreatDoor
