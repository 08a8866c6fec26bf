/-
  Contracts: glacismade's Done, Grown, Tree: the trees that are made are good.
  Contracts: glacismade's Tree; tree's New, at, folder, there, modeMay.
-/
import Derived.Test.YtniegpdllijjfaaGreatDoorUn
import Derived.Test.YtniegpdllijjfaaGreatDoorMTa
namespace Go.Proofs.YtniegpdllijjfaaGreatDoor
open Go.RowKit Go.Joins

set_option maxRecDepth 100000 in
set_option maxHeartbeats 8000000 in
theorem done_any (v : Value) (t : List PT.N) (kd md off : Int) (p tw tx : ByteArray) (w : World) (h : Ts w v t) (g : PT.Good t) (hp : p.size ≤ 65535) (htw : tw.size ≤ 65535) (htx : tx.size ≤ 1048576) : Calls Tryz.prog 50 #[v, .agg (sc kd md off p tw tx), .bool false] w fun e w' => ∃ (v' : Value) (t' : List PT.N) (err : Int), e = .returned (.tuple #[v', .int .i64 err]) ∧ Ts w' v' t' ∧ PT.Good t' ∧ Below w.heap.size w w' := by
  have hb1 := al w (.cells (sc kd md off p tw tx) 86)
  have hT1 := h.below hb1
  have hx1 := Bx.new w 86 (sc kd md off p tw tx)
  have hz1 := hb1.size
  clear h
  by_cases h1 : kd = 1
  · subst h1
    go_enter Tryz.func50, Tryz.ntmps50
    go_upto_region 1 with fail
    generalize w.alloc (.cells (sc 1 md off p tw tx) 86) = w1 at *
    generalize hgx : w.heap.size = gx at *
    obtain ⟨⟨c0, c1, c2, c3, c4, c5, c6, c7, c8⟩, _⟩ := hx1.step
    go_wp2_with (go_at_call 31; refine (rmake_any v t p md 6 0 false w1 hT1 g.fine hp).mono ?_; rintro e w2 ⟨v2, rfl, hT2, hB2⟩)
    go_ret2
    exact ⟨_, _, _, rfl, hT2, ⟨PT.make_fine g.fine _ _ _ _, PT.make_plain g.plain (PT.pp_anyone _) _ _ _⟩, by rw [hgx]; exact hb1.trans (hB2.mono hz1)⟩
  have e1 : (kd == 1) = false := by simpa using h1
  by_cases h2 : kd = 2
  · subst h2
    go_enter Tryz.func50, Tryz.ntmps50
    go_upto_region 1 with fail
    generalize w.alloc (.cells (sc 2 md off p tw tx) 86) = w1 at *
    generalize hgx : w.heap.size = gx at *
    obtain ⟨⟨c0, c1, c2, c3, c4, c5, c6, c7, c8⟩, _⟩ := hx1.step
    go_wp2_with (go_at_call 70; refine (rlink_any v t p tw false w1 hT1 g.fine hp htw).mono ?_; rintro e w2 ⟨v2, rfl, hT2, hB2⟩)
    go_ret2
    exact ⟨_, _, _, rfl, hT2, ⟨PT.link_fine g.fine _ _, PT.link_plain g.plain _ (PT.pp_anyone _)⟩, by rw [hgx]; exact hb1.trans (hB2.mono hz1)⟩
  have e2 : (kd == 2) = false := by simpa using h2
  by_cases h3 : kd = 3
  · subst h3
    go_enter Tryz.func50, Tryz.ntmps50
    go_upto_region 1 with fail
    generalize w.alloc (.cells (sc 3 md off p tw tx) 86) = w1 at *
    generalize hgx : w.heap.size = gx at *
    obtain ⟨⟨c0, c1, c2, c3, c4, c5, c6, c7, c8⟩, _⟩ := hx1.step
    go_wp2_with (go_at_call 71; refine (rdrop_any v t p false w1 hT1 g.fine hp).mono ?_; rintro e w2 ⟨v2, rfl, hT2, hB2⟩)
    go_ret2
    exact ⟨_, _, _, rfl, hT2, ⟨PT.drop_fine g.fine _, PT.drop_plain g.plain _⟩, by rw [hgx]; exact hb1.trans (hB2.mono hz1)⟩
  have e3 : (kd == 3) = false := by simpa using h3
  by_cases h4 : kd = 4
  · subst h4
    go_enter Tryz.func50, Tryz.ntmps50
    go_upto_region 1 with fail
    generalize w.alloc (.cells (sc 4 md off p tw tx) 86) = w1 at *
    generalize hgx : w.heap.size = gx at *
    obtain ⟨⟨c0, c1, c2, c3, c4, c5, c6, c7, c8⟩, _⟩ := hx1.step
    go_wp2_with (go_at_call 72; refine (rmove_any v t p tw false w1 hT1 g.fine hp htw).mono ?_; rintro e w2 ⟨v2, rfl, hT2, hB2⟩)
    go_ret2
    exact ⟨_, _, _, rfl, hT2, ⟨PT.move_fine g.fine _ _, PT.move_plain g.plain _ (PT.pp_anyone _)⟩, by rw [hgx]; exact hb1.trans (hB2.mono hz1)⟩
  have e4 : (kd == 4) = false := by simpa using h4
  by_cases h5 : kd = 5
  · subst h5
    go_enter Tryz.func50, Tryz.ntmps50
    go_upto_region 1 with fail
    generalize w.alloc (.cells (sc 5 md off p tw tx) 86) = w1 at *
    generalize hgx : w.heap.size = gx at *
    obtain ⟨⟨c0, c1, c2, c3, c4, c5, c6, c7, c8⟩, _⟩ := hx1.step
    go_wp2_with (go_at_call 73; refine (rwrite_any v t p off tx false w1 hT1 g.fine hp htx).mono ?_; rintro e w2 ⟨v2, rfl, hT2, hB2⟩)
    go_ret2
    exact ⟨_, _, _, rfl, hT2, ⟨PT.write_fine g.fine _ _ _, PT.write_plain g.plain _ _ _⟩, by rw [hgx]; exact hb1.trans (hB2.mono hz1)⟩
  have e5 : (kd == 5) = false := by simpa using h5
  by_cases h6 : kd = 6
  · subst h6
    go_enter Tryz.func50, Tryz.ntmps50
    go_upto_region 1 with fail
    generalize w.alloc (.cells (sc 6 md off p tw tx) 86) = w1 at *
    generalize hgx : w.heap.size = gx at *
    obtain ⟨⟨c0, c1, c2, c3, c4, c5, c6, c7, c8⟩, _⟩ := hx1.step
    go_wp2_with (go_at_call 74; refine (rcut_any v t p off false w1 hT1 g.fine hp).mono ?_; rintro e w2 ⟨v2, rfl, hT2, hB2⟩)
    go_ret2
    exact ⟨_, _, _, rfl, hT2, ⟨PT.cut_fine g.fine _ _, PT.cut_plain g.plain _ _⟩, by rw [hgx]; exact hb1.trans (hB2.mono hz1)⟩
  have e6 : (kd == 6) = false := by simpa using h6
  go_enter Tryz.func50, Tryz.ntmps50
  go_upto_region 1 with fail
  generalize w.alloc (.cells (sc kd md off p tw tx) 86) = w1 at *
  generalize hgx : w.heap.size = gx at *
  obtain ⟨⟨c0, c1, c2, c3, c4, c5, c6, c7, c8⟩, _⟩ := hx1.step
  go_wp2_with (go_at_call 75; refine (rmode_any v t p md false w1 hT1 g.fine hp).mono ?_; rintro e w2 ⟨v2, rfl, hT2, hB2⟩)
  go_ret2
  exact ⟨_, _, _, rfl, hT2, ⟨PT.mode_fine g.fine _ _, PT.mode_plain g.plain _ _⟩, by rw [hgx]; exact hb1.trans (hB2.mono hz1)⟩

theorem Ts.nx {w w' : World} {v : Value} {t : List PT.N} {g : Nat} {x y : Value} (h : Ts w v t) (h9 : t.length = 9) (hx : Bx w g 60 #[x, y]) (hN : Nx g w w') : Ts w' v t := by
  refine ⟨⟨?_, h.1.2⟩, h.2⟩
  obtain ⟨A, c, hv, hl, hA⟩ := h.1.1
  refine ⟨A, c, hv, hl, fun hn => ?_⟩
  obtain ⟨b, o, hAe, hb, hc⟩ := hA hn
  have hbg : b ≠ g := by
    intro e
    subst e
    have h1 := hc 26 (by omega)
    rw [hx.cell (o + 26), Array.getElem?_eq_none (by simp)] at h1
    have h2 : (ns t)[26]? = some ((ns t)[26]'(by rw [ns_length]; omega)) := List.getElem?_eq_getElem (by rw [ns_length]; omega)
    rw [h2] at h1
    cases h1
  refine ⟨b, o, hAe, Nat.lt_of_lt_of_le hb hN.1, fun j hj => ?_⟩
  rw [← hc j hj]
  exact World.cell?_of_block (w := w) (hN.2 b hb hbg)
set_option maxRecDepth 100000 in
set_option maxHeartbeats 8000000 in
theorem grownP {w0 : World} {A : Option Addr} {n c g : Nat} {bs : List Nat} (hv : Tx w0 (.slice A n c) bs) (hn : bs.length = n) (v : Value) (t : List PT.N) (most : Nat) (hm : most ≤ 1000) (w : World) (h : Pw w0 A n c g w) (hT : Ts w v t) (hF : PT.Good t) : Calls Tryz.prog 26 #[.pointer (some ⟨g, 0, none⟩), v, .int .i64 (most : Int)] w fun e w' => ∃ (v' : Value) (t' : List PT.N), e = .returned v' ∧ Ts w' v' t' ∧ PT.Good t' ∧ Pw w0 A n c g w' := by
  have HP := Lib.hid h
  have HT := Lib.hid hT
  have HF := Lib.hid hF
  clear h hT hF
  go_enter Tryz.func26, Tryz.ntmps26
  go_wp2
  go_loopw [1, 7] (fun u i wr => ∃ (k : Nat) (t' : List PT.N), k ≤ most ∧ i = .int .i64 (k : Int) ∧ Ts wr u t' ∧ PT.Good t' ∧ Pw w0 A n c g wr) (fun _ i _ => most - (intOf i).toNat)
  case atStart => exact ⟨0, t, Nat.zero_le _, rfl, HT.out, HF.out, HP.out⟩
  case round =>
    obtain ⟨k, t', hk, rfl, hT, hF, hP⟩ := hrel
    by_cases hlt : k < most
    · have HT1 := Lib.hid hT
      have HF1 := Lib.hid hF
      have HP1 := Lib.hid hP
      clear hT hF hP
      have hd : decide ((k : Int) < (most : Int)) = true := by simp; omega
      go_wp2_with (go_at_call 49; refine (overP _ HP1.out).mono ?_; rintro e w1 ⟨ob, rfl, hB1⟩; have hP1 := HP1.out.on hB1 HP1.out.lt; have hT1 := HT1.out.below hB1; cases ob)
      · have hedit := edit_try hv hn w1 hP1
        have HT2 := Lib.hid hT1
        have HP2 := Lib.hid hP1
        clear hT1 hP1 hB1
        go_wp2_with fail
        refine hedit.mono ?_
        rintro e w2 ⟨kd, md, off, p, tw, tx, rfl, q1, q2, q3, q4, q5, hP2, hN2⟩
        have hT2 : Ts w2 u1 t' := by
          obtain ⟨_, _, ix, _, hx⟩ := HP2.out
          exact HT2.out.nx HF1.out.fine.len hx hN2
        have hdone := done_any u1 t' kd md off p tw tx w2 hT2 HF1.out q3 q4 q5
        have HP3 := Lib.hid hP2
        clear hedit hP2 hN2 hT2 HT2 HP2
        go_wp2_with fail
        refine hdone.mono ?_
        rintro e w3 ⟨v3, t3, er, rfl, hT3, hF3, hB3⟩
        have hP3 := HP3.out.on hB3 HP3.out.lt
        have HR := Lib.hid (And.intro hT3 (And.intro hF3 hP3))
        clear hdone hT3 hF3 hP3 hB3
        go_wp2
        go_roundw
        case rel => exact ⟨k + 1, t3, by omega, by go_num, HR.out.1, HR.out.2.1, HR.out.2.2⟩
        case measure => simp [intOf]; omega
      · have HR := Lib.hid (And.intro hT1 (And.intro HF1.out hP1))
        clear hT1 hP1 hB1
        go_wp2
        go_ret
        exact ⟨_, _, rfl, HR.out.1, HR.out.2.1, HR.out.2.2⟩
    · have HR := Lib.hid (And.intro hT (And.intro hF hP))
      clear hT hF hP
      have hd : decide ((k : Int) < (most : Int)) = false := by simp; omega
      go_wp2
      go_ret
      exact ⟨_, _, rfl, HR.out.1, HR.out.2.1, HR.out.2.2⟩
end Go.Proofs.YtniegpdllijjfaaGreatDoor
namespace Go.Proofs.YtniegpdllijjfaaGreatDoor
open Go.RowKit Go.Joins

theorem PT.new_fit : FitN PT.new := by
  refine ⟨?_, by decide⟩
  intro n hn
  simp only [PT.new, List.mem_cons, List.mem_replicate] at hn
  rcases hn with rfl | ⟨_, rfl⟩ <;> exact ⟨by unfold I64; simp [PT.zero], by unfold I64; simp [PT.zero], by simp [PT.zero, ByteArray.size]⟩
set_option maxRecDepth 100000 in
set_option maxHeartbeats 4000000 in
theorem treeP {w0 : World} {A : Option Addr} {n c g : Nat} {bs : List Nat} (hv : Tx w0 (.slice A n c) bs) (hn : bs.length = n) (most : Nat) (hm : most ≤ 1000) (w : World) (h : Pw w0 A n c g w) : Calls Tryz.prog 10 #[.pointer (some ⟨g, 0, none⟩), .int .i64 (most : Int)] w fun e w' => ∃ (v' : Value) (t' : List PT.N), e = .returned v' ∧ Ts w' v' t' ∧ PT.Good t' ∧ Pw w0 A n c g w' := by
  have HP := Lib.hid h
  clear h
  go_enter Tryz.func10, Tryz.ntmps10
  go_wp2_with (go_at_call 17; refine (rnew_any w).mono ?_; rintro e w1 ⟨v1, rfl, hT1, hB1⟩; have hP1 := HP.out.on hB1 HP.out.lt; have hTs := hT1.row PT.new_fit; have hgr := grownP hv hn v1 PT.new most hm w1 hP1 hTs PT.new_good)
  have HX := Lib.hid hgr
  clear hgr hP1 hTs hT1 hB1
  go_wp2_with (go_at_call 26; refine HX.out.mono ?_; rintro e w2 ⟨v2, t2, rfl, hT2, hF2, hP2⟩)
  go_ret
  exact ⟨_, _, rfl, hT2, hF2, hP2⟩
set_option maxRecDepth 100000 in
set_option maxHeartbeats 4000000 in
theorem new_any (w : World) : Calls Tryz.prog 16 #[] w fun e w' => ∃ v', e = .returned v' ∧ To 43 w' w.heap.size v' PT.new ∧ Below w.heap.size w w' := by
  have hmk := make9 w
  have hz := Bx.new w 43 zeros9
  have hb := al w (.cells zeros9 43)
  go_enter Tryz.func16, Tryz.ntmps16
  go_upto_region 2 with fail
  generalize w.alloc (.cells zeros9 43) = w1 at *
  generalize hgx : w.heap.size = gx at *
  have c0 : w1.cell? ⟨gx, 0, none⟩ = some (.int .i64 0) := (hz.cell 0).trans (zeros9_at 0)
  have c1 : w1.cell? ⟨gx, 1, none⟩ = some (.int .i64 0) := (hz.cell 1).trans (zeros9_at 1)
  have c2 : w1.cell? ⟨gx, 2, none⟩ = some (.string { data := #[] }) := (hz.cell 2).trans (zeros9_at 2)
  have f0 := hz.frozen 0
  have f1 := hz.frozen 1
  have f2 := hz.frozen 2
  have hT := zeros_To w1 gx hz
  have hN := hT.set (k := 0) (by decide) (by decide) ⟨2, 7, { data := #[] }⟩
  have hend : Below gx w (((w1.setCell ⟨gx, 0, none⟩ (.int .i64 2)).setCell ⟨gx, 1, none⟩ (.int .i64 7)).setCell ⟨gx, 2, none⟩ (.string { data := #[] })) := ((hb.setCell (p := ⟨gx, 0, none⟩) (Nat.le_refl _) _).setCell (p := ⟨gx, 1, none⟩) (Nat.le_refl _) _).setCell (p := ⟨gx, 2, none⟩) (Nat.le_refl _) _
  go_wp2
  go_ret
  exact ⟨_, rfl, hgx ▸ hN, hgx ▸ hend⟩
/-- A node as a value. -/
def nodeV (n : PT.N) : Value := .agg #[.int .i64 n.kind, .int .i64 n.mode, .string n.body]
/-- The node of a number, as tree looks it up. -/
def PT.atz (t : List PT.N) (z : Int) : PT.N := if 1 ≤ z ∧ z ≤ (t.length : Int) then (t[(z - 1).toNat]?).getD PT.zero else PT.zero
theorem Tryz.info64 : (Tryz.prog.info? 64).map (fun i => (i.zero, i.size, i.bytes)) = some (some (.agg #[.int .i64 0, .int .i64 0, .string { data := #[] }]), 3, 32) := by kernel_rfl
theorem Bx.tri64 {w : World} {g : Nat} {a b : Int} {s : ByteArray} (h : Bx w g 64 #[.int .i64 a, .int .i64 b, .string s]) : w.cell? ⟨g, 0, none⟩ = some (.int .i64 a) ∧ w.cell? ⟨g, 1, none⟩ = some (.int .i64 b) ∧ w.cell? ⟨g, 2, none⟩ = some (.string s) := ⟨h.cell 0, h.cell 1, h.cell 2⟩
set_option maxRecDepth 100000 in
set_option maxHeartbeats 4000000 in
theorem folder_any (n : PT.N) (w : World) : Calls Tryz.prog 34 #[nodeV n] w fun e w' => e = .returned (.bool (decide (n.kind = 2))) ∧ Below w.heap.size w w' := by
  obtain ⟨kd, md, s⟩ := n
  have hb1 := al w (.cells #[.int .i64 kd, .int .i64 md, .string s] 64)
  have hbx1 := Bx.new w 64 #[.int .i64 kd, .int .i64 md, .string s]
  unfold nodeV
  go_enter Tryz.func34, Tryz.ntmps34
  go_upto_region 1 with fail
  generalize w.alloc (.cells #[.int .i64 kd, .int .i64 md, .string s] 64) = w1 at *
  generalize hgx : w.heap.size = gx at *
  obtain ⟨c0, c1, c2⟩ := hbx1.tri64
  go_wp2
  go_ret
  exact ⟨by congr 2, hgx ▸ hb1⟩
set_option maxRecDepth 100000 in
set_option maxHeartbeats 4000000 in
theorem there_any (n : PT.N) (w : World) : Calls Tryz.prog 59 #[nodeV n] w fun e w' => e = .returned (.bool (decide (n.kind ≠ 0))) ∧ Below w.heap.size w w' := by
  obtain ⟨kd, md, s⟩ := n
  have hb1 := al w (.cells #[.int .i64 kd, .int .i64 md, .string s] 64)
  have hbx1 := Bx.new w 64 #[.int .i64 kd, .int .i64 md, .string s]
  unfold nodeV
  go_enter Tryz.func59, Tryz.ntmps59
  go_upto_region 1 with fail
  generalize w.alloc (.cells #[.int .i64 kd, .int .i64 md, .string s] 64) = w1 at *
  generalize hgx : w.heap.size = gx at *
  obtain ⟨c0, c1, c2⟩ := hbx1.tri64
  go_wp2
  go_ret
  exact ⟨by congr 2; by_cases h : kd = 0 <;> simp [h], hgx ▸ hb1⟩
set_option maxRecDepth 100000 in
set_option maxHeartbeats 4000000 in
theorem modeMay_any (n : PT.N) (w : World) : Calls Tryz.prog 81 #[nodeV n] w fun e w' => e = .returned (.bool (decide (0 ≤ n.mode) && decide (n.mode ≤ 255))) ∧ Below w.heap.size w w' := by
  obtain ⟨kd, md, s⟩ := n
  have hb1 := al w (.cells #[.int .i64 kd, .int .i64 md, .string s] 64)
  have hbx1 := Bx.new w 64 #[.int .i64 kd, .int .i64 md, .string s]
  unfold nodeV
  go_enter Tryz.func81, Tryz.ntmps81
  go_upto_region 1 with fail
  generalize w.alloc (.cells #[.int .i64 kd, .int .i64 md, .string s] 64) = w1 at *
  generalize hgx : w.heap.size = gx at *
  obtain ⟨c0, c1, c2⟩ := hbx1.tri64
  by_cases h0 : 0 ≤ md
  · have hd : decide (md ≥ 0) = true := by simpa using h0
    go_wp2
    go_ret
    exact ⟨by simp [h0], hgx ▸ hb1⟩
  · have hd : decide (md ≥ 0) = false := by simpa using h0
    go_wp2
    go_ret
    exact ⟨by simp [h0], hgx ▸ hb1⟩
def put3 (w : World) (g : Nat) (n : PT.N) : World := ((w.setCell ⟨g, 0, none⟩ (.int .i64 n.kind)).setCell ⟨g, 1, none⟩ (.int .i64 n.mode)).setCell ⟨g, 2, none⟩ (.string n.body)
theorem at_out {w W : World} {gx : Nat} {cur : Array Value} (tmps : Array Value) (n : PT.N) (hx : Bx W gx 64 cur) (hs : cur.size = 3) (ht : tmps[4]? = some (.pointer (some ⟨gx, 0, none⟩))) (hb : Below gx w W) : bodyPost Tryz.prog Tryz.f33 (fun e w' => e = .returned (nodeV n) ∧ Below gx w w') Exit.ret { tmps := tmps, defers := [] } (put3 W gx n) := by
  have h3 := ((hx.set 0 (.int .i64 n.kind)).set 1 (.int .i64 n.mode)).set 2 (.string n.body)
  have e3 : ((cur.setIfInBounds 0 (.int .i64 n.kind)).setIfInBounds 1 (.int .i64 n.mode)).setIfInBounds 2 (.string n.body) = #[.int .i64 n.kind, .int .i64 n.mode, .string n.body] := by
    obtain ⟨l⟩ := cur
    match l, hs with
    | [_, _, _], _ => rfl
  rw [e3] at h3
  have hg : gx ≤ gx := Nat.le_refl _
  have hend : Below gx w (put3 W gx n) := ((hb.setCell (p := ⟨gx, 0, none⟩) hg _).setCell (p := ⟨gx, 1, none⟩) hg _).setCell (p := ⟨gx, 2, none⟩) hg _
  obtain ⟨c0, c1, c2⟩ := h3.tri64
  refine bodyPost_ret (v := nodeV n) ?_ rfl ⟨rfl, hend⟩
  unfold put3
  simp [results, Tryz.results33, go_sem, ht, c0, c1, c2, nodeV]
set_option maxRecDepth 100000 in
set_option maxHeartbeats 4000000 in
theorem at_any (v : Value) (t : List PT.N) (z : Int) (w : World) (h : Ts w v t) : Calls Tryz.prog 33 #[v, .int .i64 z] w fun e w' => e = .returned (nodeV (PT.atz t z)) ∧ Below w.heap.size w w' := by
  obtain ⟨A, c, rfl⟩ := h.form
  have hl := h.2.2
  have hz0 := Bx.new w 64 #[.int .i64 0, .int .i64 0, .string { data := #[] }]
  have hb1 := al w (.cells #[.int .i64 0, .int .i64 0, .string { data := #[] }] 64)
  have H := Lib.hid (h.below hb1)
  clear h
  generalize hL : t.length = L at *
  go_enter Tryz.func33, Tryz.ntmps33
  go_upto_region 1 with fail
  generalize w.alloc (.cells #[.int .i64 0, .int .i64 0, .string { data := #[] }] 64) = w1 at *
  generalize hgx : w.heap.size = gx at *
  obtain ⟨c0, c1, c2⟩ := hz0.tri64
  have f0 := hz0.frozen 0
  have f1 := hz0.frozen 1
  have f2 := hz0.frozen 2
  have HE := Lib.hid (And.intro hz0 hb1)
  clear hb1 hz0
  by_cases h1 : z < 1
  · have hd : decide (z < 1) = true := by simpa using h1
    have hr : PT.atz t z = PT.zero := if_neg (by omega)
    go_wp2
    (try simp only [Exit.inBlock, Exit.then])
    (try rw [hr])
    rw [hgx]
    exact at_out (w := w) (W := w1) _ PT.zero HE.out.1 rfl rfl HE.out.2
  · have hd : decide (z < 1) = false := by simpa using h1
    by_cases h2 : z > (L : Int)
    · have hd2 : decide (z > (L : Int)) = true := by simpa using h2
      have hr : PT.atz t z = PT.zero := if_neg (by omega)
      go_wp2
      (try simp only [Exit.inBlock, Exit.then])
      (try rw [hr])
      exact at_out (w := w) (W := w1) _ PT.zero HE.out.1 rfl rfl HE.out.2
    · have hd2 : decide (z > (L : Int)) = false := by simpa using h2
      obtain ⟨k, rfl⟩ : ∃ k : Nat, z = (k : Int) + 1 := ⟨(z - 1).toNat, by omega⟩
      have hk : k < t.length := by omega
      have hr : PT.atz t ((k : Int) + 1) = t[k] := by
        unfold PT.atz
        rw [if_pos (by omega), show ((k : Int) + 1 - 1).toNat = k by omega, List.getElem?_eq_getElem hk]
        rfl
      have hw1 : IntKind.i64.wrap ((k : Int) + 1 - 1) = (k : Int) := by rw [IntKind.wrap_i64]; omega
      obtain ⟨b, o, rfl, hb, hc⟩ := (hL ▸ H.out : Ts w1 (.slice A t.length c) t).at (by omega)
      obtain ⟨d0, d1, d2⟩ := hc k t[k] (List.getElem?_eq_getElem hk)
      go_wp2
      (try simp only [Exit.inBlock, Exit.then])
      (try rw [hr])
      exact at_out (w := w) (W := w1) _ t[k] HE.out.1 rfl rfl HE.out.2
end Go.Proofs.YtniegpdllijjfaaGreatDoor
