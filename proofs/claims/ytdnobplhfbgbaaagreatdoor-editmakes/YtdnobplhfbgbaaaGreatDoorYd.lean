/-
  Contracts: Done, Grown, Tree once more: the trees that are made have names of one letter.
-/
import Derived.Test.YtdnobplhfbgbaaaGreatDoorMUo
import Derived.Test.YtdnobplhfbgbaaaGreatDoorYc
namespace Go.Proofs.YtdnobplhfbgbaaaGreatDoor
open Go.RowKit Go.Joins

namespace Q
set_option maxRecDepth 100000 in
set_option maxHeartbeats 8000000 in
theorem done_any (v : Value) (t : List PT.N) (kd md off : Int) (p tw tx : ByteArray) (w : World) (h : Ts w v t) (g : PT.Lone t) (hp : PT.Pq p) (htw : PT.Pq tw) (htx : tx.size ≤ 1048576) : Calls Tryz.prog 114 #[v, .agg (sc kd md off p tw tx), .bool false] w fun e w' => ∃ (v' : Value) (t' : List PT.N) (err : Int), e = .returned (.tuple #[v', .int .i64 err]) ∧ Ts w' v' t' ∧ PT.Lone t' ∧ Below w.heap.size w w' := by
  have hb1 := al w (.cells (sc kd md off p tw tx) 52)
  have hT1 := h.below hb1
  have hx1 := Bx.new w 52 (sc kd md off p tw tx)
  have hz1 := hb1.size
  clear h
  by_cases h1 : kd = 1
  · subst h1
    go_enter Tryz.func114, Tryz.ntmps114
    go_upto_region 1 with fail
    generalize w.alloc (.cells (sc 1 md off p tw tx) 52) = w1 at *
    generalize hgx : w.heap.size = gx at *
    obtain ⟨⟨c0, c1, c2, c3, c4, c5, c6, c7, c8⟩, _⟩ := hx1.step
    go_wp2_with (go_at_call 25; refine (rmake_any v t p md 6 0 false w1 hT1 g.good.fine (by have := hp.le; omega)).mono ?_; rintro e w2 ⟨v2, rfl, hT2, hB2⟩)
    go_ret2
    exact ⟨_, _, _, rfl, hT2, ⟨⟨PT.make_fine g.good.fine _ _ _ _, PT.make_plain g.good.plain (PT.pp_anyone _) _ _ _⟩, PT.make_one g.one hp.ones _ _ _⟩, by rw [hgx]; exact hb1.trans (hB2.mono hz1)⟩
  have e1 : (kd == 1) = false := by simpa using h1
  by_cases h2 : kd = 2
  · subst h2
    go_enter Tryz.func114, Tryz.ntmps114
    go_upto_region 1 with fail
    generalize w.alloc (.cells (sc 2 md off p tw tx) 52) = w1 at *
    generalize hgx : w.heap.size = gx at *
    obtain ⟨⟨c0, c1, c2, c3, c4, c5, c6, c7, c8⟩, _⟩ := hx1.step
    go_wp2_with (go_at_call 28; refine (rlink_any v t p tw false w1 hT1 g.good.fine (by have := hp.le; omega) (by have := htw.le; omega)).mono ?_; rintro e w2 ⟨v2, rfl, hT2, hB2⟩)
    go_ret2
    exact ⟨_, _, _, rfl, hT2, ⟨⟨PT.link_fine g.good.fine _ _, PT.link_plain g.good.plain _ (PT.pp_anyone _)⟩, PT.link_one g.one _ htw.ones⟩, by rw [hgx]; exact hb1.trans (hB2.mono hz1)⟩
  have e2 : (kd == 2) = false := by simpa using h2
  by_cases h3 : kd = 3
  · subst h3
    go_enter Tryz.func114, Tryz.ntmps114
    go_upto_region 1 with fail
    generalize w.alloc (.cells (sc 3 md off p tw tx) 52) = w1 at *
    generalize hgx : w.heap.size = gx at *
    obtain ⟨⟨c0, c1, c2, c3, c4, c5, c6, c7, c8⟩, _⟩ := hx1.step
    go_wp2_with (go_at_call 32; refine (rdrop_any v t p false w1 hT1 g.good.fine (by have := hp.le; omega)).mono ?_; rintro e w2 ⟨v2, rfl, hT2, hB2⟩)
    go_ret2
    exact ⟨_, _, _, rfl, hT2, ⟨⟨PT.drop_fine g.good.fine _, PT.drop_plain g.good.plain _⟩, PT.drop_one g.one _⟩, by rw [hgx]; exact hb1.trans (hB2.mono hz1)⟩
  have e3 : (kd == 3) = false := by simpa using h3
  by_cases h4 : kd = 4
  · subst h4
    go_enter Tryz.func114, Tryz.ntmps114
    go_upto_region 1 with fail
    generalize w.alloc (.cells (sc 4 md off p tw tx) 52) = w1 at *
    generalize hgx : w.heap.size = gx at *
    obtain ⟨⟨c0, c1, c2, c3, c4, c5, c6, c7, c8⟩, _⟩ := hx1.step
    go_wp2_with (go_at_call 30; refine (rmove_any v t p tw false w1 hT1 g.good.fine (by have := hp.le; omega) (by have := htw.le; omega)).mono ?_; rintro e w2 ⟨v2, rfl, hT2, hB2⟩)
    go_ret2
    exact ⟨_, _, _, rfl, hT2, ⟨⟨PT.move_fine g.good.fine _ _, PT.move_plain g.good.plain _ (PT.pp_anyone _)⟩, PT.move_one g.one _ htw.ones⟩, by rw [hgx]; exact hb1.trans (hB2.mono hz1)⟩
  have e4 : (kd == 4) = false := by simpa using h4
  by_cases h5 : kd = 5
  · subst h5
    go_enter Tryz.func114, Tryz.ntmps114
    go_upto_region 1 with fail
    generalize w.alloc (.cells (sc 5 md off p tw tx) 52) = w1 at *
    generalize hgx : w.heap.size = gx at *
    obtain ⟨⟨c0, c1, c2, c3, c4, c5, c6, c7, c8⟩, _⟩ := hx1.step
    go_wp2_with (go_at_call 39; refine (rwrite_any v t p off tx false w1 hT1 g.good.fine (by have := hp.le; omega) htx).mono ?_; rintro e w2 ⟨v2, rfl, hT2, hB2⟩)
    go_ret2
    exact ⟨_, _, _, rfl, hT2, ⟨⟨PT.write_fine g.good.fine _ _ _, PT.write_plain g.good.plain _ _ _⟩, PT.write_one g.one _ _ _⟩, by rw [hgx]; exact hb1.trans (hB2.mono hz1)⟩
  have e5 : (kd == 5) = false := by simpa using h5
  by_cases h6 : kd = 6
  · subst h6
    go_enter Tryz.func114, Tryz.ntmps114
    go_upto_region 1 with fail
    generalize w.alloc (.cells (sc 6 md off p tw tx) 52) = w1 at *
    generalize hgx : w.heap.size = gx at *
    obtain ⟨⟨c0, c1, c2, c3, c4, c5, c6, c7, c8⟩, _⟩ := hx1.step
    go_wp2_with (go_at_call 46; refine (rcut_any v t p off false w1 hT1 g.good.fine (by have := hp.le; omega)).mono ?_; rintro e w2 ⟨v2, rfl, hT2, hB2⟩)
    go_ret2
    exact ⟨_, _, _, rfl, hT2, ⟨⟨PT.cut_fine g.good.fine _ _, PT.cut_plain g.good.plain _ _⟩, PT.cut_one g.one _ _⟩, by rw [hgx]; exact hb1.trans (hB2.mono hz1)⟩
  have e6 : (kd == 6) = false := by simpa using h6
  go_enter Tryz.func114, Tryz.ntmps114
  go_upto_region 1 with fail
  generalize w.alloc (.cells (sc kd md off p tw tx) 52) = w1 at *
  generalize hgx : w.heap.size = gx at *
  obtain ⟨⟨c0, c1, c2, c3, c4, c5, c6, c7, c8⟩, _⟩ := hx1.step
  go_wp2_with (go_at_call 48; refine (rmode_any v t p md false w1 hT1 g.good.fine (by have := hp.le; omega)).mono ?_; rintro e w2 ⟨v2, rfl, hT2, hB2⟩)
  go_ret2
  exact ⟨_, _, _, rfl, hT2, ⟨⟨PT.mode_fine g.good.fine _ _, PT.mode_plain g.good.plain _ _⟩, PT.mode_one g.one _ _⟩, by rw [hgx]; exact hb1.trans (hB2.mono hz1)⟩

set_option maxRecDepth 100000 in
set_option maxHeartbeats 8000000 in
theorem grownP {w0 : World} {A : Option Addr} {n c g : Nat} {bs : List Nat} (hv : Tx w0 (.slice A n c) bs) (hn : bs.length = n) (v : Value) (t : List PT.N) (most : Nat) (hm : most ≤ 1000) (w : World) (h : Pw w0 A n c g w) (hT : Ts w v t) (hF : PT.Lone t) : Calls Tryz.prog 68 #[.pointer (some ⟨g, 0, none⟩), v, .int .i64 (most : Int)] w fun e w' => ∃ (v' : Value) (t' : List PT.N), e = .returned v' ∧ Ts w' v' t' ∧ PT.Lone t' ∧ Pw w0 A n c g w' := by
  have HP := Lib.hid h
  have HT := Lib.hid hT
  have HF := Lib.hid hF
  clear h hT hF
  go_enter Tryz.func68, Tryz.ntmps68
  go_wp2
  go_loopw [1, 7] (fun u i wr => ∃ (k : Nat) (t' : List PT.N), k ≤ most ∧ i = .int .i64 (k : Int) ∧ Ts wr u t' ∧ PT.Lone t' ∧ Pw w0 A n c g wr) (fun _ i _ => most - (intOf i).toNat)
  case atStart => exact ⟨0, t, Nat.zero_le _, rfl, HT.out, HF.out, HP.out⟩
  case round =>
    obtain ⟨k, t', hk, rfl, hT, hF, hP⟩ := hrel
    by_cases hlt : k < most
    · have HT1 := Lib.hid hT
      have HF1 := Lib.hid hF
      have HP1 := Lib.hid hP
      clear hT hF hP
      have hd : decide ((k : Int) < (most : Int)) = true := by simp; omega
      go_wp2_with (go_at_call 34; refine (overP _ HP1.out).mono ?_; rintro e w1 ⟨ob, rfl, hB1⟩; have hP1 := HP1.out.on hB1 HP1.out.lt; have hT1 := HT1.out.below hB1; cases ob)
      · have hedit := edit_try hv hn w1 hP1
        have HT2 := Lib.hid hT1
        have HP2 := Lib.hid hP1
        clear hT1 hP1 hB1
        go_wp2_with fail
        refine hedit.mono ?_
        rintro e w2 ⟨kd, md, off, p, tw, tx, rfl, q1, q2, q3, q4, q5, hP2, hN2⟩
        have hT2 : Ts w2 u1 t' := by
          obtain ⟨_, _, ix, _, hx⟩ := HP2.out
          exact HT2.out.nx HF1.out.good.fine.len hx hN2
        have hdone := done_any u1 t' kd md off p tw tx w2 hT2 HF1.out q3 q4 q5
        have HP3 := Lib.hid hP2
        clear hedit hP2 hN2 hT2 HT2 HP2
        go_wp2_with fail
        refine hdone.mono ?_
        rintro e w3 ⟨v3, t3, er, rfl, hT3, hF3, hB3⟩
        have hP3 := HP3.out.on hB3 HP3.out.lt
        have HR := Lib.hid (And.intro hT3 (And.intro hF3 hP3))
        clear hdone hT3 hF3 hP3 hB3
        go_wp2
        go_roundw
        case rel => exact ⟨k + 1, t3, by omega, by go_num, HR.out.1, HR.out.2.1, HR.out.2.2⟩
        case measure => simp [intOf]; omega
      · have HR := Lib.hid (And.intro hT1 (And.intro HF1.out hP1))
        clear hT1 hP1 hB1
        go_wp2
        go_ret
        exact ⟨_, _, rfl, HR.out.1, HR.out.2.1, HR.out.2.2⟩
    · have HR := Lib.hid (And.intro hT (And.intro hF hP))
      clear hT hF hP
      have hd : decide ((k : Int) < (most : Int)) = false := by simp; omega
      go_wp2
      go_ret
      exact ⟨_, _, rfl, HR.out.1, HR.out.2.1, HR.out.2.2⟩

set_option maxRecDepth 100000 in
set_option maxHeartbeats 4000000 in
theorem treeP {w0 : World} {A : Option Addr} {n c g : Nat} {bs : List Nat} (hv : Tx w0 (.slice A n c) bs) (hn : bs.length = n) (most : Nat) (hm : most ≤ 1000) (w : World) (h : Pw w0 A n c g w) : Calls Tryz.prog 21 #[.pointer (some ⟨g, 0, none⟩), .int .i64 (most : Int)] w fun e w' => ∃ (v' : Value) (t' : List PT.N), e = .returned v' ∧ Ts w' v' t' ∧ PT.Lone t' ∧ Pw w0 A n c g w' := by
  have HP := Lib.hid h
  clear h
  go_enter Tryz.func21, Tryz.ntmps21
  go_wp2_with (go_at_call 33; refine (rnew_any w).mono ?_; rintro e w1 ⟨v1, rfl, hT1, hB1⟩; have hP1 := HP.out.on hB1 HP.out.lt; have hTs := hT1.row PT.new_fit; have hgr := grownP hv hn v1 PT.new most hm w1 hP1 hTs PT.new_lone)
  have HX := Lib.hid hgr
  clear hgr hP1 hTs hT1 hB1
  go_wp2_with (go_at_call 68; refine HX.out.mono ?_; rintro e w2 ⟨v2, t2, rfl, hT2, hF2, hP2⟩)
  go_ret
  exact ⟨_, _, rfl, hT2, hF2, hP2⟩

end Q
end Go.Proofs.YtdnobplhfbgbaaaGreatDoor
