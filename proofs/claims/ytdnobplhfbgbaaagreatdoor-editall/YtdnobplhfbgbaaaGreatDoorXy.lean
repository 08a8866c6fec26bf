/-
  The law EditAll, walked.
-/
import Derived.Test.YtdnobplhfbgbaaaGreatDoorXv
namespace Go.Proofs.YtdnobplhfbgbaaaGreatDoor
open Go.RowKit Go.Joins

/-- A row of ints. -/
def Ir (w : World) (v : Value) (l : List Int) : Prop := Sl w 1 v l.length (l.map iv)
theorem Ir.below {w w' : World} {v : Value} {l : List Int} (h : Ir w v l) (hb : Below w.heap.size w w') : Ir w' v l := Sl.below h hb
theorem Ir.at {w : World} {A : Option Addr} {n c : Nat} {l : List Int} (h : Ir w (.slice A n c) l) (h0 : 0 < l.length) : ∃ b o, A = some ⟨b, o, none⟩ ∧ b < w.heap.size ∧ ∀ (j : Nat) x, l[j]? = some x → w.cell? ⟨b, o + j, none⟩ = some (.int .i64 x) := by
  obtain ⟨A', c', hv, hl, hA⟩ := h
  injection hv with e1 e2 e3
  subst e1
  obtain ⟨b, o, e, hb, hc⟩ := hA h0
  refine ⟨b, o, e, hb, fun j x hj => ?_⟩
  have hlt : j < l.length := (List.getElem?_eq_some_iff.1 hj).1
  rw [hc j (by omega), List.getElem?_map, hj]
  rfl
theorem Bx.ss4 {w : World} {g : Nat} {a b c d : ByteArray} (h : Bx w g 9 #[.string a, .string b, .string c, .string d]) (ha : a.size ≤ 1048576) (hb : b.size ≤ 1048576) (hc : c.size ≤ 1048576) (hd : d.size ≤ 1048576) : Ss w (.slice (some ⟨g, 0, none⟩) 4 4) [a, b, c, d] := by
  refine ⟨⟨_, 4, rfl, rfl, fun _ => ⟨g, 0, rfl, h.lt, fun j hj => ?_⟩⟩, ?_, by simp⟩
  · rw [Nat.zero_add, h.cell j]
    simp at hj
    match j, hj with
    | 0, _ | 1, _ | 2, _ | 3, _ => rfl
  · intro s hs
    simp at hs
    rcases hs with rfl | rfl | rfl | rfl <;> assumption
theorem Bx.ir4 {w : World} {g : Nat} {a b c d : Int} (h : Bx w g 3 #[.int .i64 a, .int .i64 b, .int .i64 c, .int .i64 d]) : Ir w (.slice (some ⟨g, 0, none⟩) 4 4) [a, b, c, d] := by
  refine ⟨_, 4, rfl, rfl, fun _ => ⟨g, 0, rfl, h.lt, fun j hj => ?_⟩⟩
  rw [Nat.zero_add, h.cell j]
  simp at hj
  match j, hj with
  | 0, _ | 1, _ | 2, _ | 3, _ => rfl
set_option maxRecDepth 100000 in
set_option maxHeartbeats 4000000 in
theorem eall_out (A : Option Addr) (n c : Nat) (A' : Option Addr) (n' c' : Nat) (s1 s2 : ByteArray) (z1 z2 z3 : Int) (ow : Nat) (W : World) (hM : Ml W) (hn : 60 < n ∨ 8 < n' ∨ 80 < s1.size ∨ 80 < s2.size) : Calls Tryz.prog 4 #[.slice A n c, .slice A' n' c', .string s1, .string s2, .int .i64 z1, .int .i64 z2, .int .i64 z3, .int .u8 (ow : Int)] W fun e W' => e = .returned (.bool true) ∧ Below W.heap.size W W' := by
  have h8 := ebegun_any W hM
  by_cases h1 : 60 < n
  · have hd : decide ((60 : Int) < (n : Int)) = true := decide_eq_true (by omega)
    go_enter Tryz.func4, Tryz.ntmps4
    go_wp2_with (go_at_call 19; refine h8.mono ?_; rintro e w1 ⟨rfl, hB1⟩)
    go_ret
    exact ⟨rfl, hB1⟩
  have hd : decide ((60 : Int) < (n : Int)) = false := decide_eq_false (by omega)
  by_cases h2 : 8 < n'
  · have hd2 : decide ((8 : Int) < (n' : Int)) = true := decide_eq_true (by omega)
    go_enter Tryz.func4, Tryz.ntmps4
    go_wp2_with (go_at_call 19; refine h8.mono ?_; rintro e w1 ⟨rfl, hB1⟩)
    go_ret
    exact ⟨rfl, hB1⟩
  have hd2 : decide ((8 : Int) < (n' : Int)) = false := decide_eq_false (by omega)
  by_cases h3 : 80 < s1.size
  · have hd3 : decide ((80 : Int) < (s1.size : Int)) = true := decide_eq_true (by omega)
    go_enter Tryz.func4, Tryz.ntmps4
    go_wp2_with (go_at_call 19; refine h8.mono ?_; rintro e w1 ⟨rfl, hB1⟩)
    go_ret
    exact ⟨rfl, hB1⟩
  · have hd3 : decide ((80 : Int) < (s1.size : Int)) = false := decide_eq_false (by omega)
    have hd4 : decide ((80 : Int) < (s2.size : Int)) = true := decide_eq_true (by omega)
    go_enter Tryz.func4, Tryz.ntmps4
    go_wp2_with (go_at_call 19; refine h8.mono ?_; rintro e w1 ⟨rfl, hB1⟩)
    go_ret
    exact ⟨rfl, hB1⟩
set_option maxRecDepth 100000 in
set_option maxHeartbeats 64000000 in
theorem eall_law (A : Option Addr) (n c : Nat) (bs : List Nat) (A' : Option Addr) (n' c' : Nat) (bs' : List Nat) (s1 s2 : ByteArray) (z1 z2 z3 : Int) (ow : Nat) (W : World) (hM : Ml W) (hv : Tx W (.slice A n c) bs) (hn : bs.length = n) (h60 : n ≤ 60) (hv' : Tx W (.slice A' n' c') bs') (hn' : bs'.length = n') (h8' : n' ≤ 8) (hs1 : s1.size ≤ 80) (hs2 : s2.size ≤ 80) (_ : ow < 256) : Calls Tryz.prog 4 #[.slice A n c, .slice A' n' c', .string s1, .string s2, .int .i64 z1, .int .i64 z2, .int .i64 z3, .int .u8 (ow : Int)] W fun e W' => e = .returned (.bool true) ∧ Below W.heap.size W W' := by
  have h8 := ebegun_any W hM
  have hd60 : decide ((60 : Int) < (n : Int)) = false := decide_eq_false (by omega)
  have hd8 : decide ((8 : Int) < (n' : Int)) = false := decide_eq_false (by omega)
  have hd81 : decide ((80 : Int) < (s1.size : Int)) = false := decide_eq_false (by omega)
  have hd82 : decide ((80 : Int) < (s2.size : Int)) = false := decide_eq_false (by omega)
  have HM := Lib.hid hM
  have HV := Lib.hid (And.intro hv hv')
  obtain ⟨o, hown⟩ : ∃ o : Nat, ow % 2 = o := ⟨_, rfl⟩
  have hro : Int.tmod (ow : Int) 2 = (o : Int) := by rw [← hown]; exact rfl
  obtain ⟨ob, hob⟩ : ∃ ob : Bool, ((o : Int) == 1) = ob := ⟨_, rfl⟩
  clear hM hv hv' hown
  go_enter Tryz.func4, Tryz.ntmps4
  go_wp2_with (go_at_call 19; refine h8.mono ?_; rintro e w1 ⟨rfl, hB1⟩; have h9 := made_any A n c w1)
  refine h9.mono ?_
  rintro e w2 ⟨g, rfl, hg, hx, hB2⟩
  have hP := Pw.start hB1 hg hx hB2
  have h10 := treeP HV.out.1 hn 30 (by decide) w2 hP
  clear h9 hx hg hB1 hB2 hP
  go_wp2_with fail
  refine h10.mono ?_
  rintro e w3 ⟨v, t, rfl, hT, hG, hP3⟩
  have hb3 := hP3.1
  have hl9 := hG.fine.len
  obtain ⟨T, TC, rfl⟩ := hT.form
  rw [hl9] at hT ⊢
  have HT := Lib.hid hT
  have HG := Lib.hid hG
  have HB3 := Lib.hid hb3
  have h9 := made_any A' n' c' w3
  have hv3 : Tx w3 (.slice A' n' c') bs' := HV.out.2.below hb3
  have HV3 := Lib.hid hv3
  clear h8 h10 hT hG hP3 hb3 hv3
  go_wp2_with fail
  refine h9.mono ?_
  rintro e w5 ⟨g5, rfl, hg5, hx5, hB5⟩
  have hP5 := Pw.start (Below.refl _ _) hg5 hx5 hB5
  clear h9 hg5 hx5 hB5
  have h18 := pathP HV3.out hn' w5 hP5
  go_wp2_with fail
  refine h18.mono ?_
  rintro e w6 ⟨p1, rfl, hp1, hP6, hN6⟩
  clear h18
  have h18 := pathP HV3.out hn' w6 hP6
  go_wp2_with fail
  refine h18.mono ?_
  rintro e w7 ⟨p2, rfl, hp2, hP7, hN7⟩
  clear h18
  have hP7a := hP7.on (al w7 (.cells #[.string s1, .string p1, .string p2, .string s1] 9)) hP7.lt
  have hA7 := Bx.new w7 9 #[.string s1, .string p1, .string p2, .string s1]
  have hga : w7.heap.size ≠ g5 := fun e => by have := hP7.lt; omega
  have h18 := pathP HV3.out hn' _ hP7a
  go_wp2_with fail
  refine h18.mono ?_
  rintro e w8 ⟨p3, rfl, hp3, hP8, hN8⟩
  have hA8 := hA7.nx hN8 hga
  clear h18 hA7
  have h18 := pathP HV3.out hn' w8 hP8
  go_wp2_with fail
  refine h18.mono ?_
  rintro e w9 ⟨p4, rfl, hp4, hP9, hN9⟩
  clear h18
  have hA9 := hA8.nx hN9 hga
  have hP9a := hP9.on (al w9 (.cells #[.string s2, .string p3, .string s2, .string p4] 9)) hP9.lt
  have hB9 := Bx.new w9 9 #[.string s2, .string p3, .string s2, .string p4]
  have hA9a := hA9.alloc (.cells #[.string s2, .string p3, .string s2, .string p4] 9)
  have hgb : w9.heap.size ≠ g5 := fun e => by have := hP9.lt; omega
  have h18 := numP HV3.out hn' 2 (by decide) (by decide) _ hP9a
  go_wp2_with fail
  refine h18.mono ?_
  rintro e w10 ⟨r1, rfl, hr1, hP10, hN10⟩
  have hA10 := hA9a.nx hN10 hga
  have hB10 := hB9.nx hN10 hgb
  clear h18 hA9 hA9a hB9
  have hwr1 : IntKind.i64.wrap (1 + (r1 : Int)) = 1 + (r1 : Int) := by rw [IntKind.wrap_i64]; omega
  have hP10a := hP10.on (al w10 (.cells #[.int .i64 z1, .int .i64 (1 + (r1 : Int)), .int .i64 2, .int .i64 1] 3)) hP10.lt
  have hK10 := Bx.new w10 3 #[.int .i64 z1, .int .i64 (1 + (r1 : Int)), .int .i64 2, .int .i64 1]
  have hA10a := hA10.alloc (.cells #[.int .i64 z1, .int .i64 (1 + (r1 : Int)), .int .i64 2, .int .i64 1] 3)
  have hB10a := hB10.alloc (.cells #[.int .i64 z1, .int .i64 (1 + (r1 : Int)), .int .i64 2, .int .i64 1] 3)
  have hgk : w10.heap.size ≠ g5 := fun e => by have := hP10.lt; omega
  have h18 := numP HV3.out hn' 256 (by decide) (by decide) _ hP10a
  go_wp2_with fail
  refine h18.mono ?_
  rintro e w11 ⟨r2, rfl, hr2, hP11, hN11⟩
  have hA11 := hA10a.nx hN11 hga
  have hB11 := hB10a.nx hN11 hgb
  have hK11 := hK10.nx hN11 hgk
  clear h18 hA10 hA10a hB10 hB10a hK10
  have hP11a := hP11.on (al w11 (.cells #[.int .i64 z2, .int .i64 (r2 : Int), .int .i64 7, .int .i64 0] 3)) hP11.lt
  have hM11 := Bx.new w11 3 #[.int .i64 z2, .int .i64 (r2 : Int), .int .i64 7, .int .i64 0]
  have hA11a := hA11.alloc (.cells #[.int .i64 z2, .int .i64 (r2 : Int), .int .i64 7, .int .i64 0] 3)
  have hB11a := hB11.alloc (.cells #[.int .i64 z2, .int .i64 (r2 : Int), .int .i64 7, .int .i64 0] 3)
  have hK11a := hK11.alloc (.cells #[.int .i64 z2, .int .i64 (r2 : Int), .int .i64 7, .int .i64 0] 3)
  have hgm : w11.heap.size ≠ g5 := fun e => by have := hP11.lt; omega
  have h18 := numP HV3.out hn' 11 (by decide) (by decide) _ hP11a
  go_wp2_with fail
  refine h18.mono ?_
  rintro e w12 ⟨r3, rfl, hr3, hP12, hN12⟩
  have hA12 := hA11a.nx hN12 hga
  have hB12 := hB11a.nx hN12 hgb
  have hK12 := hK11a.nx hN12 hgk
  have hM12 := hM11.nx hN12 hgm
  clear h18 hA11 hA11a hB11 hB11a hK11 hK11a hM11
  have h18 := numP HV3.out hn' 9 (by decide) (by decide) _ hP12
  go_wp2_with fail
  refine h18.mono ?_
  rintro e w13 ⟨r4, rfl, hr4, hP13, hN13⟩
  have hA13 := hA12.nx hN13 hga
  have hB13 := hB12.nx hN13 hgb
  have hK13 := hK12.nx hN13 hgk
  have hM13 := hM12.nx hN13 hgm
  have hwr4 : IntKind.i64.wrap (1 + (r4 : Int)) = 1 + (r4 : Int) := by rw [IntKind.wrap_i64]; omega
  clear h18 hA12 hB12 hK12 hM12
  have hN := Bx.new w13 3 #[.int .i64 z3, .int .i64 0, .int .i64 (r3 : Int), .int .i64 (1 + (r4 : Int))]
  have HAs := Lib.hid ((hA13.alloc (.cells #[.int .i64 z3, .int .i64 0, .int .i64 (r3 : Int), .int .i64 (1 + (r4 : Int))] 3)).ss4 (by omega) (by omega) (by omega) (by omega))
  have HBs := Lib.hid ((hB13.alloc (.cells #[.int .i64 z3, .int .i64 0, .int .i64 (r3 : Int), .int .i64 (1 + (r4 : Int))] 3)).ss4 (by omega) (by omega) (by omega) (by omega))
  have HKs := Lib.hid (hK13.alloc (.cells #[.int .i64 z3, .int .i64 0, .int .i64 (r3 : Int), .int .i64 (1 + (r4 : Int))] 3)).ir4
  have HMs := Lib.hid (hM13.alloc (.cells #[.int .i64 z3, .int .i64 0, .int .i64 (r3 : Int), .int .i64 (1 + (r4 : Int))] 3)).ir4
  have HNs := Lib.hid hN.ir4
  have hP14 := hP13.on (al w13 (.cells #[.int .i64 z3, .int .i64 0, .int .i64 (r3 : Int), .int .i64 (1 + (r4 : Int))] 3)) hP13.lt
  have HT14 := Lib.hid (HT.out.below hP14.1)
  have HB14 := Lib.hid (HB3.out.trans (hP14.1.mono HB3.out.size))
  have hsa : ∀ x ∈ [s1, p1, p2, s1], x.size ≤ 65535 := by intro x hx; simp at hx; rcases hx with rfl | rfl | rfl | rfl <;> omega
  have hsb : ∀ x ∈ [s2, p3, s2, p4], x.size ≤ 65535 := by intro x hx; simp at hx; rcases hx with rfl | rfl | rfl | rfl <;> omega
  clear hA13 hB13 hK13 hM13 hN hP14 hP13 hP12 hP11 hP10 hP9 hP8 hP7 hP6 hP5 hP7a hP9a hP10a hP11a hN6 hN7 hN8 hN9 hN10 hN11 hN12 hN13 hr1 hr2 hr3 hr4 hp1 hp2 hp3 hp4 hs1 hs2 HV HV3 hA8
  go_upto_region 11 with fail
  generalize w13.alloc (.cells #[.int .i64 z3, .int .i64 0, .int .i64 (r3 : Int), .int .i64 (1 + (r4 : Int))] 3) = w14 at *
  obtain ⟨la, hla⟩ : ∃ la, [s1, p1, p2, s1] = la := ⟨_, rfl⟩
  obtain ⟨lb, hlb⟩ : ∃ lb, [s2, p3, s2, p4] = lb := ⟨_, rfl⟩
  obtain ⟨lk, hlk⟩ : ∃ lk, [z1, 1 + (r1 : Int), 2, 1] = lk := ⟨_, rfl⟩
  obtain ⟨lm, hlm⟩ : ∃ lm, [z2, (r2 : Int), 7, 0] = lm := ⟨_, rfl⟩
  obtain ⟨ln, hln⟩ : ∃ ln, [z3, 0, (r3 : Int), 1 + (r4 : Int)] = ln := ⟨_, rfl⟩
  have ha4 : la.length = 4 := by rw [← hla]; rfl
  have hb4 : lb.length = 4 := by rw [← hlb]; rfl
  have hk4 : lk.length = 4 := by rw [← hlk]; rfl
  have hm4 : lm.length = 4 := by rw [← hlm]; rfl
  have hn4 : ln.length = 4 := by rw [← hln]; rfl
  rw [hla] at HAs hsa
  rw [hlb] at HBs hsb
  rw [hlk] at HKs
  rw [hlm] at HMs
  rw [hln] at HNs
  clear hla hlb hlk hlm hln
  obtain ⟨ba, oa, ea, hba, hca⟩ := HAs.out.at (by omega)
  obtain ⟨bd, od, eb, hbb, hcb⟩ := HBs.out.at (by omega)
  obtain ⟨bk, ok, ek, hbk, hck⟩ := HKs.out.at (by omega)
  obtain ⟨bm, om, em, hbm, hcm⟩ := HMs.out.at (by omega)
  obtain ⟨bn, on, en, hbn, hcn⟩ := HNs.out.at (by omega)
  rw [ea, eb, ek, em, en]
  have HCA := Lib.hid (And.intro hba hca)
  have HCB := Lib.hid (And.intro hbb hcb)
  have HCK := Lib.hid (And.intro hbk hck)
  have HCM := Lib.hid (And.intro hbm hcm)
  have HCN := Lib.hid (And.intro hbn hcn)
  have HSA := Lib.hid hsa
  have HSB := Lib.hid hsb
  clear ea eb ek em en hba hca hbb hcb hbk hck hbm hcm hbn hcn hsa hsb HAs HBs HKs HMs HNs hwr1 hwr4 hga hgb hgk hgm
  go_wp2
  go_loopw [25] (fun iv wr => ∃ jj : Nat, jj ≤ 4 ∧ iv = .int .i64 (jj : Int) ∧ Below w14.heap.size w14 wr) (fun iv _ => 4 - (intOf iv).toNat)
  case atStart => exact ⟨0, by decide, rfl, Below.refl _ _⟩
  case round =>
    obtain ⟨jj, hj4, rfl, hB⟩ := hrel
    by_cases hlt : jj < 4
    · have hd : decide ((jj : Int) < 4) = true := by simp; omega
      have hwj : IntKind.i64.wrap ((jj : Int) + 1) = (jj : Int) + 1 := by rw [IntKind.wrap_i64]; omega
      obtain ⟨sa, hsa⟩ : ∃ x, la[jj]? = some x := ⟨_, List.getElem?_eq_getElem (by omega)⟩
      obtain ⟨sb, hsb⟩ : ∃ x, lb[jj]? = some x := ⟨_, List.getElem?_eq_getElem (by omega)⟩
      obtain ⟨zk, hzk⟩ : ∃ x, lk[jj]? = some x := ⟨_, List.getElem?_eq_getElem (by omega)⟩
      obtain ⟨zm, hzm⟩ : ∃ x, lm[jj]? = some x := ⟨_, List.getElem?_eq_getElem (by omega)⟩
      obtain ⟨zn, hzn⟩ : ∃ x, ln[jj]? = some x := ⟨_, List.getElem?_eq_getElem (by omega)⟩
      have ca := HCA.out.2 jj sa hsa
      have cb := HCB.out.2 jj sb hsb
      have ck := HCK.out.2 jj zk hzk
      have cm := HCM.out.2 jj zm hzm
      have cn := HCN.out.2 jj zn hzn
      have hza := HSA.out sa (List.mem_of_getElem? hsa)
      have hzb := HSB.out sb (List.mem_of_getElem? hsb)
      have HAC0 := Lib.hid (fun V (hV : Below w14.heap.size w14 V) => (hV.cell (p := ⟨ba, oa + jj, none⟩) HCA.out.1).trans ca)
      have HDC0 := Lib.hid (fun V (hV : Below w14.heap.size w14 V) => (hV.cell (p := ⟨bd, od + jj, none⟩) HCB.out.1).trans cb)
      have HKC0 := Lib.hid (fun V (hV : Below w14.heap.size w14 V) => (hV.cell (p := ⟨bk, ok + jj, none⟩) HCK.out.1).trans ck)
      have HMC0 := Lib.hid (fun V (hV : Below w14.heap.size w14 V) => (hV.cell (p := ⟨bm, om + jj, none⟩) HCM.out.1).trans cm)
      have HNC0 := Lib.hid (fun V (hV : Below w14.heap.size w14 V) => (hV.cell (p := ⟨bn, on + jj, none⟩) HCN.out.1).trans cn)
      have hMK := fun V (hV : Below w14.heap.size w14 V) => emakeV (.slice T 9 TC) t ob sa zk zm zn V ((HM.out.below HB14.out).below hV) (HT14.out.below hV) HG.out.fine hza
      have hRM := fun V (hV : Below w14.heap.size w14 V) => rmake_any (.slice T 9 TC) t sa zk zm zn ob V (HT14.out.below hV) HG.out.fine hza
      have hLK := fun V (hV : Below w14.heap.size w14 V) => elinkV (.slice T 9 TC) t ob sa sb V ((HM.out.below HB14.out).below hV) (HT14.out.below hV) HG.out.fine hza hzb
      have hRL := fun V (hV : Below w14.heap.size w14 V) => rlink_any (.slice T 9 TC) t sa sb ob V (HT14.out.below hV) HG.out.fine hza hzb
      have hMV := fun V (hV : Below w14.heap.size w14 V) => emoveV (.slice T 9 TC) t ob sa sb V ((HM.out.below HB14.out).below hV) (HT14.out.below hV) HG.out.fine hza hzb
      have hRV := fun V (hV : Below w14.heap.size w14 V) => rmove_any (.slice T 9 TC) t sa sb ob V (HT14.out.below hV) HG.out.fine hza hzb
      have hDR := fun V (hV : Below w14.heap.size w14 V) => edropV (.slice T 9 TC) t ob sa V ((HM.out.below HB14.out).below hV) (HT14.out.below hV) HG.out.fine hza
      have hRD := fun V (hV : Below w14.heap.size w14 V) => rdrop_any (.slice T 9 TC) t sa ob V (HT14.out.below hV) HG.out.fine hza
      obtain ⟨⟨xM, eM⟩, hxM⟩ : ∃ x, PT.make t (PT.pp ob sa) zk zm zn = x := ⟨_, rfl⟩
      obtain ⟨⟨xL, eL⟩, hxL⟩ : ∃ x, PT.link t (PT.pp ob sa) (PT.pp ob sb) = x := ⟨_, rfl⟩
      obtain ⟨⟨xV, eV⟩, hxV⟩ : ∃ x, PT.move t (PT.pp ob sa) (PT.pp ob sb) = x := ⟨_, rfl⟩
      obtain ⟨⟨xD, eD⟩, hxD⟩ : ∃ x, PT.drop t (PT.pp ob sa) = x := ⟨_, rfl⟩
      simp only [hxM] at hMK hRM
      simp only [hxL] at hLK hRL
      simp only [hxV] at hMV hRV
      simp only [hxD] at hDR hRD
      have hsm := fun x u u' V (h : Ts V u x) (h' : Ts V u' x) => rsame_any u u' x x V h h'
      simp only [decide_true] at hsm
      have HSM := Lib.hid hsm
      have HMK0 := Lib.hid hMK
      have HRM0 := Lib.hid hRM
      have HLK0 := Lib.hid hLK
      have HRL0 := Lib.hid hRL
      have HMV0 := Lib.hid hMV
      have HRV0 := Lib.hid hRV
      have HDR0 := Lib.hid hDR
      have HRD0 := Lib.hid hRD
      clear hMK hRM hLK hRL hMV hRV hDR hRD hxM hxL hxV hxD hsm hsa hsb hzk hzm hzn ca cb ck cm cn hza hzb
      have HBr := Lib.hid hB
      clear hB
      go_upto_region 14 with fail
      have HAC := Lib.hid (fun V (hV : Below wr.heap.size wr V) => HAC0.out V (HBr.out.trans (hV.mono (HBr.out).size)))
      have HKC := Lib.hid (fun V (hV : Below wr.heap.size wr V) => HKC0.out V (HBr.out.trans (hV.mono (HBr.out).size)))
      have HMC := Lib.hid (fun V (hV : Below wr.heap.size wr V) => HMC0.out V (HBr.out.trans (hV.mono (HBr.out).size)))
      have HNC := Lib.hid (fun V (hV : Below wr.heap.size wr V) => HNC0.out V (HBr.out.trans (hV.mono (HBr.out).size)))
      have HMK := Lib.hid (fun V (hV : Below wr.heap.size wr V) => HMK0.out V (HBr.out.trans (hV.mono (HBr.out).size)))
      refine wp_region_grow Tryz.checked.mixed (by kernel_rfl) (fun W => Below wr.heap.size wr W)
        (fun i v W => match i with
          | 0 => v = .slice T 9 TC
          | 1 => v = .slice (some ⟨ba, oa, none⟩) 4 4
          | 2 => v = .int .i64 (jj : Int)
          | 3 => v = .pointer (some ⟨ba, oa + jj, none⟩)
          | 4 => v = .string sa
          | 5 => v = .slice (some ⟨bk, ok, none⟩) 4 4
          | 6 => v = .int .i64 (jj : Int)
          | 7 => v = .pointer (some ⟨bk, ok + jj, none⟩)
          | 8 => v = .int .i64 zk
          | 9 => v = .slice (some ⟨bm, om, none⟩) 4 4
          | 10 => v = .int .i64 (jj : Int)
          | 11 => v = .pointer (some ⟨bm, om + jj, none⟩)
          | 12 => v = .int .i64 zm
          | 13 => v = .slice (some ⟨bn, on, none⟩) 4 4
          | 14 => v = .int .i64 (jj : Int)
          | 15 => v = .pointer (some ⟨bn, on + jj, none⟩)
          | 16 => v = .int .i64 zn
          | 17 => v = .bool ob
          | 18 => ∃ v1, v = .tuple #[v1, .int .i64 eM] ∧ Ts W v1 xM
          | 19 => ∃ v1, v = .tuple #[v1, .int .i64 eM] ∧ Ts W v1 xM
          | 20 => Ts W v xM
          | 21 => v = .int .i64 eM
          | 22 => Ts W v xM
          | _ => v = .int .i64 eM) ?hS ?hR ?start ?each ?fin
      case hS =>
        intro W W' h hb
        exact h.trans (hb.mono h.size)
      case hR =>
        intro j v W W' h hb
        rcases j with _ | _ | _ | _ | _ | _ | _ | _ | _ | _ | _ | _ | _ | _ | _ | _ | _ | _ | _ | _ | _ | _ | _ | j <;> first | exact h | exact Es.below h hb | exact Ss.below h hb | exact Ts.below h hb | exact ⟨h.choose, h.choose_spec.1, h.choose_spec.2.below hb⟩
      case start => exact (Below.refl _ _).drew
      case each =>
        intro i hi a W hold hp h6 K hK
        rcases i with _ | _ | _ | _ | _ | _ | _ | _ | _ | _ | _ | _ | _ | _ | _ | _ | _ | _ | _ | _ | _ | _ | _ | i
        · skip
          have s17 := hold 17 rfl
          simp [predsOf, Region.binds, slotV] at hp
          refine wpOp_of rfl rfl ?_
          simp at s17
          go_simp
          exact hK _ _ (by simp) (Below.refl _ _) rfl
        · skip
          have s20 := hold 20 rfl
          simp [predsOf, Region.binds, slotV] at hp
          refine wpOp_of rfl rfl ?_
          simp at s20
          go_simp
          exact hK _ _ (by simp) (Below.refl _ _) rfl
        · skip
          have s25 := hold 25 rfl
          simp [predsOf, Region.binds, slotV] at hp
          refine wpOp_of rfl rfl ?_
          simp at s25
          go_simp
          exact hK _ _ (by simp) (Below.refl _ _) rfl
        · skip
          simp [predsOf, Region.binds, slotV] at hp
          refine wpOp_of rfl rfl ?_
          go_simp
          rw [if_pos (by omega)]
          go_simp
          exact hK _ _ (by simp) (Below.refl _ _) rfl
        · skip
          simp [predsOf, Region.binds, slotV] at hp
          refine wpOp_of rfl rfl ?_
          have hc := HAC.out W h6
          go_simp
          exact hK _ _ (by simp) (Below.refl _ _) rfl
        · skip
          have s22 := hold 22 rfl
          simp [predsOf, Region.binds, slotV] at hp
          refine wpOp_of rfl rfl ?_
          simp at s22
          go_simp
          exact hK _ _ (by simp) (Below.refl _ _) rfl
        · skip
          have s25 := hold 25 rfl
          simp [predsOf, Region.binds, slotV] at hp
          refine wpOp_of rfl rfl ?_
          simp at s25
          go_simp
          exact hK _ _ (by simp) (Below.refl _ _) rfl
        · skip
          simp [predsOf, Region.binds, slotV] at hp
          refine wpOp_of rfl rfl ?_
          go_simp
          rw [if_pos (by omega)]
          go_simp
          exact hK _ _ (by simp) (Below.refl _ _) rfl
        · skip
          simp [predsOf, Region.binds, slotV] at hp
          refine wpOp_of rfl rfl ?_
          have hc := HKC.out W h6
          go_simp
          exact hK _ _ (by simp) (Below.refl _ _) rfl
        · skip
          have s23 := hold 23 rfl
          simp [predsOf, Region.binds, slotV] at hp
          refine wpOp_of rfl rfl ?_
          simp at s23
          go_simp
          exact hK _ _ (by simp) (Below.refl _ _) rfl
        · skip
          have s25 := hold 25 rfl
          simp [predsOf, Region.binds, slotV] at hp
          refine wpOp_of rfl rfl ?_
          simp at s25
          go_simp
          exact hK _ _ (by simp) (Below.refl _ _) rfl
        · skip
          simp [predsOf, Region.binds, slotV] at hp
          refine wpOp_of rfl rfl ?_
          go_simp
          rw [if_pos (by omega)]
          go_simp
          exact hK _ _ (by simp) (Below.refl _ _) rfl
        · skip
          simp [predsOf, Region.binds, slotV] at hp
          refine wpOp_of rfl rfl ?_
          have hc := HMC.out W h6
          go_simp
          exact hK _ _ (by simp) (Below.refl _ _) rfl
        · skip
          have s24 := hold 24 rfl
          simp [predsOf, Region.binds, slotV] at hp
          refine wpOp_of rfl rfl ?_
          simp at s24
          go_simp
          exact hK _ _ (by simp) (Below.refl _ _) rfl
        · skip
          have s25 := hold 25 rfl
          simp [predsOf, Region.binds, slotV] at hp
          refine wpOp_of rfl rfl ?_
          simp at s25
          go_simp
          exact hK _ _ (by simp) (Below.refl _ _) rfl
        · skip
          simp [predsOf, Region.binds, slotV] at hp
          refine wpOp_of rfl rfl ?_
          go_simp
          rw [if_pos (by omega)]
          go_simp
          exact hK _ _ (by simp) (Below.refl _ _) rfl
        · skip
          simp [predsOf, Region.binds, slotV] at hp
          refine wpOp_of rfl rfl ?_
          have hc := HNC.out W h6
          go_simp
          exact hK _ _ (by simp) (Below.refl _ _) rfl
        · skip
          have s19 := hold 19 rfl
          simp [predsOf, Region.binds, slotV] at hp
          refine wpOp_of rfl rfl ?_
          simp at s19
          go_simp
          exact hK _ _ (by simp) (Below.refl _ _) rfl
        · skip
          simp [predsOf, Region.binds, slotV] at hp
          refine wpOp_of rfl rfl ?_
          go_simp
          refine (HMK.out W h6).mono ?_
          rintro e W2 ⟨v2, rfl, hO, hB⟩
          exact hK _ _ (by simp) hB ⟨_, rfl, hO⟩
        · skip
          simp [predsOf, Region.binds, slotV] at hp
          refine wpOp_of rfl rfl ?_
          go_simp
          exact hK _ _ (by simp) (Below.refl _ _) (by first | (simpa using hp) | (simpa using hp.1))
        · skip
          simp [predsOf, Region.binds, slotV] at hp
          obtain ⟨v1, p1, p2⟩ := hp
          refine wpOp_of rfl rfl ?_
          go_simp
          exact hK _ _ (by simp) (Below.refl _ _) (by simpa using p2)
        · skip
          simp [predsOf, Region.binds, slotV] at hp
          obtain ⟨v1, p1, p2⟩ := hp
          refine wpOp_of rfl rfl ?_
          go_simp
          exact hK _ _ (by simp) (Below.refl _ _) (by simp)
        · skip
          simp [predsOf, Region.binds, slotV] at hp
          refine wpOp_of rfl rfl ?_
          go_simp
          exact hK _ _ (by simp) (Below.refl _ _) (by first | (simpa using hp) | (simpa using hp.1))
        · have i0 : i = 0 := by simp at hi; omega
          subst i0
          simp [predsOf, Region.binds, slotV] at hp
          refine wpOp_of rfl rfl ?_
          go_simp
          exact hK _ _ (by simp) (Below.refl _ _) (by simp)
      case fin =>
        intro vs V14 hRs h6
        have r0 := hRs 0 (by decide)
        have r1 := hRs 1 (by decide)
        have r2 := hRs 2 (by decide)
        have r3 := hRs 3 (by decide)
        have r4 := hRs 4 (by decide)
        have r5 := hRs 5 (by decide)
        have r6 := hRs 6 (by decide)
        have r7 := hRs 7 (by decide)
        have r8 := hRs 8 (by decide)
        have r9 := hRs 9 (by decide)
        have r10 := hRs 10 (by decide)
        have r11 := hRs 11 (by decide)
        have r12 := hRs 12 (by decide)
        have r13 := hRs 13 (by decide)
        have r14 := hRs 14 (by decide)
        have r15 := hRs 15 (by decide)
        have r16 := hRs 16 (by decide)
        have r17 := hRs 17 (by decide)
        have r21 := hRs 21 (by decide)
        have r23 := hRs 23 (by decide)
        simp at r0 r1 r2 r3 r4 r5 r6 r7 r8 r9 r10 r11 r12 r13 r14 r15 r16 r17 r21 r23
        have hX := hRs 22 (by decide)
        simp at hX
        simp only [putAll, List.foldl_cons, List.foldl_nil, Act.put, List.setIfInBounds_toArray, List.set_cons_succ, List.set_cons_zero, r0, r1, r2, r3, r4, r5, r6, r7, r8, r9, r10, r11, r12, r13, r14, r15, r16, r17, r21, r23]
        generalize vs (some 111) = Y111 at *
        generalize vs (some 92) = Y92 at *
        generalize vs (some 112) = Y112 at *
        generalize vs (some 26) = Y26 at *
        have HB14 := Lib.hid (h6)
        have HX14 := Lib.hid hX
        clear hRs hX h6 r0 r1 r2 r3 r4 r5 r6 r7 r8 r9 r10 r11 r12 r13 r14 r15 r16 r17 r21 r23
        clear HAC HKC HMC HNC HMK
        have HBW14 := Lib.hid (HBr.out.trans (HB14.out.mono (HBr.out).size))
        go_upto_region 15 with fail
        have HAC := Lib.hid (fun V (hV : Below V14.heap.size V14 V) => HAC0.out V (HBW14.out.trans (hV.mono (HBW14.out).size)))
        have HKC := Lib.hid (fun V (hV : Below V14.heap.size V14 V) => HKC0.out V (HBW14.out.trans (hV.mono (HBW14.out).size)))
        have HMC := Lib.hid (fun V (hV : Below V14.heap.size V14 V) => HMC0.out V (HBW14.out.trans (hV.mono (HBW14.out).size)))
        have HNC := Lib.hid (fun V (hV : Below V14.heap.size V14 V) => HNC0.out V (HBW14.out.trans (hV.mono (HBW14.out).size)))
        have HRM := Lib.hid (fun V (hV : Below V14.heap.size V14 V) => HRM0.out V (HBW14.out.trans (hV.mono (HBW14.out).size)))
        refine wp_region_grow Tryz.checked.mixed (by kernel_rfl) (fun W => Below V14.heap.size V14 W)
          (fun i v W => match i with
            | 0 => v = .slice T 9 TC
            | 1 => v = .slice (some ⟨ba, oa, none⟩) 4 4
            | 2 => v = .int .i64 (jj : Int)
            | 3 => v = .pointer (some ⟨ba, oa + jj, none⟩)
            | 4 => v = .string sa
            | 5 => v = .slice (some ⟨bk, ok, none⟩) 4 4
            | 6 => v = .int .i64 (jj : Int)
            | 7 => v = .pointer (some ⟨bk, ok + jj, none⟩)
            | 8 => v = .int .i64 zk
            | 9 => v = .slice (some ⟨bm, om, none⟩) 4 4
            | 10 => v = .int .i64 (jj : Int)
            | 11 => v = .pointer (some ⟨bm, om + jj, none⟩)
            | 12 => v = .int .i64 zm
            | 13 => v = .slice (some ⟨bn, on, none⟩) 4 4
            | 14 => v = .int .i64 (jj : Int)
            | 15 => v = .pointer (some ⟨bn, on + jj, none⟩)
            | 16 => v = .int .i64 zn
            | 17 => v = .bool ob
            | 18 => ∃ v1, v = .tuple #[v1, .int .i64 eM] ∧ Ts W v1 xM
            | 19 => ∃ v1, v = .tuple #[v1, .int .i64 eM] ∧ Ts W v1 xM
            | 20 => Ts W v xM
            | 21 => v = .int .i64 eM
            | 22 => Ts W v xM
            | _ => v = .int .i64 eM) ?hS ?hR ?start ?each ?fin
        case hS =>
          intro W W' h hb
          exact h.trans (hb.mono h.size)
        case hR =>
          intro j v W W' h hb
          rcases j with _ | _ | _ | _ | _ | _ | _ | _ | _ | _ | _ | _ | _ | _ | _ | _ | _ | _ | _ | _ | _ | _ | _ | j <;> first | exact h | exact Es.below h hb | exact Ss.below h hb | exact Ts.below h hb | exact ⟨h.choose, h.choose_spec.1, h.choose_spec.2.below hb⟩
        case start => exact (Below.refl _ _).drew
        case each =>
          intro i hi a W hold hp h6 K hK
          rcases i with _ | _ | _ | _ | _ | _ | _ | _ | _ | _ | _ | _ | _ | _ | _ | _ | _ | _ | _ | _ | _ | _ | _ | i
          · skip
            have s17 := hold 17 rfl
            simp [predsOf, Region.binds, slotV] at hp
            refine wpOp_of rfl rfl ?_
            simp at s17
            go_simp
            exact hK _ _ (by simp) (Below.refl _ _) rfl
          · skip
            have s20 := hold 20 rfl
            simp [predsOf, Region.binds, slotV] at hp
            refine wpOp_of rfl rfl ?_
            simp at s20
            go_simp
            exact hK _ _ (by simp) (Below.refl _ _) rfl
          · skip
            have s25 := hold 25 rfl
            simp [predsOf, Region.binds, slotV] at hp
            refine wpOp_of rfl rfl ?_
            simp at s25
            go_simp
            exact hK _ _ (by simp) (Below.refl _ _) rfl
          · skip
            simp [predsOf, Region.binds, slotV] at hp
            refine wpOp_of rfl rfl ?_
            go_simp
            rw [if_pos (by omega)]
            go_simp
            exact hK _ _ (by simp) (Below.refl _ _) rfl
          · skip
            simp [predsOf, Region.binds, slotV] at hp
            refine wpOp_of rfl rfl ?_
            have hc := HAC.out W h6
            go_simp
            exact hK _ _ (by simp) (Below.refl _ _) rfl
          · skip
            have s22 := hold 22 rfl
            simp [predsOf, Region.binds, slotV] at hp
            refine wpOp_of rfl rfl ?_
            simp at s22
            go_simp
            exact hK _ _ (by simp) (Below.refl _ _) rfl
          · skip
            have s25 := hold 25 rfl
            simp [predsOf, Region.binds, slotV] at hp
            refine wpOp_of rfl rfl ?_
            simp at s25
            go_simp
            exact hK _ _ (by simp) (Below.refl _ _) rfl
          · skip
            simp [predsOf, Region.binds, slotV] at hp
            refine wpOp_of rfl rfl ?_
            go_simp
            rw [if_pos (by omega)]
            go_simp
            exact hK _ _ (by simp) (Below.refl _ _) rfl
          · skip
            simp [predsOf, Region.binds, slotV] at hp
            refine wpOp_of rfl rfl ?_
            have hc := HKC.out W h6
            go_simp
            exact hK _ _ (by simp) (Below.refl _ _) rfl
          · skip
            have s23 := hold 23 rfl
            simp [predsOf, Region.binds, slotV] at hp
            refine wpOp_of rfl rfl ?_
            simp at s23
            go_simp
            exact hK _ _ (by simp) (Below.refl _ _) rfl
          · skip
            have s25 := hold 25 rfl
            simp [predsOf, Region.binds, slotV] at hp
            refine wpOp_of rfl rfl ?_
            simp at s25
            go_simp
            exact hK _ _ (by simp) (Below.refl _ _) rfl
          · skip
            simp [predsOf, Region.binds, slotV] at hp
            refine wpOp_of rfl rfl ?_
            go_simp
            rw [if_pos (by omega)]
            go_simp
            exact hK _ _ (by simp) (Below.refl _ _) rfl
          · skip
            simp [predsOf, Region.binds, slotV] at hp
            refine wpOp_of rfl rfl ?_
            have hc := HMC.out W h6
            go_simp
            exact hK _ _ (by simp) (Below.refl _ _) rfl
          · skip
            have s24 := hold 24 rfl
            simp [predsOf, Region.binds, slotV] at hp
            refine wpOp_of rfl rfl ?_
            simp at s24
            go_simp
            exact hK _ _ (by simp) (Below.refl _ _) rfl
          · skip
            have s25 := hold 25 rfl
            simp [predsOf, Region.binds, slotV] at hp
            refine wpOp_of rfl rfl ?_
            simp at s25
            go_simp
            exact hK _ _ (by simp) (Below.refl _ _) rfl
          · skip
            simp [predsOf, Region.binds, slotV] at hp
            refine wpOp_of rfl rfl ?_
            go_simp
            rw [if_pos (by omega)]
            go_simp
            exact hK _ _ (by simp) (Below.refl _ _) rfl
          · skip
            simp [predsOf, Region.binds, slotV] at hp
            refine wpOp_of rfl rfl ?_
            have hc := HNC.out W h6
            go_simp
            exact hK _ _ (by simp) (Below.refl _ _) rfl
          · skip
            have s19 := hold 19 rfl
            simp [predsOf, Region.binds, slotV] at hp
            refine wpOp_of rfl rfl ?_
            simp at s19
            go_simp
            exact hK _ _ (by simp) (Below.refl _ _) rfl
          · skip
            simp [predsOf, Region.binds, slotV] at hp
            refine wpOp_of rfl rfl ?_
            go_simp
            refine (HRM.out W h6).mono ?_
            rintro e W2 ⟨v2, rfl, hO, hB⟩
            exact hK _ _ (by simp) hB ⟨_, rfl, hO⟩
          · skip
            simp [predsOf, Region.binds, slotV] at hp
            refine wpOp_of rfl rfl ?_
            go_simp
            exact hK _ _ (by simp) (Below.refl _ _) (by first | (simpa using hp) | (simpa using hp.1))
          · skip
            simp [predsOf, Region.binds, slotV] at hp
            obtain ⟨v1, p1, p2⟩ := hp
            refine wpOp_of rfl rfl ?_
            go_simp
            exact hK _ _ (by simp) (Below.refl _ _) (by simpa using p2)
          · skip
            simp [predsOf, Region.binds, slotV] at hp
            obtain ⟨v1, p1, p2⟩ := hp
            refine wpOp_of rfl rfl ?_
            go_simp
            exact hK _ _ (by simp) (Below.refl _ _) (by simp)
          · skip
            simp [predsOf, Region.binds, slotV] at hp
            refine wpOp_of rfl rfl ?_
            go_simp
            exact hK _ _ (by simp) (Below.refl _ _) (by first | (simpa using hp) | (simpa using hp.1))
          · have i0 : i = 0 := by simp at hi; omega
            subst i0
            simp [predsOf, Region.binds, slotV] at hp
            refine wpOp_of rfl rfl ?_
            go_simp
            exact hK _ _ (by simp) (Below.refl _ _) (by simp)
        case fin =>
          intro vs V15 hRs h6
          have r0 := hRs 0 (by decide)
          have r1 := hRs 1 (by decide)
          have r2 := hRs 2 (by decide)
          have r3 := hRs 3 (by decide)
          have r4 := hRs 4 (by decide)
          have r5 := hRs 5 (by decide)
          have r6 := hRs 6 (by decide)
          have r7 := hRs 7 (by decide)
          have r8 := hRs 8 (by decide)
          have r9 := hRs 9 (by decide)
          have r10 := hRs 10 (by decide)
          have r11 := hRs 11 (by decide)
          have r12 := hRs 12 (by decide)
          have r13 := hRs 13 (by decide)
          have r14 := hRs 14 (by decide)
          have r15 := hRs 15 (by decide)
          have r16 := hRs 16 (by decide)
          have r17 := hRs 17 (by decide)
          have r21 := hRs 21 (by decide)
          have r23 := hRs 23 (by decide)
          simp at r0 r1 r2 r3 r4 r5 r6 r7 r8 r9 r10 r11 r12 r13 r14 r15 r16 r17 r21 r23
          have hX := hRs 22 (by decide)
          simp at hX
          simp only [putAll, List.foldl_cons, List.foldl_nil, Act.put, List.setIfInBounds_toArray, List.set_cons_succ, List.set_cons_zero, r0, r1, r2, r3, r4, r5, r6, r7, r8, r9, r10, r11, r12, r13, r14, r15, r16, r17, r21, r23]
          generalize vs (some 133) = Y133 at *
          generalize vs (some 114) = Y114 at *
          generalize vs (some 134) = Y134 at *
          generalize vs (some 28) = Y28 at *
          have HB15 := Lib.hid (h6)
          have HX15 := Lib.hid hX
          clear hRs hX h6 r0 r1 r2 r3 r4 r5 r6 r7 r8 r9 r10 r11 r12 r13 r14 r15 r16 r17 r21 r23
          clear HAC HKC HMC HNC HRM
          have HBW15 := Lib.hid (HBW14.out.trans (HB15.out.mono (HBW14.out).size))
          have hta := HX14.out.below HB15.out
          have htb := HX15.out
          have hs := HSM.out xM _ _ V15 hta htb
          have HS15 := Lib.hid hs
          clear hta htb hs HX14 HX15 HB14 HB15 HBW14
          have hee15 : (eM != eM) = false := by simp
          go_upto_region 18 with (go_at_call 26; go_loud (refine HS15.out.mono ?_; rintro e U15 ⟨rfl, hBs15⟩))
          have HBW18s := Lib.hid (HBW15.out.trans (hBs15.mono (HBW15.out).size))
          clear hBs15 HS15 HBW15 hee15
          have HAC := Lib.hid (fun V (hV : Below U15.heap.size U15 V) => HAC0.out V (HBW18s.out.trans (hV.mono (HBW18s.out).size)))
          have HDC := Lib.hid (fun V (hV : Below U15.heap.size U15 V) => HDC0.out V (HBW18s.out.trans (hV.mono (HBW18s.out).size)))
          have HLK := Lib.hid (fun V (hV : Below U15.heap.size U15 V) => HLK0.out V (HBW18s.out.trans (hV.mono (HBW18s.out).size)))
          refine wp_region_grow Tryz.checked.mixed (by kernel_rfl) (fun W => Below U15.heap.size U15 W)
            (fun i v W => match i with
              | 0 => v = .slice T 9 TC
              | 1 => v = .slice (some ⟨ba, oa, none⟩) 4 4
              | 2 => v = .int .i64 (jj : Int)
              | 3 => v = .pointer (some ⟨ba, oa + jj, none⟩)
              | 4 => v = .string sa
              | 5 => v = .slice (some ⟨bd, od, none⟩) 4 4
              | 6 => v = .int .i64 (jj : Int)
              | 7 => v = .pointer (some ⟨bd, od + jj, none⟩)
              | 8 => v = .string sb
              | 9 => v = .bool ob
              | 10 => ∃ v1, v = .tuple #[v1, .int .i64 eL] ∧ Ts W v1 xL
              | 11 => ∃ v1, v = .tuple #[v1, .int .i64 eL] ∧ Ts W v1 xL
              | 12 => Ts W v xL
              | 13 => v = .int .i64 eL
              | 14 => Ts W v xL
              | _ => v = .int .i64 eL) ?hS ?hR ?start ?each ?fin
          case hS =>
            intro W W' h hb
            exact h.trans (hb.mono h.size)
          case hR =>
            intro j v W W' h hb
            rcases j with _ | _ | _ | _ | _ | _ | _ | _ | _ | _ | _ | _ | _ | _ | _ | j <;> first | exact h | exact Es.below h hb | exact Ss.below h hb | exact Ts.below h hb | exact ⟨h.choose, h.choose_spec.1, h.choose_spec.2.below hb⟩
          case start => exact (Below.refl _ _).drew
          case each =>
            intro i hi a W hold hp h6 K hK
            rcases i with _ | _ | _ | _ | _ | _ | _ | _ | _ | _ | _ | _ | _ | _ | _ | i
            · skip
              have s17 := hold 17 rfl
              simp [predsOf, Region.binds, slotV] at hp
              refine wpOp_of rfl rfl ?_
              simp at s17
              go_simp
              exact hK _ _ (by simp) (Below.refl _ _) rfl
            · skip
              have s20 := hold 20 rfl
              simp [predsOf, Region.binds, slotV] at hp
              refine wpOp_of rfl rfl ?_
              simp at s20
              go_simp
              exact hK _ _ (by simp) (Below.refl _ _) rfl
            · skip
              have s25 := hold 25 rfl
              simp [predsOf, Region.binds, slotV] at hp
              refine wpOp_of rfl rfl ?_
              simp at s25
              go_simp
              exact hK _ _ (by simp) (Below.refl _ _) rfl
            · skip
              simp [predsOf, Region.binds, slotV] at hp
              refine wpOp_of rfl rfl ?_
              go_simp
              rw [if_pos (by omega)]
              go_simp
              exact hK _ _ (by simp) (Below.refl _ _) rfl
            · skip
              simp [predsOf, Region.binds, slotV] at hp
              refine wpOp_of rfl rfl ?_
              have hc := HAC.out W h6
              go_simp
              exact hK _ _ (by simp) (Below.refl _ _) rfl
            · skip
              have s21 := hold 21 rfl
              simp [predsOf, Region.binds, slotV] at hp
              refine wpOp_of rfl rfl ?_
              simp at s21
              go_simp
              exact hK _ _ (by simp) (Below.refl _ _) rfl
            · skip
              have s25 := hold 25 rfl
              simp [predsOf, Region.binds, slotV] at hp
              refine wpOp_of rfl rfl ?_
              simp at s25
              go_simp
              exact hK _ _ (by simp) (Below.refl _ _) rfl
            · skip
              simp [predsOf, Region.binds, slotV] at hp
              refine wpOp_of rfl rfl ?_
              go_simp
              rw [if_pos (by omega)]
              go_simp
              exact hK _ _ (by simp) (Below.refl _ _) rfl
            · skip
              simp [predsOf, Region.binds, slotV] at hp
              refine wpOp_of rfl rfl ?_
              have hc := HDC.out W h6
              go_simp
              exact hK _ _ (by simp) (Below.refl _ _) rfl
            · skip
              have s19 := hold 19 rfl
              simp [predsOf, Region.binds, slotV] at hp
              refine wpOp_of rfl rfl ?_
              simp at s19
              go_simp
              exact hK _ _ (by simp) (Below.refl _ _) rfl
            · skip
              simp [predsOf, Region.binds, slotV] at hp
              refine wpOp_of rfl rfl ?_
              go_simp
              refine (HLK.out W h6).mono ?_
              rintro e W2 ⟨v2, rfl, hO, hB⟩
              exact hK _ _ (by simp) hB ⟨_, rfl, hO⟩
            · skip
              simp [predsOf, Region.binds, slotV] at hp
              refine wpOp_of rfl rfl ?_
              go_simp
              exact hK _ _ (by simp) (Below.refl _ _) (by first | (simpa using hp) | (simpa using hp.1))
            · skip
              simp [predsOf, Region.binds, slotV] at hp
              obtain ⟨v1, p1, p2⟩ := hp
              refine wpOp_of rfl rfl ?_
              go_simp
              exact hK _ _ (by simp) (Below.refl _ _) (by simpa using p2)
            · skip
              simp [predsOf, Region.binds, slotV] at hp
              obtain ⟨v1, p1, p2⟩ := hp
              refine wpOp_of rfl rfl ?_
              go_simp
              exact hK _ _ (by simp) (Below.refl _ _) (by simp)
            · skip
              simp [predsOf, Region.binds, slotV] at hp
              refine wpOp_of rfl rfl ?_
              go_simp
              exact hK _ _ (by simp) (Below.refl _ _) (by first | (simpa using hp) | (simpa using hp.1))
            · have i0 : i = 0 := by simp at hi; omega
              subst i0
              simp [predsOf, Region.binds, slotV] at hp
              refine wpOp_of rfl rfl ?_
              go_simp
              exact hK _ _ (by simp) (Below.refl _ _) (by simp)
          case fin =>
            intro vs V18 hRs h6
            have r0 := hRs 0 (by decide)
            have r1 := hRs 1 (by decide)
            have r2 := hRs 2 (by decide)
            have r3 := hRs 3 (by decide)
            have r4 := hRs 4 (by decide)
            have r5 := hRs 5 (by decide)
            have r6 := hRs 6 (by decide)
            have r7 := hRs 7 (by decide)
            have r8 := hRs 8 (by decide)
            have r9 := hRs 9 (by decide)
            have r13 := hRs 13 (by decide)
            have r15 := hRs 15 (by decide)
            simp at r0 r1 r2 r3 r4 r5 r6 r7 r8 r9 r13 r15
            have hX := hRs 14 (by decide)
            simp at hX
            simp only [putAll, List.foldl_cons, List.foldl_nil, Act.put, List.setIfInBounds_toArray, List.set_cons_succ, List.set_cons_zero, r0, r1, r2, r3, r4, r5, r6, r7, r8, r9, r13, r15]
            generalize vs (some 156) = Y156 at *
            generalize vs (some 145) = Y145 at *
            generalize vs (some 157) = Y157 at *
            generalize vs (some 26) = Y26 at *
            have HB18 := Lib.hid (h6)
            have HX18 := Lib.hid hX
            clear hRs hX h6 r0 r1 r2 r3 r4 r5 r6 r7 r8 r9 r13 r15
            clear HAC HDC HLK
            have HBW18 := Lib.hid (HBW18s.out.trans (HB18.out.mono (HBW18s.out).size))
            go_upto_region 19 with fail
            have HAC := Lib.hid (fun V (hV : Below V18.heap.size V18 V) => HAC0.out V (HBW18.out.trans (hV.mono (HBW18.out).size)))
            have HDC := Lib.hid (fun V (hV : Below V18.heap.size V18 V) => HDC0.out V (HBW18.out.trans (hV.mono (HBW18.out).size)))
            have HRL := Lib.hid (fun V (hV : Below V18.heap.size V18 V) => HRL0.out V (HBW18.out.trans (hV.mono (HBW18.out).size)))
            refine wp_region_grow Tryz.checked.mixed (by kernel_rfl) (fun W => Below V18.heap.size V18 W)
              (fun i v W => match i with
                | 0 => v = .slice T 9 TC
                | 1 => v = .slice (some ⟨ba, oa, none⟩) 4 4
                | 2 => v = .int .i64 (jj : Int)
                | 3 => v = .pointer (some ⟨ba, oa + jj, none⟩)
                | 4 => v = .string sa
                | 5 => v = .slice (some ⟨bd, od, none⟩) 4 4
                | 6 => v = .int .i64 (jj : Int)
                | 7 => v = .pointer (some ⟨bd, od + jj, none⟩)
                | 8 => v = .string sb
                | 9 => v = .bool ob
                | 10 => ∃ v1, v = .tuple #[v1, .int .i64 eL] ∧ Ts W v1 xL
                | 11 => ∃ v1, v = .tuple #[v1, .int .i64 eL] ∧ Ts W v1 xL
                | 12 => Ts W v xL
                | 13 => v = .int .i64 eL
                | 14 => Ts W v xL
                | _ => v = .int .i64 eL) ?hS ?hR ?start ?each ?fin
            case hS =>
              intro W W' h hb
              exact h.trans (hb.mono h.size)
            case hR =>
              intro j v W W' h hb
              rcases j with _ | _ | _ | _ | _ | _ | _ | _ | _ | _ | _ | _ | _ | _ | _ | j <;> first | exact h | exact Es.below h hb | exact Ss.below h hb | exact Ts.below h hb | exact ⟨h.choose, h.choose_spec.1, h.choose_spec.2.below hb⟩
            case start => exact (Below.refl _ _).drew
            case each =>
              intro i hi a W hold hp h6 K hK
              rcases i with _ | _ | _ | _ | _ | _ | _ | _ | _ | _ | _ | _ | _ | _ | _ | i
              · skip
                have s17 := hold 17 rfl
                simp [predsOf, Region.binds, slotV] at hp
                refine wpOp_of rfl rfl ?_
                simp at s17
                go_simp
                exact hK _ _ (by simp) (Below.refl _ _) rfl
              · skip
                have s20 := hold 20 rfl
                simp [predsOf, Region.binds, slotV] at hp
                refine wpOp_of rfl rfl ?_
                simp at s20
                go_simp
                exact hK _ _ (by simp) (Below.refl _ _) rfl
              · skip
                have s25 := hold 25 rfl
                simp [predsOf, Region.binds, slotV] at hp
                refine wpOp_of rfl rfl ?_
                simp at s25
                go_simp
                exact hK _ _ (by simp) (Below.refl _ _) rfl
              · skip
                simp [predsOf, Region.binds, slotV] at hp
                refine wpOp_of rfl rfl ?_
                go_simp
                rw [if_pos (by omega)]
                go_simp
                exact hK _ _ (by simp) (Below.refl _ _) rfl
              · skip
                simp [predsOf, Region.binds, slotV] at hp
                refine wpOp_of rfl rfl ?_
                have hc := HAC.out W h6
                go_simp
                exact hK _ _ (by simp) (Below.refl _ _) rfl
              · skip
                have s21 := hold 21 rfl
                simp [predsOf, Region.binds, slotV] at hp
                refine wpOp_of rfl rfl ?_
                simp at s21
                go_simp
                exact hK _ _ (by simp) (Below.refl _ _) rfl
              · skip
                have s25 := hold 25 rfl
                simp [predsOf, Region.binds, slotV] at hp
                refine wpOp_of rfl rfl ?_
                simp at s25
                go_simp
                exact hK _ _ (by simp) (Below.refl _ _) rfl
              · skip
                simp [predsOf, Region.binds, slotV] at hp
                refine wpOp_of rfl rfl ?_
                go_simp
                rw [if_pos (by omega)]
                go_simp
                exact hK _ _ (by simp) (Below.refl _ _) rfl
              · skip
                simp [predsOf, Region.binds, slotV] at hp
                refine wpOp_of rfl rfl ?_
                have hc := HDC.out W h6
                go_simp
                exact hK _ _ (by simp) (Below.refl _ _) rfl
              · skip
                have s19 := hold 19 rfl
                simp [predsOf, Region.binds, slotV] at hp
                refine wpOp_of rfl rfl ?_
                simp at s19
                go_simp
                exact hK _ _ (by simp) (Below.refl _ _) rfl
              · skip
                simp [predsOf, Region.binds, slotV] at hp
                refine wpOp_of rfl rfl ?_
                go_simp
                refine (HRL.out W h6).mono ?_
                rintro e W2 ⟨v2, rfl, hO, hB⟩
                exact hK _ _ (by simp) hB ⟨_, rfl, hO⟩
              · skip
                simp [predsOf, Region.binds, slotV] at hp
                refine wpOp_of rfl rfl ?_
                go_simp
                exact hK _ _ (by simp) (Below.refl _ _) (by first | (simpa using hp) | (simpa using hp.1))
              · skip
                simp [predsOf, Region.binds, slotV] at hp
                obtain ⟨v1, p1, p2⟩ := hp
                refine wpOp_of rfl rfl ?_
                go_simp
                exact hK _ _ (by simp) (Below.refl _ _) (by simpa using p2)
              · skip
                simp [predsOf, Region.binds, slotV] at hp
                obtain ⟨v1, p1, p2⟩ := hp
                refine wpOp_of rfl rfl ?_
                go_simp
                exact hK _ _ (by simp) (Below.refl _ _) (by simp)
              · skip
                simp [predsOf, Region.binds, slotV] at hp
                refine wpOp_of rfl rfl ?_
                go_simp
                exact hK _ _ (by simp) (Below.refl _ _) (by first | (simpa using hp) | (simpa using hp.1))
              · have i0 : i = 0 := by simp at hi; omega
                subst i0
                simp [predsOf, Region.binds, slotV] at hp
                refine wpOp_of rfl rfl ?_
                go_simp
                exact hK _ _ (by simp) (Below.refl _ _) (by simp)
            case fin =>
              intro vs V19 hRs h6
              have r0 := hRs 0 (by decide)
              have r1 := hRs 1 (by decide)
              have r2 := hRs 2 (by decide)
              have r3 := hRs 3 (by decide)
              have r4 := hRs 4 (by decide)
              have r5 := hRs 5 (by decide)
              have r6 := hRs 6 (by decide)
              have r7 := hRs 7 (by decide)
              have r8 := hRs 8 (by decide)
              have r9 := hRs 9 (by decide)
              have r13 := hRs 13 (by decide)
              have r15 := hRs 15 (by decide)
              simp at r0 r1 r2 r3 r4 r5 r6 r7 r8 r9 r13 r15
              have hX := hRs 14 (by decide)
              simp at hX
              simp only [putAll, List.foldl_cons, List.foldl_nil, Act.put, List.setIfInBounds_toArray, List.set_cons_succ, List.set_cons_zero, r0, r1, r2, r3, r4, r5, r6, r7, r8, r9, r13, r15]
              generalize vs (some 170) = Y170 at *
              generalize vs (some 159) = Y159 at *
              generalize vs (some 171) = Y171 at *
              generalize vs (some 28) = Y28 at *
              have HB19 := Lib.hid (h6)
              have HX19 := Lib.hid hX
              clear hRs hX h6 r0 r1 r2 r3 r4 r5 r6 r7 r8 r9 r13 r15
              clear HAC HDC HRL
              have HBW19 := Lib.hid (HBW18.out.trans (HB19.out.mono (HBW18.out).size))
              have hta := HX18.out.below HB19.out
              have htb := HX19.out
              have hs := HSM.out xL _ _ V19 hta htb
              have HS19 := Lib.hid hs
              clear hta htb hs HX18 HX19 HB18 HB19 HBW18
              have hee19 : (eL != eL) = false := by simp
              go_upto_region 22 with (go_at_call 26; go_loud (refine HS19.out.mono ?_; rintro e U19 ⟨rfl, hBs19⟩))
              have HBW22s := Lib.hid (HBW19.out.trans (hBs19.mono (HBW19.out).size))
              clear hBs19 HS19 HBW19 hee19
              have HAC := Lib.hid (fun V (hV : Below U19.heap.size U19 V) => HAC0.out V (HBW22s.out.trans (hV.mono (HBW22s.out).size)))
              have HDC := Lib.hid (fun V (hV : Below U19.heap.size U19 V) => HDC0.out V (HBW22s.out.trans (hV.mono (HBW22s.out).size)))
              have HMV := Lib.hid (fun V (hV : Below U19.heap.size U19 V) => HMV0.out V (HBW22s.out.trans (hV.mono (HBW22s.out).size)))
              refine wp_region_grow Tryz.checked.mixed (by kernel_rfl) (fun W => Below U19.heap.size U19 W)
                (fun i v W => match i with
                  | 0 => v = .slice T 9 TC
                  | 1 => v = .slice (some ⟨ba, oa, none⟩) 4 4
                  | 2 => v = .int .i64 (jj : Int)
                  | 3 => v = .pointer (some ⟨ba, oa + jj, none⟩)
                  | 4 => v = .string sa
                  | 5 => v = .slice (some ⟨bd, od, none⟩) 4 4
                  | 6 => v = .int .i64 (jj : Int)
                  | 7 => v = .pointer (some ⟨bd, od + jj, none⟩)
                  | 8 => v = .string sb
                  | 9 => v = .bool ob
                  | 10 => ∃ v1, v = .tuple #[v1, .int .i64 eV] ∧ Ts W v1 xV
                  | 11 => ∃ v1, v = .tuple #[v1, .int .i64 eV] ∧ Ts W v1 xV
                  | 12 => Ts W v xV
                  | 13 => v = .int .i64 eV
                  | 14 => Ts W v xV
                  | _ => v = .int .i64 eV) ?hS ?hR ?start ?each ?fin
              case hS =>
                intro W W' h hb
                exact h.trans (hb.mono h.size)
              case hR =>
                intro j v W W' h hb
                rcases j with _ | _ | _ | _ | _ | _ | _ | _ | _ | _ | _ | _ | _ | _ | _ | j <;> first | exact h | exact Es.below h hb | exact Ss.below h hb | exact Ts.below h hb | exact ⟨h.choose, h.choose_spec.1, h.choose_spec.2.below hb⟩
              case start => exact (Below.refl _ _).drew
              case each =>
                intro i hi a W hold hp h6 K hK
                rcases i with _ | _ | _ | _ | _ | _ | _ | _ | _ | _ | _ | _ | _ | _ | _ | i
                · skip
                  have s17 := hold 17 rfl
                  simp [predsOf, Region.binds, slotV] at hp
                  refine wpOp_of rfl rfl ?_
                  simp at s17
                  go_simp
                  exact hK _ _ (by simp) (Below.refl _ _) rfl
                · skip
                  have s20 := hold 20 rfl
                  simp [predsOf, Region.binds, slotV] at hp
                  refine wpOp_of rfl rfl ?_
                  simp at s20
                  go_simp
                  exact hK _ _ (by simp) (Below.refl _ _) rfl
                · skip
                  have s25 := hold 25 rfl
                  simp [predsOf, Region.binds, slotV] at hp
                  refine wpOp_of rfl rfl ?_
                  simp at s25
                  go_simp
                  exact hK _ _ (by simp) (Below.refl _ _) rfl
                · skip
                  simp [predsOf, Region.binds, slotV] at hp
                  refine wpOp_of rfl rfl ?_
                  go_simp
                  rw [if_pos (by omega)]
                  go_simp
                  exact hK _ _ (by simp) (Below.refl _ _) rfl
                · skip
                  simp [predsOf, Region.binds, slotV] at hp
                  refine wpOp_of rfl rfl ?_
                  have hc := HAC.out W h6
                  go_simp
                  exact hK _ _ (by simp) (Below.refl _ _) rfl
                · skip
                  have s21 := hold 21 rfl
                  simp [predsOf, Region.binds, slotV] at hp
                  refine wpOp_of rfl rfl ?_
                  simp at s21
                  go_simp
                  exact hK _ _ (by simp) (Below.refl _ _) rfl
                · skip
                  have s25 := hold 25 rfl
                  simp [predsOf, Region.binds, slotV] at hp
                  refine wpOp_of rfl rfl ?_
                  simp at s25
                  go_simp
                  exact hK _ _ (by simp) (Below.refl _ _) rfl
                · skip
                  simp [predsOf, Region.binds, slotV] at hp
                  refine wpOp_of rfl rfl ?_
                  go_simp
                  rw [if_pos (by omega)]
                  go_simp
                  exact hK _ _ (by simp) (Below.refl _ _) rfl
                · skip
                  simp [predsOf, Region.binds, slotV] at hp
                  refine wpOp_of rfl rfl ?_
                  have hc := HDC.out W h6
                  go_simp
                  exact hK _ _ (by simp) (Below.refl _ _) rfl
                · skip
                  have s19 := hold 19 rfl
                  simp [predsOf, Region.binds, slotV] at hp
                  refine wpOp_of rfl rfl ?_
                  simp at s19
                  go_simp
                  exact hK _ _ (by simp) (Below.refl _ _) rfl
                · skip
                  simp [predsOf, Region.binds, slotV] at hp
                  refine wpOp_of rfl rfl ?_
                  go_simp
                  refine (HMV.out W h6).mono ?_
                  rintro e W2 ⟨v2, rfl, hO, hB⟩
                  exact hK _ _ (by simp) hB ⟨_, rfl, hO⟩
                · skip
                  simp [predsOf, Region.binds, slotV] at hp
                  refine wpOp_of rfl rfl ?_
                  go_simp
                  exact hK _ _ (by simp) (Below.refl _ _) (by first | (simpa using hp) | (simpa using hp.1))
                · skip
                  simp [predsOf, Region.binds, slotV] at hp
                  obtain ⟨v1, p1, p2⟩ := hp
                  refine wpOp_of rfl rfl ?_
                  go_simp
                  exact hK _ _ (by simp) (Below.refl _ _) (by simpa using p2)
                · skip
                  simp [predsOf, Region.binds, slotV] at hp
                  obtain ⟨v1, p1, p2⟩ := hp
                  refine wpOp_of rfl rfl ?_
                  go_simp
                  exact hK _ _ (by simp) (Below.refl _ _) (by simp)
                · skip
                  simp [predsOf, Region.binds, slotV] at hp
                  refine wpOp_of rfl rfl ?_
                  go_simp
                  exact hK _ _ (by simp) (Below.refl _ _) (by first | (simpa using hp) | (simpa using hp.1))
                · have i0 : i = 0 := by simp at hi; omega
                  subst i0
                  simp [predsOf, Region.binds, slotV] at hp
                  refine wpOp_of rfl rfl ?_
                  go_simp
                  exact hK _ _ (by simp) (Below.refl _ _) (by simp)
              case fin =>
                intro vs V22 hRs h6
                have r0 := hRs 0 (by decide)
                have r1 := hRs 1 (by decide)
                have r2 := hRs 2 (by decide)
                have r3 := hRs 3 (by decide)
                have r4 := hRs 4 (by decide)
                have r5 := hRs 5 (by decide)
                have r6 := hRs 6 (by decide)
                have r7 := hRs 7 (by decide)
                have r8 := hRs 8 (by decide)
                have r9 := hRs 9 (by decide)
                have r13 := hRs 13 (by decide)
                have r15 := hRs 15 (by decide)
                simp at r0 r1 r2 r3 r4 r5 r6 r7 r8 r9 r13 r15
                have hX := hRs 14 (by decide)
                simp at hX
                simp only [putAll, List.foldl_cons, List.foldl_nil, Act.put, List.setIfInBounds_toArray, List.set_cons_succ, List.set_cons_zero, r0, r1, r2, r3, r4, r5, r6, r7, r8, r9, r13, r15]
                generalize vs (some 193) = Y193 at *
                generalize vs (some 182) = Y182 at *
                generalize vs (some 194) = Y194 at *
                generalize vs (some 26) = Y26 at *
                have HB22 := Lib.hid (h6)
                have HX22 := Lib.hid hX
                clear hRs hX h6 r0 r1 r2 r3 r4 r5 r6 r7 r8 r9 r13 r15
                clear HAC HDC HMV
                have HBW22 := Lib.hid (HBW22s.out.trans (HB22.out.mono (HBW22s.out).size))
                go_upto_region 23 with fail
                have HAC := Lib.hid (fun V (hV : Below V22.heap.size V22 V) => HAC0.out V (HBW22.out.trans (hV.mono (HBW22.out).size)))
                have HDC := Lib.hid (fun V (hV : Below V22.heap.size V22 V) => HDC0.out V (HBW22.out.trans (hV.mono (HBW22.out).size)))
                have HRV := Lib.hid (fun V (hV : Below V22.heap.size V22 V) => HRV0.out V (HBW22.out.trans (hV.mono (HBW22.out).size)))
                refine wp_region_grow Tryz.checked.mixed (by kernel_rfl) (fun W => Below V22.heap.size V22 W)
                  (fun i v W => match i with
                    | 0 => v = .slice T 9 TC
                    | 1 => v = .slice (some ⟨ba, oa, none⟩) 4 4
                    | 2 => v = .int .i64 (jj : Int)
                    | 3 => v = .pointer (some ⟨ba, oa + jj, none⟩)
                    | 4 => v = .string sa
                    | 5 => v = .slice (some ⟨bd, od, none⟩) 4 4
                    | 6 => v = .int .i64 (jj : Int)
                    | 7 => v = .pointer (some ⟨bd, od + jj, none⟩)
                    | 8 => v = .string sb
                    | 9 => v = .bool ob
                    | 10 => ∃ v1, v = .tuple #[v1, .int .i64 eV] ∧ Ts W v1 xV
                    | 11 => ∃ v1, v = .tuple #[v1, .int .i64 eV] ∧ Ts W v1 xV
                    | 12 => Ts W v xV
                    | 13 => v = .int .i64 eV
                    | 14 => Ts W v xV
                    | _ => v = .int .i64 eV) ?hS ?hR ?start ?each ?fin
                case hS =>
                  intro W W' h hb
                  exact h.trans (hb.mono h.size)
                case hR =>
                  intro j v W W' h hb
                  rcases j with _ | _ | _ | _ | _ | _ | _ | _ | _ | _ | _ | _ | _ | _ | _ | j <;> first | exact h | exact Es.below h hb | exact Ss.below h hb | exact Ts.below h hb | exact ⟨h.choose, h.choose_spec.1, h.choose_spec.2.below hb⟩
                case start => exact (Below.refl _ _).drew
                case each =>
                  intro i hi a W hold hp h6 K hK
                  rcases i with _ | _ | _ | _ | _ | _ | _ | _ | _ | _ | _ | _ | _ | _ | _ | i
                  · skip
                    have s17 := hold 17 rfl
                    simp [predsOf, Region.binds, slotV] at hp
                    refine wpOp_of rfl rfl ?_
                    simp at s17
                    go_simp
                    exact hK _ _ (by simp) (Below.refl _ _) rfl
                  · skip
                    have s20 := hold 20 rfl
                    simp [predsOf, Region.binds, slotV] at hp
                    refine wpOp_of rfl rfl ?_
                    simp at s20
                    go_simp
                    exact hK _ _ (by simp) (Below.refl _ _) rfl
                  · skip
                    have s25 := hold 25 rfl
                    simp [predsOf, Region.binds, slotV] at hp
                    refine wpOp_of rfl rfl ?_
                    simp at s25
                    go_simp
                    exact hK _ _ (by simp) (Below.refl _ _) rfl
                  · skip
                    simp [predsOf, Region.binds, slotV] at hp
                    refine wpOp_of rfl rfl ?_
                    go_simp
                    rw [if_pos (by omega)]
                    go_simp
                    exact hK _ _ (by simp) (Below.refl _ _) rfl
                  · skip
                    simp [predsOf, Region.binds, slotV] at hp
                    refine wpOp_of rfl rfl ?_
                    have hc := HAC.out W h6
                    go_simp
                    exact hK _ _ (by simp) (Below.refl _ _) rfl
                  · skip
                    have s21 := hold 21 rfl
                    simp [predsOf, Region.binds, slotV] at hp
                    refine wpOp_of rfl rfl ?_
                    simp at s21
                    go_simp
                    exact hK _ _ (by simp) (Below.refl _ _) rfl
                  · skip
                    have s25 := hold 25 rfl
                    simp [predsOf, Region.binds, slotV] at hp
                    refine wpOp_of rfl rfl ?_
                    simp at s25
                    go_simp
                    exact hK _ _ (by simp) (Below.refl _ _) rfl
                  · skip
                    simp [predsOf, Region.binds, slotV] at hp
                    refine wpOp_of rfl rfl ?_
                    go_simp
                    rw [if_pos (by omega)]
                    go_simp
                    exact hK _ _ (by simp) (Below.refl _ _) rfl
                  · skip
                    simp [predsOf, Region.binds, slotV] at hp
                    refine wpOp_of rfl rfl ?_
                    have hc := HDC.out W h6
                    go_simp
                    exact hK _ _ (by simp) (Below.refl _ _) rfl
                  · skip
                    have s19 := hold 19 rfl
                    simp [predsOf, Region.binds, slotV] at hp
                    refine wpOp_of rfl rfl ?_
                    simp at s19
                    go_simp
                    exact hK _ _ (by simp) (Below.refl _ _) rfl
                  · skip
                    simp [predsOf, Region.binds, slotV] at hp
                    refine wpOp_of rfl rfl ?_
                    go_simp
                    refine (HRV.out W h6).mono ?_
                    rintro e W2 ⟨v2, rfl, hO, hB⟩
                    exact hK _ _ (by simp) hB ⟨_, rfl, hO⟩
                  · skip
                    simp [predsOf, Region.binds, slotV] at hp
                    refine wpOp_of rfl rfl ?_
                    go_simp
                    exact hK _ _ (by simp) (Below.refl _ _) (by first | (simpa using hp) | (simpa using hp.1))
                  · skip
                    simp [predsOf, Region.binds, slotV] at hp
                    obtain ⟨v1, p1, p2⟩ := hp
                    refine wpOp_of rfl rfl ?_
                    go_simp
                    exact hK _ _ (by simp) (Below.refl _ _) (by simpa using p2)
                  · skip
                    simp [predsOf, Region.binds, slotV] at hp
                    obtain ⟨v1, p1, p2⟩ := hp
                    refine wpOp_of rfl rfl ?_
                    go_simp
                    exact hK _ _ (by simp) (Below.refl _ _) (by simp)
                  · skip
                    simp [predsOf, Region.binds, slotV] at hp
                    refine wpOp_of rfl rfl ?_
                    go_simp
                    exact hK _ _ (by simp) (Below.refl _ _) (by first | (simpa using hp) | (simpa using hp.1))
                  · have i0 : i = 0 := by simp at hi; omega
                    subst i0
                    simp [predsOf, Region.binds, slotV] at hp
                    refine wpOp_of rfl rfl ?_
                    go_simp
                    exact hK _ _ (by simp) (Below.refl _ _) (by simp)
                case fin =>
                  intro vs V23 hRs h6
                  have r0 := hRs 0 (by decide)
                  have r1 := hRs 1 (by decide)
                  have r2 := hRs 2 (by decide)
                  have r3 := hRs 3 (by decide)
                  have r4 := hRs 4 (by decide)
                  have r5 := hRs 5 (by decide)
                  have r6 := hRs 6 (by decide)
                  have r7 := hRs 7 (by decide)
                  have r8 := hRs 8 (by decide)
                  have r9 := hRs 9 (by decide)
                  have r13 := hRs 13 (by decide)
                  have r15 := hRs 15 (by decide)
                  simp at r0 r1 r2 r3 r4 r5 r6 r7 r8 r9 r13 r15
                  have hX := hRs 14 (by decide)
                  simp at hX
                  simp only [putAll, List.foldl_cons, List.foldl_nil, Act.put, List.setIfInBounds_toArray, List.set_cons_succ, List.set_cons_zero, r0, r1, r2, r3, r4, r5, r6, r7, r8, r9, r13, r15]
                  generalize vs (some 207) = Y207 at *
                  generalize vs (some 196) = Y196 at *
                  generalize vs (some 208) = Y208 at *
                  generalize vs (some 28) = Y28 at *
                  have HB23 := Lib.hid (h6)
                  have HX23 := Lib.hid hX
                  clear hRs hX h6 r0 r1 r2 r3 r4 r5 r6 r7 r8 r9 r13 r15
                  clear HAC HDC HRV
                  have HBW23 := Lib.hid (HBW22.out.trans (HB23.out.mono (HBW22.out).size))
                  have hta := HX22.out.below HB23.out
                  have htb := HX23.out
                  have hs := HSM.out xV _ _ V23 hta htb
                  have HS23 := Lib.hid hs
                  clear hta htb hs HX22 HX23 HB22 HB23 HBW22
                  have hee23 : (eV != eV) = false := by simp
                  have hee2 : (eD != eD) = false := by simp
                  go_wp2_with (first
                    | (go_at_call 26; refine (HSM.out xD _ _ _ (hT7.below hB8) hT8).mono ?_; rintro e U9 ⟨rfl, hB9⟩)
                    | (go_at_call 32; go_loud (refine (HRD0.out _ (HBW23.out.trans (hB67.mono HBW23.out.size))).mono ?_; rintro e U8 ⟨v8, rfl, hT8, hB8⟩))
                    | (go_at_call 31; go_loud (refine (HDR0.out _ (HBW23.out.trans (hBs23.mono HBW23.out.size))).mono ?_; rintro e U7 ⟨v7, rfl, hT7, hB7⟩; have hB67 := hBs23.trans (hB7.mono hBs23.size); have cA2 := HAC0.out _ (HBW23.out.trans (hB67.mono HBW23.out.size))))
                    | (go_at_call 26; go_loud (refine HS23.out.mono ?_; rintro e U23 ⟨rfl, hBs23⟩; have cA := HAC0.out _ (HBW23.out.trans (hBs23.mono HBW23.out.size)))))
                  go_roundw
                  case rel => exact ⟨jj + 1, by omega, by go_num, HBW23.out.trans (((hB67.trans (hB8.mono hB67.size)).trans (hB9.mono (Nat.le_trans hB67.size hB8.size))).mono HBW23.out.size)⟩
                  case measure => simp [intOf]; omega
    · have hd : decide ((jj : Int) < 4) = false := by simp; omega
      go_wp2
      go_ret
      exact ⟨rfl, HB14.out.trans (hB.mono HB14.out.size)⟩
end Go.Proofs.YtdnobplhfbgbaaaGreatDoor
