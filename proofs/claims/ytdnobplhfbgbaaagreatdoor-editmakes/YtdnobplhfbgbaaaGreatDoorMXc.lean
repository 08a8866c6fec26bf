/-
  Contracts: edit's node (folder, there, names), at.
  Contracts: first, number of edit.
-/
import Derived.Test.YtdnobplhfbgbaaaGreatDoorMUp0
namespace Go.Proofs.YtdnobplhfbgbaaaGreatDoor
open Go.RowKit Go.Joins

theorem Tryz.info94 : (Tryz.prog.info? 94).map (fun i => (i.zero, i.size, i.bytes)) = some (some (.agg #[.int .i64 0, .int .i64 0, .string { data := #[] }]), 3, 32) := by kernel_rfl
theorem Tryz.info97 : (Tryz.prog.info? 97).map (fun i => (i.zero, i.size, i.bytes)) = some (some (.agg #[.slice none 0 0, .bool false]), 2, 32) := by kernel_rfl
theorem Tryz.info144 : (Tryz.prog.info? 144).map (fun i => (i.zero, i.size, i.bytes)) = some (some (.agg #[.int .i64 0, .string { data := #[] }]), 2, 24) := by kernel_rfl
theorem Bx.tri94 {w : World} {g : Nat} {a b : Int} {s : ByteArray} (h : Bx w g 94 #[.int .i64 a, .int .i64 b, .string s]) : w.cell? ⟨g, 0, none⟩ = some (.int .i64 a) ∧ w.cell? ⟨g, 1, none⟩ = some (.int .i64 b) ∧ w.cell? ⟨g, 2, none⟩ = some (.string s) := ⟨h.cell 0, h.cell 1, h.cell 2⟩
set_option maxRecDepth 100000 in
set_option maxHeartbeats 4000000 in
theorem efolder_any (n : PT.N) (w : World) : Calls Tryz.prog 125 #[nodeV n] w fun e w' => e = .returned (.bool (decide (n.kind = 2))) ∧ Below w.heap.size w w' := by
  obtain ⟨kd, md, s⟩ := n
  have hb1 := al w (.cells #[.int .i64 kd, .int .i64 md, .string s] 94)
  have hbx1 := Bx.new w 94 #[.int .i64 kd, .int .i64 md, .string s]
  unfold nodeV
  go_enter Tryz.func125, Tryz.ntmps125
  go_upto_region 1 with fail
  generalize w.alloc (.cells #[.int .i64 kd, .int .i64 md, .string s] 94) = w1 at *
  generalize hgx : w.heap.size = gx at *
  obtain ⟨c0, c1, c2⟩ := hbx1.tri94
  go_wp2
  go_ret
  exact ⟨by congr 2, hgx ▸ hb1⟩
set_option maxRecDepth 100000 in
set_option maxHeartbeats 4000000 in
theorem ethere_any (n : PT.N) (w : World) : Calls Tryz.prog 157 #[nodeV n] w fun e w' => e = .returned (.bool (decide (n.kind ≠ 0))) ∧ Below w.heap.size w w' := by
  obtain ⟨kd, md, s⟩ := n
  have hb1 := al w (.cells #[.int .i64 kd, .int .i64 md, .string s] 94)
  have hbx1 := Bx.new w 94 #[.int .i64 kd, .int .i64 md, .string s]
  unfold nodeV
  go_enter Tryz.func157, Tryz.ntmps157
  go_upto_region 1 with fail
  generalize w.alloc (.cells #[.int .i64 kd, .int .i64 md, .string s] 94) = w1 at *
  generalize hgx : w.heap.size = gx at *
  obtain ⟨c0, c1, c2⟩ := hbx1.tri94
  go_wp2
  go_ret
  exact ⟨by congr 2; by_cases h : kd = 0 <;> simp [h], hgx ▸ hb1⟩
set_option maxRecDepth 100000 in
set_option maxHeartbeats 4000000 in
theorem enames_any (n : PT.N) (w : World) : Calls Tryz.prog 132 #[nodeV n] w fun e w' => ∃ v', e = .returned v' ∧ Eo w' w.heap.size v' (PD.tl n.body) ∧ Fit (PD.tl n.body) ∧ Below w.heap.size w w' := by
  obtain ⟨kd, md, s⟩ := n
  have hb1 := al w (.cells #[.int .i64 kd, .int .i64 md, .string s] 94)
  have hbx1 := Bx.new w 94 #[.int .i64 kd, .int .i64 md, .string s]
  have hz1 : w.heap.size ≤ (w.alloc (.cells #[.int .i64 kd, .int .i64 md, .string s] 94)).heap.size := hb1.size
  unfold nodeV
  go_enter Tryz.func132, Tryz.ntmps132
  go_upto_region 1 with fail
  generalize w.alloc (.cells #[.int .i64 kd, .int .i64 md, .string s] 94) = w1 at *
  generalize hgx : w.heap.size = gx at *
  obtain ⟨c0, c1, c2⟩ := hbx1.tri94
  have ht := take_any s w1
  go_wp2_with (go_at_call 136; refine ht.mono ?_; rintro e w3 ⟨v3, rfl, hO, hF, hB3⟩)
  go_ret
  subst hgx
  exact ⟨_, rfl, hO.base hz1, hF, hb1.trans (hB3.mono hz1)⟩
theorem eat_out {w W : World} {gx B : Nat} {cur : Array Value} (tmps : Array Value) (n : PT.N) (hx : Bx W gx 94 cur) (hs : cur.size = 3) (ht : tmps[4]? = some (.pointer (some ⟨gx, 0, none⟩))) (hg : B ≤ gx) (hb : Below B w W) : bodyPost Tryz.prog Tryz.f156 (fun e w' => e = .returned (nodeV n) ∧ Below B w w') Exit.ret { tmps := tmps, defers := [] } (put3 W gx n) := by
  have h3 := ((hx.set 0 (.int .i64 n.kind)).set 1 (.int .i64 n.mode)).set 2 (.string n.body)
  have e3 : ((cur.setIfInBounds 0 (.int .i64 n.kind)).setIfInBounds 1 (.int .i64 n.mode)).setIfInBounds 2 (.string n.body) = #[.int .i64 n.kind, .int .i64 n.mode, .string n.body] := by
    obtain ⟨l⟩ := cur
    match l, hs with
    | [_, _, _], _ => rfl
  rw [e3] at h3
  have hend : Below B w (put3 W gx n) := ((hb.setCell (p := ⟨gx, 0, none⟩) hg _).setCell (p := ⟨gx, 1, none⟩) hg _).setCell (p := ⟨gx, 2, none⟩) hg _
  obtain ⟨c0, c1, c2⟩ := h3.tri94
  refine bodyPost_ret (v := nodeV n) ?_ rfl ⟨rfl, hend⟩
  unfold put3
  simp [results, Tryz.results156, go_sem, ht, c0, c1, c2, nodeV]
/-- What stands in the box of a work. -/
theorem Bx.work {w : World} {g : Nat} {V : Value} {o : Bool} (h : Bx w g 97 #[V, .bool o]) : w.cell? ⟨g, 0, none⟩ = some V ∧ w.cell? ⟨g, 1, none⟩ = some (.bool o) := ⟨h.cell 0, h.cell 1⟩
theorem Ts.three {w : World} {b o n c : Nat} {l : List PT.N} (h : Ts w (.slice (some ⟨b, o, none⟩) n c) l) {k : Nat} {x : PT.N} (hk : l[k]? = some x) : w.cell? ⟨b, o + k * 3, none⟩ = some (.int .i64 x.kind) ∧ w.cell? ⟨b, o + k * 3 + 1, none⟩ = some (.int .i64 x.mode) ∧ w.cell? ⟨b, o + k * 3 + 2, none⟩ = some (.string x.body) := by
  have hlt := (List.getElem?_eq_some_iff.1 hk).1
  obtain ⟨b', o', e, _, hc⟩ := h.at (by omega)
  injection e with e
  injection e with e1 e2
  subst e1 e2
  exact hc k x hk
set_option maxRecDepth 100000 in
set_option maxHeartbeats 4000000 in
theorem eat_any (A : Option Addr) (c : Nat) (t : List PT.N) (o : Bool) (k : Nat) (n : PT.N) (w : World) (h : Ts w (.slice A 9 c) t) (h9 : t.length = 9) (hn : t[k]? = some n) : Calls Tryz.prog 156 #[.agg #[.slice A 9 c, .bool o], .int .i64 ((k : Int) + 1)] w fun e w' => e = .returned (nodeV n) ∧ Below w.heap.size w w' := by
  have hk : k < 9 := by have := (List.getElem?_eq_some_iff.1 hn).1; omega
  have hw1 : IntKind.i64.wrap ((k : Int) + 1 - 1) = (k : Int) := by rw [IntKind.wrap_i64]; omega
  obtain ⟨b, o0, rfl, hb, hc⟩ := h.at (by omega)
  have hb1 := al w (.cells #[.slice (some ⟨b, o0, none⟩) 9 c, .bool o] 97)
  have hx1 := Bx.new w 97 #[.slice (some ⟨b, o0, none⟩) 9 c, .bool o]
  have hz1 : (w.alloc (.cells #[.slice (some ⟨b, o0, none⟩) 9 c, .bool o] 97)).heap.size = w.heap.size + 1 := by simp
  have hb2 := hb1.alloc hb1.size (.cells #[.int .i64 0, .int .i64 0, .string { data := #[] }] 94)
  have hx2 := Bx.new (w.alloc (.cells #[.slice (some ⟨b, o0, none⟩) 9 c, .bool o] 97)) 94 #[.int .i64 0, .int .i64 0, .string { data := #[] }]
  have hx1 := hx1.alloc (.cells #[.int .i64 0, .int .i64 0, .string { data := #[] }] 94)
  rw [hz1] at hx2
  obtain ⟨d0, d1, d2⟩ := (h.below hb2).three hn
  clear h hc hb1 hz1
  go_enter Tryz.func156, Tryz.ntmps156
  go_upto_region 1 with fail
  generalize (w.alloc (.cells #[.slice (some ⟨b, o0, none⟩) 9 c, .bool o] 97)).alloc (.cells #[.int .i64 0, .int .i64 0, .string { data := #[] }] 94) = w2 at *
  obtain ⟨c0, c1⟩ := hx1.work
  obtain ⟨a0, a1, a2⟩ := hx2.tri94
  have f0 := hx2.frozen 0
  have f1 := hx2.frozen 1
  have f2 := hx2.frozen 2
  have HE := Lib.hid (And.intro hx2 hb2)
  clear hx2 hb2
  go_wp2
  (try simp only [Exit.inBlock, Exit.then])
  exact eat_out (w := w) (W := w2) _ n HE.out.1 rfl rfl (Nat.le_succ _) HE.out.2
end Go.Proofs.YtdnobplhfbgbaaaGreatDoor
namespace Go.Proofs.YtdnobplhfbgbaaaGreatDoor
open Go.RowKit Go.Joins

namespace PT
/-- The number of a new node, as edit asks for it. -/
def nbr (t : List N) (ino : Int) : Int × Int := if ino = 0 then (free t 0, if free t 0 = 0 then 8 else 0) else if kindAt t (px ino) ≠ 0 then (0, 3) else (ino, 0)
end PT
set_option maxRecDepth 100000 in
set_option maxHeartbeats 4000000 in
theorem efirst_any (A : Option Addr) (c : Nat) (t : List PT.N) (o : Bool) (w : World) (h : Ts w (.slice A 9 c) t) (h9 : t.length = 9) :
    Calls Tryz.prog 155 #[.agg #[.slice A 9 c, .bool o]] w fun e w' => e = .returned (.tuple #[.int .i64 (PT.free t 0), .int .i64 (if PT.free t 0 = 0 then 8 else 0)]) ∧ Below w.heap.size w w' := by
  have hb1 := al w (.cells #[.slice A 9 c, .bool o] 97)
  have hx1 := Bx.new w 97 #[.slice A 9 c, .bool o]
  have h1 := h.below hb1
  have hz1 : (w.alloc (.cells #[.slice A 9 c, .bool o] 97)).heap.size = w.heap.size + 1 := by simp
  obtain ⟨R1, hR1⟩ : ∃ R, PT.free t 0 = R := ⟨_, rfl⟩
  obtain ⟨R2, hR2⟩ : ∃ R : Int, (if R1 = 0 then (8 : Int) else 0) = R := ⟨_, rfl⟩
  rw [hR1, hR2]
  have HR1 := Lib.hid hR1
  have HR2 := Lib.hid hR2
  have H9 := Lib.hid h9
  clear h hR1 hR2
  go_enter Tryz.func155, Tryz.ntmps155
  go_upto_region 1 with fail
  generalize hw1 : w.alloc (.cells #[.slice A 9 c, .bool o] 97) = w1 at *
  generalize hgx : w.heap.size = g1 at *
  have HB := Lib.hid hb1
  have HX := Lib.hid hx1
  have HT := Lib.hid h1
  have HGX := Lib.hid hgx
  obtain ⟨c0, c1⟩ := hx1.work
  clear hb1 hx1 h1 hw1 hgx h9
  go_wp2
  clear c0 c1
  go_loopw [9] (fun iv wr => ∃ k : Nat, k ≤ 9 ∧ iv = .int .i64 (k : Int) ∧ (∀ (j : Nat) m, j < k → t[j]? = some m → m.kind ≠ 0) ∧ Below w1.heap.size w1 wr) (fun iv _ => 9 - (intOf iv).toNat)
  case atStart => exact ⟨0, by decide, rfl, fun j m h => by omega, Below.refl _ _⟩
  case round =>
    obtain ⟨k, hk9, rfl, hnone, hB⟩ := hrel
    obtain ⟨c0, c1⟩ := (HX.out.on hB).work
    have hb := HB.out.trans (hB.mono (by omega))
    by_cases hk : k < 9
    · obtain ⟨n, hn⟩ : ∃ n, t[k]? = some n := ⟨_, List.getElem?_eq_getElem (by rw [H9.out]; exact hk)⟩
      have hat := eat_any A c t o k n wr (HT.out.below hB) H9.out hn
      have hth := fun W => ethere_any n W
      have hd : decide ((k : Int) < 9) = true := by simp; omega
      have HN := Lib.hid hn
      have HNO := Lib.hid hnone
      clear hn hnone
      by_cases hk0 : n.kind = 0
      · rw [show decide (n.kind ≠ 0) = false by simp [hk0]] at hth
        have hf := PT.free_here HNO.out HN.out hk0
        have HTH := Lib.hid hth
        have HF := Lib.hid (HR1.out.symm.trans hf)
        clear hk0 hth hf
        go_wp2_with (first | (go_at_call 157; go_loud (refine (HTH.out w3).mono ?_; rintro e w4 ⟨rfl, hB4⟩)) | (go_at_call 156; go_loud (refine hat.mono ?_; rintro e w3 ⟨rfl, hB3⟩)))
        go_ret2
        have hgx := HGX.out
        subst hgx
        have hf := HF.out
        have h2 := HR2.out
        rw [if_neg (by omega)] at h2
        subst h2 hf
        exact ⟨by rw [show ((k + 1 : Nat) : Int) = (k : Int) + 1 by omega]; rfl, hb.trans ((hB3.trans (hB4.mono hB3.size)).mono (by have := hB.size; omega))⟩
      · rw [show decide (n.kind ≠ 0) = true by simp [hk0]] at hth
        have HTH := Lib.hid hth
        have HK := Lib.hid hk0
        clear hk0 hth
        go_wp2_with (first | (go_at_call 157; go_loud (refine (HTH.out w3).mono ?_; rintro e w4 ⟨rfl, hB4⟩)) | (go_at_call 156; go_loud (refine hat.mono ?_; rintro e w3 ⟨rfl, hB3⟩)))
        go_roundw
        case rel =>
          refine ⟨k + 1, by omega, by go_num, fun j m hj hm => ?_, hB.trans ((hB3.trans (hB4.mono hB3.size)).mono hB.size)⟩
          rcases Nat.lt_or_ge j k with h | h
          · exact HNO.out j m h hm
          · obtain rfl : j = k := by omega
            rw [HN.out] at hm
            injection hm with hm
            rw [← hm]; exact HK.out
        case measure => simp [intOf]; omega
    · have hk9' : k = 9 := by omega
      have hd : decide ((k : Int) < 9) = false := by simp; omega
      have HF := Lib.hid (HR1.out.symm.trans (PT.free_no fun i m hm => hnone i m (by have := (List.getElem?_eq_some_iff.1 hm).1; rw [H9.out] at this; omega) hm))
      clear hnone hk9'
      go_wp2
      go_ret2
      have hgx := HGX.out
      subst hgx
      have hf := HF.out
      have h2 := HR2.out
      rw [if_pos hf] at h2
      subst h2 hf
      exact ⟨rfl, hb⟩
set_option maxRecDepth 100000 in
set_option maxHeartbeats 4000000 in
theorem enumber_any (A : Option Addr) (c : Nat) (t : List PT.N) (o : Bool) (ino : Int) (hi : 0 ≤ ino ∧ ino ≤ 9) (w : World) (h : Ts w (.slice A 9 c) t) (h9 : t.length = 9) :
    Calls Tryz.prog 118 #[.agg #[.slice A 9 c, .bool o], .int .i64 ino] w fun e w' => e = .returned (.tuple #[.int .i64 (PT.nbr t ino).1, .int .i64 (PT.nbr t ino).2]) ∧ Below w.heap.size w w' := by
  have hb1 := al w (.cells #[.slice A 9 c, .bool o] 97)
  have hx1 := Bx.new w 97 #[.slice A 9 c, .bool o]
  have h1 := h.below hb1
  have hz1 : (w.alloc (.cells #[.slice A 9 c, .bool o] 97)).heap.size = w.heap.size + 1 := by simp
  obtain ⟨⟨R1, R2⟩, hR⟩ : ∃ R, PT.nbr t ino = R := ⟨_, rfl⟩
  rw [hR]
  have HR := Lib.hid hR
  have H9 := Lib.hid h9
  clear h hR
  go_enter Tryz.func118, Tryz.ntmps118
  go_upto_region 1 with fail
  generalize hw1 : w.alloc (.cells #[.slice A 9 c, .bool o] 97) = w1 at *
  generalize hgx : w.heap.size = g1 at *
  have HB := Lib.hid hb1
  have HGX := Lib.hid hgx
  obtain ⟨c0, c1⟩ := hx1.work
  clear hb1 hx1 hw1 hgx h9
  by_cases h0 : ino = 0
  · subst h0
    have hf := efirst_any A c t o w1 h1 H9.out
    have e := HR.out.symm.trans (show PT.nbr t 0 = _ from if_pos rfl)
    injection e with e1 e2
    rw [← e2, ← e1] at hf
    clear e1 e2
    have HFI := Lib.hid hf
    clear hf h1
    go_wp2_with (go_at_call 155; go_loud (refine HFI.out.mono ?_; rintro e w3 ⟨rfl, hB3⟩))
    go_ret2
    have hgx := HGX.out
    subst hgx
    exact ⟨rfl, HB.out.trans (hB3.mono (by omega))⟩
  · obtain ⟨k, rfl⟩ : ∃ k : Nat, ino = (k : Int) + 1 := ⟨(ino - 1).toNat, by omega⟩
    obtain ⟨n, hn⟩ : ∃ n, t[k]? = some n := ⟨_, List.getElem?_eq_getElem (by rw [H9.out]; omega)⟩
    have hat := eat_any A c t o k n w1 h1 H9.out hn
    have hth := fun W => ethere_any n W
    have hd : ((k : Int) + 1 == 0) = false := by simp; omega
    have hnb : PT.nbr t ((k : Int) + 1) = if n.kind ≠ 0 then (0, 3) else ((k : Int) + 1, 0) := by
      rw [PT.nbr, if_neg h0, show PT.px ((k : Int) + 1) = k by unfold PT.px; omega, PT.kindAt_at hn]
    have e := HR.out.symm.trans hnb
    clear h1 hn hnb h0 hi
    by_cases hk0 : n.kind = 0
    · rw [show decide (n.kind ≠ 0) = false by simp [hk0]] at hth
      rw [if_neg (by simp [hk0])] at e
      injection e with e1 e2
      subst e1 e2
      clear hk0
      go_wp2_with (first | (go_at_call 157; go_loud (refine (hth w3).mono ?_; rintro e w4 ⟨rfl, hB4⟩)) | (go_at_call 156; go_loud (refine hat.mono ?_; rintro e w3 ⟨rfl, hB3⟩)))
      go_ret2
      have hgx := HGX.out
      subst hgx
      exact ⟨rfl, HB.out.trans ((hB3.trans (hB4.mono hB3.size)).mono (by omega))⟩
    · rw [show decide (n.kind ≠ 0) = true by simp [hk0]] at hth
      rw [if_pos hk0] at e
      injection e with e1 e2
      subst e1 e2
      clear hk0
      go_wp2_with (first | (go_at_call 157; go_loud (refine (hth w3).mono ?_; rintro e w4 ⟨rfl, hB4⟩)) | (go_at_call 156; go_loud (refine hat.mono ?_; rintro e w3 ⟨rfl, hB3⟩)))
      go_ret2
      have hgx := HGX.out
      subst hgx
      exact ⟨rfl, HB.out.trans ((hB3.trans (hB4.mono hB3.size)).mono (by omega))⟩
end Go.Proofs.YtdnobplhfbgbaaaGreatDoor
