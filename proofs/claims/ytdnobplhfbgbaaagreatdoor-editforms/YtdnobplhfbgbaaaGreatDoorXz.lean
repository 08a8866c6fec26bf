/-
  The law EditForms, walked.
-/
import Derived.Test.YtdnobplhfbgbaaaGreatDoorXv
namespace Go.Proofs.YtdnobplhfbgbaaaGreatDoor
open Go.RowKit Go.Joins

namespace PT
def te0 : List N := [⟨2, 7, { data := #[] }⟩, ⟨0, 0, { data := #[] }⟩, ⟨0, 0, { data := #[] }⟩, ⟨0, 0, { data := #[] }⟩, ⟨0, 0, { data := #[] }⟩, ⟨0, 0, { data := #[] }⟩, ⟨0, 0, { data := #[] }⟩, ⟨0, 0, { data := #[] }⟩, ⟨0, 0, { data := #[] }⟩]
def te1 : List N := [⟨2, 7, { data := #[1, 97, 2] }⟩, ⟨2, 6, { data := #[] }⟩, ⟨0, 0, { data := #[] }⟩, ⟨0, 0, { data := #[] }⟩, ⟨0, 0, { data := #[] }⟩, ⟨0, 0, { data := #[] }⟩, ⟨0, 0, { data := #[] }⟩, ⟨0, 0, { data := #[] }⟩, ⟨0, 0, { data := #[] }⟩]
def te2 : List N := [⟨2, 7, { data := #[1, 97, 2] }⟩, ⟨2, 6, { data := #[1, 102, 3] }⟩, ⟨1, 6, { data := #[] }⟩, ⟨0, 0, { data := #[] }⟩, ⟨0, 0, { data := #[] }⟩, ⟨0, 0, { data := #[] }⟩, ⟨0, 0, { data := #[] }⟩, ⟨0, 0, { data := #[] }⟩, ⟨0, 0, { data := #[] }⟩]
def te3 : List N := [⟨2, 7, { data := #[1, 97, 2, 1, 98, 4] }⟩, ⟨2, 6, { data := #[1, 102, 3] }⟩, ⟨1, 6, { data := #[] }⟩, ⟨2, 6, { data := #[] }⟩, ⟨0, 0, { data := #[] }⟩, ⟨0, 0, { data := #[] }⟩, ⟨0, 0, { data := #[] }⟩, ⟨0, 0, { data := #[] }⟩, ⟨0, 0, { data := #[] }⟩]
def te4 : List N := [⟨2, 7, { data := #[1, 97, 2, 1, 98, 4] }⟩, ⟨2, 6, { data := #[1, 102, 3] }⟩, ⟨1, 6, { data := #[] }⟩, ⟨2, 6, { data := #[1, 103, 3] }⟩, ⟨0, 0, { data := #[] }⟩, ⟨0, 0, { data := #[] }⟩, ⟨0, 0, { data := #[] }⟩, ⟨0, 0, { data := #[] }⟩, ⟨0, 0, { data := #[] }⟩]
def te5 : List N := [⟨2, 7, { data := #[1, 98, 4] }⟩, ⟨2, 6, { data := #[1, 102, 3] }⟩, ⟨1, 6, { data := #[] }⟩, ⟨2, 6, { data := #[1, 97, 2, 1, 103, 3] }⟩, ⟨0, 0, { data := #[] }⟩, ⟨0, 0, { data := #[] }⟩, ⟨0, 0, { data := #[] }⟩, ⟨0, 0, { data := #[] }⟩, ⟨0, 0, { data := #[] }⟩]
def te6 : List N := [⟨2, 7, { data := #[1, 98, 4] }⟩, ⟨2, 6, { data := #[] }⟩, ⟨1, 6, { data := #[] }⟩, ⟨2, 6, { data := #[1, 97, 2, 1, 103, 3] }⟩, ⟨0, 0, { data := #[] }⟩, ⟨0, 0, { data := #[] }⟩, ⟨0, 0, { data := #[] }⟩, ⟨0, 0, { data := #[] }⟩, ⟨0, 0, { data := #[] }⟩]
def te7 : List N := [⟨2, 7, { data := #[1, 98, 4] }⟩, ⟨0, 0, { data := #[] }⟩, ⟨1, 6, { data := #[] }⟩, ⟨2, 6, { data := #[1, 103, 3] }⟩, ⟨0, 0, { data := #[] }⟩, ⟨0, 0, { data := #[] }⟩, ⟨0, 0, { data := #[] }⟩, ⟨0, 0, { data := #[] }⟩, ⟨0, 0, { data := #[] }⟩]
/-- The trees, step by step. -/
def TE : List (List N) := [te0, te1, te1, te2, te2, te2, te2, te2, te3, te4, te4, te4, te4, te4, te4, te5, te5, te5, te5, te5, te5, te5, te5, te6, te6, te7, te7]
/-- The steps of the law: kind, mode, way, the other way. -/
def stE : List (Int × Int × ByteArray × ByteArray) := [
  (1, 2, { data := #[47, 97] }, { data := #[] }),
  (1, 1, { data := #[47, 97] }, { data := #[] }),
  (1, 1, { data := #[47, 97, 47, 102] }, { data := #[] }),
  (1, 1, { data := #[47, 97, 47, 102, 47, 120] }, { data := #[] }),
  (1, 1, { data := #[47, 120, 47, 121] }, { data := #[] }),
  (1, 2, { data := #[47] }, { data := #[] }),
  (1, 3, { data := #[47, 98] }, { data := #[] }),
  (1, 2, { data := #[47, 98] }, { data := #[] }),
  (2, 0, { data := #[47, 97, 47, 102] }, { data := #[47, 98, 47, 103] }),
  (2, 0, { data := #[47, 97] }, { data := #[47, 99] }),
  (2, 0, { data := #[47, 97, 47, 102] }, { data := #[47, 98, 47, 103] }),
  (2, 0, { data := #[47, 97, 47, 102] }, { data := #[47] }),
  (2, 0, { data := #[47, 110, 111] }, { data := #[47, 99] }),
  (4, 0, { data := #[47, 97] }, { data := #[47, 97, 47, 100] }),
  (4, 0, { data := #[47, 97] }, { data := #[47, 98, 47, 97] }),
  (4, 0, { data := #[47, 98] }, { data := #[47, 98, 47, 97, 47, 98] }),
  (4, 0, { data := #[47, 98, 47, 97] }, { data := #[47, 98, 47, 103] }),
  (4, 0, { data := #[47] }, { data := #[47, 122] }),
  (4, 0, { data := #[47, 98, 47, 97] }, { data := #[47, 98, 47, 97] }),
  (4, 0, { data := #[47, 98, 47, 97] }, { data := #[47] }),
  (3, 0, { data := #[47, 98] }, { data := #[] }),
  (3, 0, { data := #[47] }, { data := #[] }),
  (3, 0, { data := #[47, 98, 47, 97, 47, 102] }, { data := #[] }),
  (3, 0, { data := #[47, 98, 47, 97, 47, 102] }, { data := #[] }),
  (3, 0, { data := #[47, 98, 47, 97] }, { data := #[] }),
  (3, 0, { data := #[98] }, { data := #[] })]
def wantE : List Int := [0, 3, 0, 5, 2, 3, 1, 0, 0, 4, 3, 3, 2, 7, 0, 7, 3, 4, 0, 3, 6, 4, 0, 2, 0, 1]
def appE (t : List N) (s : Int × Int × ByteArray × ByteArray) : List N × Int := if s.1 = 1 then make t (pp false s.2.2.1) s.2.1 6 0 else if s.1 = 2 then link t (pp false s.2.2.1) (pp false s.2.2.2) else if s.1 = 3 then drop t (pp false s.2.2.1) else move t (pp false s.2.2.1) (pp false s.2.2.2)
def stepB (k : Nat) : Bool := match TE[k]?, stE[k]?, TE[k + 1]?, wantE[k]? with
  | some t, some s, some t', some z => decide (appE t s = (t', z))
  | _, _, _, _ => false
theorem steps_ok : ((List.range 26).all stepB) = true := by decide +kernel
theorem step_at {k : Nat} (hk : k < 26) {t : List N} (ht : TE[k]? = some t) : ∃ s t' z, stE[k]? = some s ∧ TE[k + 1]? = some t' ∧ wantE[k]? = some z ∧ appE t s = (t', z) := by
  have := List.all_eq_true.1 steps_ok k (List.mem_range.2 hk)
  unfold stepB at this
  rw [ht] at this
  split at this
  · rename_i t1 s t' z h1 h2 h3 h4
    injection h1 with h1
    subst h1
    exact ⟨s, t', z, h2, h3, h4, of_decide_eq_true this⟩
  · cases this
theorem te_may : TE.all mayB = true := by decide +kernel
theorem te_fine {k : Nat} {t : List N} (h : TE[k]? = some t) : Fine t := (may_iff t).1 (List.all_eq_true.1 te_may t (List.mem_of_getElem? h))
theorem st_fit : (stE.all fun s => decide ((s.1 = 1 ∨ s.1 = 2 ∨ s.1 = 3 ∨ s.1 = 4) ∧ s.2.2.1.size ≤ 65535 ∧ s.2.2.2.size ≤ 65535)) = true := by decide +kernel
theorem forms_end : find te7 (pp false { data := #[47, 98, 47, 103] }) = (3, 0) ∧ (make te7 (pp false { data := #[47, 113] }) 1 0 4).2 = 3 ∧ (make te7 (pp false { data := #[47, 113] }) 1 256 0).2 = 1 ∧ (make te7 (pp false { data := #[47, 113] }) 1 0 5).2 = 0 ∧ linksI te7 3 = 1 := by decide +kernel
end PT
/-- The cells of a step of the law. -/
def sE (s : Int × Int × ByteArray × ByteArray) : List Value := [.int .i64 s.1, .int .i64 0, .int .i64 0, .int .i64 s.2.1, .int .i64 0, .string s.2.2.1, .string s.2.2.2, .string { data := #[] }, .slice none 0 0]
def cellsE (l : List (Int × Int × ByteArray × ByteArray)) : List Value := l.flatMap sE
theorem ce_at : ∀ (l : List (Int × Int × ByteArray × ByteArray)) (k : Nat) (s : Int × Int × ByteArray × ByteArray), l[k]? = some s → (cellsE l)[k * 9]? = some (.int .i64 s.1) ∧ (cellsE l)[k * 9 + 1]? = some (.int .i64 0) ∧ (cellsE l)[k * 9 + 2]? = some (.int .i64 0) ∧ (cellsE l)[k * 9 + 3]? = some (.int .i64 s.2.1) ∧ (cellsE l)[k * 9 + 4]? = some (.int .i64 0) ∧ (cellsE l)[k * 9 + 5]? = some (.string s.2.2.1) ∧ (cellsE l)[k * 9 + 6]? = some (.string s.2.2.2) ∧ (cellsE l)[k * 9 + 7]? = some (.string { data := #[] }) ∧ (cellsE l)[k * 9 + 8]? = some (.slice none 0 0)
  | [], k, s, h => by simp at h
  | x :: r, 0, s, h => by
    simp at h
    subst h
    exact ⟨rfl, rfl, rfl, rfl, rfl, rfl, rfl, rfl, rfl⟩
  | x :: r, k + 1, s, h => by
    have := ce_at r k s (by simpa using h)
    have hc : cellsE (x :: r) = .int .i64 x.1 :: .int .i64 0 :: .int .i64 0 :: .int .i64 x.2.1 :: .int .i64 0 :: .string x.2.2.1 :: .string x.2.2.2 :: .string { data := #[] } :: .slice none 0 0 :: cellsE r := rfl
    rw [hc, show (k + 1) * 9 = k * 9 + 1 + 1 + 1 + 1 + 1 + 1 + 1 + 1 + 1 by omega]
    exact this
/-- A world that an alloc made, by what is known of it. -/
theorem wp_alloc {P : Program} {c : Code} {Q : Exit → Act → World → Prop} {a : Act} {w : World} {G : Array Value} {t : TypeId} (h : ∀ w', Bx w' w.heap.size t G → Below w.heap.size w w' → Code.wp P c Q a w') : Code.wp P c Q a (w.alloc (.cells G t)) := h _ (Bx.new w t G) (al w _)
theorem wp_buildSlice {P : Program} {o : Oper} {a : Act} {w w' : World} {K : Act → World → Prop} {Q : Exit → Act → World → Prop} {t : TypeId} {len : Nat} {parts : Array (Nat × Operand)} (ho : o.op = .buildSlice t len parts) {vs : Array (Nat × Value)} (hv : (parts.map fun x => (x.1, a.eval x.2)) = vs) {v : Value} (hrun : (Instr.buildSlice t len vs).run P w = .ok v w') (h : K (a.put o.dst v) w') : Oper.wp P o a w K Q := by
  unfold Oper.wp
  simp [execOp, ho, hv, hrun, Result.andThen]
  exact h
theorem forms_run (W : World) : (Instr.buildSlice 56 26 #[(0, .agg #[.int .i64 1, .int .i64 0, .int .i64 0, .int .i64 2, .int .i64 0, .string { data := #[47, 97] }, .string { data := #[] }, .string { data := #[] }, .slice none 0 0]), (1, .agg #[.int .i64 1, .int .i64 0, .int .i64 0, .int .i64 1, .int .i64 0, .string { data := #[47, 97] }, .string { data := #[] }, .string { data := #[] }, .slice none 0 0]), (2, .agg #[.int .i64 1, .int .i64 0, .int .i64 0, .int .i64 1, .int .i64 0, .string { data := #[47, 97, 47, 102] }, .string { data := #[] }, .string { data := #[] }, .slice none 0 0]), (3, .agg #[.int .i64 1, .int .i64 0, .int .i64 0, .int .i64 1, .int .i64 0, .string { data := #[47, 97, 47, 102, 47, 120] }, .string { data := #[] }, .string { data := #[] }, .slice none 0 0]), (4, .agg #[.int .i64 1, .int .i64 0, .int .i64 0, .int .i64 1, .int .i64 0, .string { data := #[47, 120, 47, 121] }, .string { data := #[] }, .string { data := #[] }, .slice none 0 0]), (5, .agg #[.int .i64 1, .int .i64 0, .int .i64 0, .int .i64 2, .int .i64 0, .string { data := #[47] }, .string { data := #[] }, .string { data := #[] }, .slice none 0 0]), (6, .agg #[.int .i64 1, .int .i64 0, .int .i64 0, .int .i64 3, .int .i64 0, .string { data := #[47, 98] }, .string { data := #[] }, .string { data := #[] }, .slice none 0 0]), (7, .agg #[.int .i64 1, .int .i64 0, .int .i64 0, .int .i64 2, .int .i64 0, .string { data := #[47, 98] }, .string { data := #[] }, .string { data := #[] }, .slice none 0 0]), (8, .agg #[.int .i64 2, .int .i64 0, .int .i64 0, .int .i64 0, .int .i64 0, .string { data := #[47, 97, 47, 102] }, .string { data := #[47, 98, 47, 103] }, .string { data := #[] }, .slice none 0 0]), (9, .agg #[.int .i64 2, .int .i64 0, .int .i64 0, .int .i64 0, .int .i64 0, .string { data := #[47, 97] }, .string { data := #[47, 99] }, .string { data := #[] }, .slice none 0 0]), (10, .agg #[.int .i64 2, .int .i64 0, .int .i64 0, .int .i64 0, .int .i64 0, .string { data := #[47, 97, 47, 102] }, .string { data := #[47, 98, 47, 103] }, .string { data := #[] }, .slice none 0 0]), (11, .agg #[.int .i64 2, .int .i64 0, .int .i64 0, .int .i64 0, .int .i64 0, .string { data := #[47, 97, 47, 102] }, .string { data := #[47] }, .string { data := #[] }, .slice none 0 0]), (12, .agg #[.int .i64 2, .int .i64 0, .int .i64 0, .int .i64 0, .int .i64 0, .string { data := #[47, 110, 111] }, .string { data := #[47, 99] }, .string { data := #[] }, .slice none 0 0]), (13, .agg #[.int .i64 4, .int .i64 0, .int .i64 0, .int .i64 0, .int .i64 0, .string { data := #[47, 97] }, .string { data := #[47, 97, 47, 100] }, .string { data := #[] }, .slice none 0 0]), (14, .agg #[.int .i64 4, .int .i64 0, .int .i64 0, .int .i64 0, .int .i64 0, .string { data := #[47, 97] }, .string { data := #[47, 98, 47, 97] }, .string { data := #[] }, .slice none 0 0]), (15, .agg #[.int .i64 4, .int .i64 0, .int .i64 0, .int .i64 0, .int .i64 0, .string { data := #[47, 98] }, .string { data := #[47, 98, 47, 97, 47, 98] }, .string { data := #[] }, .slice none 0 0]), (16, .agg #[.int .i64 4, .int .i64 0, .int .i64 0, .int .i64 0, .int .i64 0, .string { data := #[47, 98, 47, 97] }, .string { data := #[47, 98, 47, 103] }, .string { data := #[] }, .slice none 0 0]), (17, .agg #[.int .i64 4, .int .i64 0, .int .i64 0, .int .i64 0, .int .i64 0, .string { data := #[47] }, .string { data := #[47, 122] }, .string { data := #[] }, .slice none 0 0]), (18, .agg #[.int .i64 4, .int .i64 0, .int .i64 0, .int .i64 0, .int .i64 0, .string { data := #[47, 98, 47, 97] }, .string { data := #[47, 98, 47, 97] }, .string { data := #[] }, .slice none 0 0]), (19, .agg #[.int .i64 4, .int .i64 0, .int .i64 0, .int .i64 0, .int .i64 0, .string { data := #[47, 98, 47, 97] }, .string { data := #[47] }, .string { data := #[] }, .slice none 0 0]), (20, .agg #[.int .i64 3, .int .i64 0, .int .i64 0, .int .i64 0, .int .i64 0, .string { data := #[47, 98] }, .string { data := #[] }, .string { data := #[] }, .slice none 0 0]), (21, .agg #[.int .i64 3, .int .i64 0, .int .i64 0, .int .i64 0, .int .i64 0, .string { data := #[47] }, .string { data := #[] }, .string { data := #[] }, .slice none 0 0]), (22, .agg #[.int .i64 3, .int .i64 0, .int .i64 0, .int .i64 0, .int .i64 0, .string { data := #[47, 98, 47, 97, 47, 102] }, .string { data := #[] }, .string { data := #[] }, .slice none 0 0]), (23, .agg #[.int .i64 3, .int .i64 0, .int .i64 0, .int .i64 0, .int .i64 0, .string { data := #[47, 98, 47, 97, 47, 102] }, .string { data := #[] }, .string { data := #[] }, .slice none 0 0]), (24, .agg #[.int .i64 3, .int .i64 0, .int .i64 0, .int .i64 0, .int .i64 0, .string { data := #[47, 98, 47, 97] }, .string { data := #[] }, .string { data := #[] }, .slice none 0 0]), (25, .agg #[.int .i64 3, .int .i64 0, .int .i64 0, .int .i64 0, .int .i64 0, .string { data := #[98] }, .string { data := #[] }, .string { data := #[] }, .slice none 0 0])]).run Tryz.prog W = .ok (.slice (some ⟨W.heap.size, 0, none⟩) 26 26) (W.alloc (.cells (cellsE PT.stE).toArray 52)) := by kernel_rfl
theorem wants_run (W : World) : (Instr.buildSlice 57 26 #[(0, .int .i64 0), (1, .int .i64 3), (2, .int .i64 0), (3, .int .i64 5), (4, .int .i64 2), (5, .int .i64 3), (6, .int .i64 1), (7, .int .i64 0), (8, .int .i64 0), (9, .int .i64 4), (10, .int .i64 3), (11, .int .i64 3), (12, .int .i64 2), (13, .int .i64 7), (14, .int .i64 0), (15, .int .i64 7), (16, .int .i64 3), (17, .int .i64 4), (18, .int .i64 0), (19, .int .i64 3), (20, .int .i64 6), (21, .int .i64 4), (22, .int .i64 0), (23, .int .i64 2), (24, .int .i64 0), (25, .int .i64 1)]).run Tryz.prog W = .ok (.slice (some ⟨W.heap.size, 0, none⟩) 26 26) (W.alloc (.cells (PT.wantE.map iv).toArray 32)) := by kernel_rfl
set_option maxRecDepth 100000 in
set_option maxHeartbeats 32000000 in
theorem eforms_law (W : World) (hM : Ml W) : Calls Tryz.prog 7 #[] W fun e W' => e = .returned (.bool true) ∧ Below W.heap.size W W' := by
  have h8 := ebegun_any W hM
  have HM := Lib.hid hM
  clear hM
  go_enter Tryz.func7, Tryz.ntmps7
  go_upto_region 5 with (first | (go_at_call 33; go_loud (refine (rnew_any w1).mono ?_; rintro e w2 ⟨v0, rfl, hO0, hB2⟩)) | (go_at_call 19; go_loud (refine h8.mono ?_; rintro e w1 ⟨rfl, hB1⟩)))
  refine wp_buildSlice rfl ?_ (forms_run _) ?_
  · simp only [List.map_toArray, List.map_cons, List.map_nil]
    rfl
  go_upto_region 5 with fail
  have hT0 := hO0.row PT.new_fit
  have hb2 := hB1.trans (hB2.mono hB1.size)
  refine wp_alloc fun w3 hx3 hB3 => ?_
  obtain ⟨G, hG, hx⟩ : ∃ G : Array Value, G.toList = cellsE PT.stE ∧ Bx w3 w2.heap.size 52 G := by
    exact ⟨_, rfl, hx3⟩
  have hb3 := hb2.trans (hB3.mono hb2.size)
  have hT3 := hT0.below hB3
  clear hx3 h8 hO0 hT0 hB1 hB2 hB3 hb2
  go_upto_region 6 with fail
  refine wp_alloc fun w4 hx4 hB4 => ?_
  obtain ⟨H, hH, hy⟩ : ∃ H : Array Value, H.toList = PT.wantE.map iv ∧ Bx w4 w3.heap.size 32 H := by
    exact ⟨_, rfl, hx4⟩
  have hx := hx.on hB4
  have hT4 := hT3.below hB4
  have hb4 := hb3.trans (hB4.mono hb3.size)
  have HCS := Lib.hid (fun V (hV : Below w4.heap.size w4 V) (j : Nat) => ((hx.on hV).cell j).trans (by rw [← Array.getElem?_toList, hG] : G[j]? = (cellsE PT.stE)[j]?))
  have HCW := Lib.hid (fun V (hV : Below w4.heap.size w4 V) (j : Nat) (z : Int) (hz : PT.wantE[j]? = some z) => ((hy.on hV).cell j).trans (by rw [← Array.getElem?_toList, hH, List.getElem?_map, hz]; rfl : H[j]? = some (.int .i64 z)))
  have HT4 := Lib.hid hT4
  have HB4 := Lib.hid hb4
  generalize w2.heap.size = ga at *
  generalize w3.heap.size = gb at *
  clear hx4 hB4 hT3 hb3 hx hy hG hH hT4 hb4
  go_wp2
  go_loopw [1, 4] (fun tv iv wr => ∃ (k : Nat) (t' : List PT.N), k ≤ 26 ∧ iv = .int .i64 (k : Int) ∧ PT.TE[k]? = some t' ∧ Ts wr tv t' ∧ Below w4.heap.size w4 wr) (fun _ iv _ => 26 - (intOf iv).toNat)
  case atStart => exact ⟨0, PT.te0, by decide, rfl, rfl, HT4.out, Below.refl _ _⟩
  case round =>
    obtain ⟨k, t', hk26, rfl, ht, hT, hB⟩ := hrel
    by_cases hlt : k < 26
    · have hd : decide ((k : Int) < 26) = true := by simp; omega
      obtain ⟨s, t2, z, hs, ht2, hz, hap⟩ := PT.step_at hlt ht
      have hfit := of_decide_eq_true (List.all_eq_true.1 PT.st_fit s (List.mem_of_getElem? hs))
      obtain ⟨q0, q1, q2, q3, q4, q5, q6, q7, q8⟩ := ce_at PT.stE k s hs
      have HC := HCS.out wr hB
      have c0 := (HC (k * 9)).trans q0
      have c1 := (HC (k * 9 + 1)).trans q1
      have c2 := (HC (k * 9 + 2)).trans q2
      have c3 := (HC (k * 9 + 3)).trans q3
      have c4 := (HC (k * 9 + 4)).trans q4
      have c5 := (HC (k * 9 + 5)).trans q5
      have c6 := (HC (k * 9 + 6)).trans q6
      have c7 := (HC (k * 9 + 7)).trans q7
      have c8 := (HC (k * 9 + 8)).trans q8
      obtain ⟨kd, md, p, tw⟩ := s
      dsimp only at c0 c3 c5 c6 hfit
      obtain ⟨hkd, hp, htw⟩ := hfit
      have g := PT.te_fine ht
      have hzz : (z != z) = false := by simp
      have HTr := Lib.hid hT
      have HBr := Lib.hid hB
      clear HC q0 q1 q2 q3 q4 q5 q6 q7 q8 hT hB hs ht
      go_upto_region 11 with fail
      refine wp_alloc fun w5 hx5 hB5 => ?_
      have HB3 := Lib.hid (HBr.out.trans (hB5.mono HBr.out.size))
      have HT5 := Lib.hid (HTr.out.below hB5)
      have HM5 := Lib.hid (HM.out.below (HB4.out.trans (HB3.out.mono HB4.out.size)))
      have d0 := hx5.cell 0
      have d3 := hx5.cell 3
      have d5 := hx5.cell 5
      have d6 := hx5.cell 6
      simp at d0 d3 d5 d6
      generalize wr.heap.size = gx at *
      clear hx5 hB5 c0 c1 c2 c3 c4 c5 c6 c7 c8
      rcases hkd with hk | hk | hk | hk
      · subst hk
        have hst : PT.appE t' (1, md, p, tw) = (t2, z) := hap
        simp only [PT.appE] at hst
        simp at hst
        have hop := emakeV u1 t' false p md 6 0 _ HM5.out HT5.out g hp
        rw [hst] at hop
        dsimp only at hop
        have HOP := Lib.hid hop
        clear hop hst hap
        go_wp2_with (go_at_call 24; go_loud (refine HOP.out.mono ?_; rintro e w4 ⟨v4, rfl, hT4, hB4⟩; have hcw := HCW.out _ (HB3.out.trans (hB4.mono HB3.out.size)) k z hz))
        go_roundw
        case rel => exact ⟨k + 1, t2, by omega, by go_num, ht2, hT4, HB3.out.trans (hB4.mono HB3.out.size)⟩
        case measure => simp [intOf]; omega
        
      · subst hk
        have hst : PT.appE t' (2, md, p, tw) = (t2, z) := hap
        simp only [PT.appE] at hst
        simp at hst
        have hop := elinkV u1 t' false p tw _ HM5.out HT5.out g hp htw
        rw [hst] at hop
        dsimp only at hop
        have HOP := Lib.hid hop
        clear hop hst hap
        go_wp2_with (go_at_call 27; go_loud (refine HOP.out.mono ?_; rintro e w4 ⟨v4, rfl, hT4, hB4⟩; have hcw := HCW.out _ (HB3.out.trans (hB4.mono HB3.out.size)) k z hz))
        go_roundw
        case rel => exact ⟨k + 1, t2, by omega, by go_num, ht2, hT4, HB3.out.trans (hB4.mono HB3.out.size)⟩
        case measure => simp [intOf]; omega
        
      · subst hk
        have hst : PT.appE t' (3, md, p, tw) = (t2, z) := hap
        simp only [PT.appE] at hst
        simp at hst
        have hop := edropV u1 t' false p _ HM5.out HT5.out g hp
        rw [hst] at hop
        dsimp only at hop
        have HOP := Lib.hid hop
        clear hop hst hap
        go_wp2_with (go_at_call 31; go_loud (refine HOP.out.mono ?_; rintro e w4 ⟨v4, rfl, hT4, hB4⟩; have hcw := HCW.out _ (HB3.out.trans (hB4.mono HB3.out.size)) k z hz))
        go_roundw
        case rel => exact ⟨k + 1, t2, by omega, by go_num, ht2, hT4, HB3.out.trans (hB4.mono HB3.out.size)⟩
        case measure => simp [intOf]; omega
        
      · subst hk
        have hst : PT.appE t' (4, md, p, tw) = (t2, z) := hap
        simp only [PT.appE] at hst
        simp at hst
        have hop := emoveV u1 t' false p tw _ HM5.out HT5.out g hp htw
        rw [hst] at hop
        dsimp only at hop
        have HOP := Lib.hid hop
        clear hop hst hap
        go_wp2_with (go_at_call 29; go_loud (refine HOP.out.mono ?_; rintro e w4 ⟨v4, rfl, hT4, hB4⟩; have hcw := HCW.out _ (HB3.out.trans (hB4.mono HB3.out.size)) k z hz))
        go_roundw
        case rel => exact ⟨k + 1, t2, by omega, by go_num, ht2, hT4, HB3.out.trans (hB4.mono HB3.out.size)⟩
        case measure => simp [intOf]; omega
        
    · have hd : decide ((k : Int) < 26) = false := by simp; omega
      have hk : k = 26 := by omega
      have htt : t' = PT.te7 := by
        rw [hk] at ht
        have : PT.TE[26]? = some PT.te7 := rfl
        rw [this] at ht
        injection ht with ht
        exact ht.symm
      subst htt
      have g := PT.te_fine ht
      obtain ⟨e1, e2, e3, e4, e5⟩ := PT.forms_end
      have f1 := fun V (h : Ts V u1 PT.te7) => rtfind_any u1 PT.te7 { data := #[47, 98, 47, 103] } false V h g (by decide)
      have f2 := fun z1 z2 V (hm : Ml V) (h : Ts V u1 PT.te7) => emakeV u1 PT.te7 false { data := #[47, 113] } 1 z1 z2 V hm h g (by decide)
      have m1 := f2 0 4
      have m2 := f2 256 0
      have m3 := f2 0 5
      have l1 := fun V (h : Ts V u1 PT.te7) => rlinks_any u1 PT.te7 3 V h
      rw [e1] at f1
      rw [e2] at m1
      rw [e3] at m2
      rw [e4] at m3
      rw [e5] at l1
      have F1 := Lib.hid f1
      have M1 := Lib.hid m1
      have M2 := Lib.hid m2
      have M3 := Lib.hid m3
      have L1 := Lib.hid l1
      have HTr := Lib.hid hT
      have HBr := Lib.hid (HB4.out.trans (hB.mono HB4.out.size))
      clear f1 f2 m1 m2 m3 l1 e1 e2 e3 e4 e5 hT hB ht hk g
      go_wp2_with (first
        | (go_at_call 38; go_loud (refine (L1.out _ (HTr.out.below hb9)).mono ?_; rintro e w10 ⟨rfl, hB10⟩))
        | (go_at_call 24; refine (M3.out _ (HM.out.below (HBr.out.trans (hb8.mono HBr.out.size))) (HTr.out.below hb8)).mono ?_; rintro e w9 ⟨v9, rfl, hT9, hB9⟩; have hb9 := hb8.trans (hB9.mono hb8.size))
        | (go_at_call 24; refine (M2.out _ (HM.out.below (HBr.out.trans (hb7.mono HBr.out.size))) (HTr.out.below hb7)).mono ?_; rintro e w8 ⟨v8, rfl, hT8, hB8⟩; have hb8 := hb7.trans (hB8.mono hb7.size))
        | (go_at_call 24; go_loud (refine (M1.out _ (HM.out.below (HBr.out.trans (hB6.mono HBr.out.size))) (HTr.out.below hB6)).mono ?_; rintro e w7 ⟨v7, rfl, hT7, hB7⟩; have hb7 := hB6.trans (hB7.mono hB6.size)))
        | (go_at_call 37; go_loud (refine (F1.out _ HTr.out).mono ?_; rintro e w6 ⟨rfl, hB6⟩)))
      go_ret
      exact ⟨rfl, HBr.out.trans ((hb9.trans (hB10.mono hb9.size)).mono HBr.out.size)⟩
end Go.Proofs.YtdnobplhfbgbaaaGreatDoor
