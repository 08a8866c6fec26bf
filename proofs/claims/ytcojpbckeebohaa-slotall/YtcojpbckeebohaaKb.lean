/-
  A box of cells; 'append' of noughts onto one's own; a string made bytes.
-/
import Derived.Test.YtcojpbckeebohaaKa
import Derived.Test.YtcojpbckeebohaaRg
import Derived.Lib.AppendZerosOnto
import Derived.Laws.IdiomStrings
import Derived.Laws.StructEq
import Derived.RegionTactic
import Derived.ChangeAlike
import Derived.Deep.QuietTactic
import Derived.BigQuiet
import Derived.Deep.DeepCutAuto
namespace Go.Proofs.Ytcojpbckeebohaa
open Go.RowKit Go.Joins

/-- Block g is just the cells cs of type t, none of them frozen. -/
def Bx (w : World) (g : Nat) (t : TypeId) (cs : Array Value) : Prop := w.heap[g]? = some (.cells cs t (0, 0))
theorem Bx.lt {w : World} {g : Nat} {t : TypeId} {cs : Array Value} (h : Bx w g t cs) : g < w.heap.size := by
  unfold Bx at h
  rcases Nat.lt_or_ge g w.heap.size with hl | hl
  · exact hl
  · rw [Array.getElem?_eq_none hl] at h; cases h
theorem Bx.below {w w' : World} {g : Nat} {t : TypeId} {cs : Array Value} {B : Nat} (h : Bx w g t cs) (hb : Below B w w') (hg : g < B) : Bx w' g t cs := (hb.block g hg).trans h
theorem Bx.on {w w' : World} {g : Nat} {t : TypeId} {cs : Array Value} (h : Bx w g t cs) (hb : Below w.heap.size w w') : Bx w' g t cs := h.below hb h.lt
theorem Bx.new (w : World) (t : TypeId) (cs : Array Value) : Bx (w.alloc (.cells cs t)) w.heap.size t cs := heap_alloc_new w _
theorem Bx.alloc {w : World} {g : Nat} {t : TypeId} {cs : Array Value} (h : Bx w g t cs) (o : Obj) : Bx (w.alloc o) g t cs := (Below.heap_alloc w o g h.lt).trans h
theorem Bx.set {w : World} {g : Nat} {t : TypeId} {cs : Array Value} (h : Bx w g t cs) (i : Nat) (u : Value) : Bx (w.setCell ⟨g, i, none⟩ u) g t (cs.setIfInBounds i u) := by
  unfold Bx at h ⊢
  simp [World.setCell, Array.getElem?_modify, h]
theorem Bx.far {w : World} {g : Nat} {t : TypeId} {cs : Array Value} (h : Bx w g t cs) {p : Addr} (hp : g ≠ p.block) (u : Value) : Bx (w.setCell p u) g t cs := (Below.heap_setCell w p u g hp).trans h
theorem Bx.cell {w : World} {g : Nat} {t : TypeId} {cs : Array Value} (h : Bx w g t cs) (i : Nat) : w.cell? ⟨g, i, none⟩ = cs[i]? := by
  unfold Bx at h
  simp [World.cell?, h]
theorem Bx.frozen {w : World} {g : Nat} {t : TypeId} {cs : Array Value} (h : Bx w g t cs) (i : Nat) : w.frozen? ⟨g, i, none⟩ = false := by
  unfold Bx at h
  simp [World.frozen?, h]
theorem Bx.two {w : World} {g : Nat} {t : TypeId} {a b : Value} (h : Bx w g t #[a, b]) :
    w.cell? ⟨g, 0, none⟩ = some a ∧ w.cell? ⟨g, 1, none⟩ = some b ∧ w.frozen? ⟨g, 0, none⟩ = false ∧ w.frozen? ⟨g, 1, none⟩ = false :=
  ⟨h.cell 0, h.cell 1, h.frozen 0, h.frozen 1⟩
theorem Bx.three {w : World} {g : Nat} {t : TypeId} {a b c : Value} (h : Bx w g t #[a, b, c]) :
    w.cell? ⟨g, 0, none⟩ = some a ∧ w.cell? ⟨g, 1, none⟩ = some b ∧ w.cell? ⟨g, 2, none⟩ = some c ∧
    w.frozen? ⟨g, 0, none⟩ = false ∧ w.frozen? ⟨g, 1, none⟩ = false ∧ w.frozen? ⟨g, 2, none⟩ = false :=
  ⟨h.cell 0, h.cell 1, h.cell 2, h.frozen 0, h.frozen 1, h.frozen 2⟩
theorem below_set3 {w0 w : World} {B : Nat} (h : Below B w0 w) {g : Nat} (hg : B ≤ g) (a b c : Value) :
    Below B w0 (((w.setCell ⟨g, 0, none⟩ a).setCell ⟨g, 1, none⟩ b).setCell ⟨g, 2, none⟩ c) :=
  ((h.setCell (p := ⟨g, 0, none⟩) hg a).setCell (p := ⟨g, 1, none⟩) hg b).setCell (p := ⟨g, 2, none⟩) hg c
theorem Bx.put3 {w : World} {g : Nat} {t : TypeId} {x y z : Value} (h : Bx w g t #[x, y, z]) (a b c : Value) : Bx (((w.setCell ⟨g, 0, none⟩ a).setCell ⟨g, 1, none⟩ b).setCell ⟨g, 2, none⟩ c) g t #[a, b, c] :=
  ((h.set 0 a).set 1 b).set 2 c
theorem Bx.far3 {w : World} {g k : Nat} {t : TypeId} {cs : Array Value} (h : Bx w g t cs) (hk : g ≠ k) (a b c : Value) : Bx (((w.setCell ⟨k, 0, none⟩ a).setCell ⟨k, 1, none⟩ b).setCell ⟨k, 2, none⟩ c) g t cs :=
  ((h.far (p := ⟨k, 0, none⟩) hk a).far (p := ⟨k, 1, none⟩) hk b).far (p := ⟨k, 2, none⟩) hk c

theorem zeros_cells (k : Nat) : (Builtin.zeroCells (Value.int .u8 0).cells k).toList = (List.replicate k 0).map bv := by
  simp [Builtin.zeroCells, Value.cells, bv, List.eq_replicate_iff, Nat.mod_one]

/-- 'append(b, make([]byte, k)...)' onto a text of one's own. -/
theorem run_append_zeros (w : World) (base : Nat) (ty : TypeId) (v : Value) (bs : List Nat) (k : Nat) (hO : Ow w base v bs) (h0 : 0 < k) (hm : bs.length + k ≤ 1048576) (hbase : base ≤ w.heap.size) :
    ∃ v' w', (Builtin.append_ #[30, 3] ty #[v, .int .i64 (k : Int)]).run Try.prog w = .ok v' w' ∧ Ow w' base v' (bs ++ List.replicate k 0) ∧ Below base w w' := by
  obtain ⟨i0, hi, hz0, hz1, hz2⟩ := info_parts Try.info5
  obtain ⟨⟨hl, hrow⟩, hb⟩ := hO
  have hl' : bs.length = bs.length * 1 := by omega
  have hall : ∀ b ∈ bs ++ List.replicate k 0, b < 256 := by
    intro b hb'
    rcases List.mem_append.1 hb' with h | h
    · exact hb b h
    · rw [(List.mem_replicate.1 h).2]; decide
  have hnl : (bs ++ List.replicate k 0).length = bs.length + k := by simp
  have hmap : (bs ++ List.replicate k 0).map bv = bs.map bv ++ (List.replicate k 0).map bv := by simp
  by_cases hroom : ∃ g cap cur, v = .slice (some ⟨g, 0, none⟩) bs.length cap ∧ base ≤ g ∧ w.heap[g]? = some (.cells cur 5 (0, 0)) ∧ bs.length ≤ cap ∧ cap ≤ maxLen ∧ cur.size = cap * 1 ∧ cur.toList.take (bs.length * 1) = bs.map bv ∧ bs.length + k ≤ cap
  · obtain ⟨g, cap, cur, rfl, hg, hh, hn, hcm, hcs, ht, hr⟩ := hroom
    have hst := run_storeCells_at Try.prog g (bs.length * 1) 5 ((List.replicate k 0).map bv) 0 cur w hh (by simp; omega) (bytes_one _)
    simp only [Nat.add_zero] at hst
    have hk : k ≠ 0 := by omega
    have hw : IntKind.i64.wrap (k : Int) = k := by rw [IntKind.wrap_i64]; omega
    have h48i : ¬ (281474976710656 < (k : Int)) := by omega
    have hneg : ¬ ((k : Int) < 0) := by omega
    have hz := zeros_cells k
    refine ⟨.slice (some ⟨g, 0, none⟩) (bs.length + k) cap, w.setRow g (cur.toList.take (bs.length * 1) ++ (List.replicate k 0).map bv ++ cur.toList.drop (bs.length * 1 + ((List.replicate k 0).map bv).length)).toArray, ?_, ⟨?_, hall⟩, ?_⟩
    · simp only [Nat.mul_one, List.map_replicate] at hst hz
      simp [Builtin.append_, run_underlying Try.underlying30, run_underlying Try.underlying3, sizeOf, typeInfo, zeroValue, hi, hz0, hz1, hz2, asInt, asIntOf, hw, hneg, h48i, hk, hr, hz, Addr.add_lit, hst]
    · rw [hnl, hmap]
      refine ⟨by simp, .inr ⟨g, cap, _, rfl, hg, setRow_heap w g cur _ 5 _ hh, hr, hcm, ?_, ?_⟩⟩
      · simp only [List.size_toArray, List.length_append, List.length_take, List.length_drop, Array.length_toList, List.length_map, List.length_replicate]
        omega
      · rw [ht]
        have : (bs.map bv ++ (List.replicate k 0).map bv).length = (bs.length + k) * 1 := by simp
        rw [← this]
        exact List.take_left
    · exact (Below.refl base w).grown (row := some g) ⟨rfl, rfl, rfl, by simp, fun j _ hj => setRow_other w g j _ (fun e => hj (by rw [e]))⟩ hbase (fun j hj => by injection hj with hj; omega)
  · have hgen : ∃ (A : Option Addr) (cap : Nat), v = .slice A bs.length cap ∧ cap < bs.length + k ∧ (Builtin.firstCells i0.size bs.length (.slice A bs.length cap)).run Try.prog w.drew = .ok (bs.map bv).toArray w.drew := by
      rcases hrow with ⟨rfl, hn⟩ | ⟨g, cap, cur, rfl, hg, hh, hn, hcm, hcs, ht⟩
      · have hb0 : bs = [] := List.eq_nil_of_length_eq_zero hn
        subst hb0
        exact ⟨none, 0, rfl, by simpa using h0, by simp [Builtin.firstCells]⟩
      · refine ⟨_, cap, rfl, ?_, ?_⟩
        · rcases Nat.lt_or_ge cap (bs.length + k) with h | h
          · exact h
          · exact absurd ⟨g, cap, cur, rfl, hg, hh, hn, hcm, hcs, ht, h⟩ hroom
        · rw [hz1]
          refine run_firstCells_some (P := Try.prog) w.drew 1 bs.length ⟨g, 0, none⟩ bs.length cap (bs.map bv) hl fun j u hj => ?_
          have hj' : (bs.map bv)[j]? = cur[j]? := by
            have hlt : j < (bs.map bv).length := (List.getElem?_eq_some_iff.1 hj).1
            rw [← ht, List.getElem?_take, if_pos (by simpa using hlt)]; simp
          rw [hj'] at hj
          have hd : w.drew.heap[g]? = some (.cells cur 5 (0, 0)) := hh
          simp [World.cell?, Addr.add_lit, hd, hj]
    obtain ⟨A, cap, rfl, hlt, hfirst⟩ := hgen
    have hr := Lib.run_append_grow_zeros (P := Try.prog) w 30 3 ty 5 i0 (.int .u8 0) .i64 .i64 Try.underlying30 Try.underlying3 hi hz0 A bs.length cap (bs.map bv) hfirst k h0 (by omega) hlt (by omega) (by rw [hz2]; omega)
      (growslice_fits (by omega) (by rw [hz2]; omega))
    refine ⟨_, _, hr, ⟨?_, hall⟩, ?_⟩
    · rw [hnl, hmap]
      have hge := grownCap_ge w (bs.length + k) cap 5
      have hcm := grownCap_le_maxLen w (bs.length + k) cap 5 (by unfold maxLen; omega)
      refine ⟨by simp, .inr ⟨w.heap.size, _, _, rfl, hbase, heap_alloc_new w.drew _, hge, hcm, ?_, ?_⟩⟩
      · have hz1' : (Value.int IntKind.u8 0).cells.size = 1 := rfl
        simp only [Array.size_append, List.size_toArray, size_zeroCells, hz1', List.length_map]
        omega
      · rw [Array.toList_append, Array.toList_append, zeros_cells k]
        have : (bs.map bv ++ (List.replicate k 0).map bv).length = (bs.length + k) * 1 := by simp
        rw [← this]
        exact List.take_left
    · exact ((Below.refl base w).drew).alloc (by simpa using hbase) _
end Go.Proofs.Ytcojpbckeebohaa
