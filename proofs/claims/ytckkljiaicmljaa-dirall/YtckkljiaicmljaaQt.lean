/-
  A row of entries that came in, however long; a string made bytes.
-/
import Derived.Test.YtckkljiaicmljaaQs
import Derived.Test.YtckkljiaicmljaaQj
import Derived.Test.YtckkljiaicmljaaQo
namespace Go.Proofs.Ytckkljiaicmljaa
open Go.RowKit Go.Joins

namespace PD
theorem less_fit {l : List E} {n : ByteArray} (h : Fit l) : Fit (less l n) := by
  rw [less]
  split
  · refine ⟨fun e he => ?_, by have := h.2; simp; omega⟩
    rcases List.mem_append.1 he with he | he
    · exact h.1 e (List.mem_of_mem_take he)
    · exact h.1 e (List.mem_of_mem_drop he)
  · exact h
end PD
/-- A row of entries, however long. -/
def Ez (w : World) (v : Value) (l : List E) : Prop := Sl w 2 v l.length (cs l) ∧ ∀ e ∈ l, I64 e.2
theorem Ez.below {w w' : World} {v : Value} {l : List E} (h : Ez w v l) (hb : Below w.heap.size w w') : Ez w' v l := ⟨h.1.below hb, h.2⟩
theorem Ez.form {w : World} {v : Value} {l : List E} (h : Ez w v l) : ∃ A c, v = .slice A l.length c := by
  obtain ⟨⟨A, c, hv, _⟩, _⟩ := h
  exact ⟨A, c, hv⟩
theorem Ez.fit {w : World} {v : Value} {l : List E} (h : Ez w v l) (h8 : l.length ≤ 8) (h12 : ∀ e ∈ l, e.1.size ≤ 12) : Es w v l :=
  ⟨h.1, fun e he => ⟨by have := h12 e he; omega, h.2 e he⟩, by omega⟩
theorem Ez.at {w : World} {A : Option Addr} {n c : Nat} {l : List E} (h : Ez w (.slice A n c) l) (h0 : 0 < l.length) : ∃ b o, A = some ⟨b, o, none⟩ ∧ b < w.heap.size ∧ ∀ j x, l[j]? = some x → w.cell? ⟨b, o + j * 2, none⟩ = some (.string x.1) ∧ w.cell? ⟨b, o + j * 2 + 1, none⟩ = some (.int .i64 x.2) := by
  obtain ⟨A', c', hv, hl, hA⟩ := h.1
  injection hv with e1 e2 e3
  subst e1
  obtain ⟨b, o, e, hb, hc⟩ := hA h0
  refine ⟨b, o, e, hb, fun j x hj => ?_⟩
  have hlt : j < l.length := (List.getElem?_eq_some_iff.1 hj).1
  obtain ⟨c1, c2⟩ := cs_at l j x hj
  refine ⟨(hc _ (by omega)).trans c1, ?_⟩
  rw [Nat.add_assoc]
  exact (hc _ (by omega)).trans c2

/-- Block g begins with the text bs; it is the row that a string was made. -/
def Mk (w : World) (g : Nat) (bs : List Nat) : Prop := ∃ cs : Array Value, w.heap[g]? = some (.cells cs 5 (cs.size, cs.size + 1)) ∧ bs.length ≤ cs.size ∧ cs.toList.take bs.length = bs.map bv
theorem Mk.lt {w : World} {g : Nat} {bs : List Nat} (h : Mk w g bs) : g < w.heap.size := by
  obtain ⟨cs, h, _⟩ := h
  rcases Nat.lt_or_ge g w.heap.size with hl | hl
  · exact hl
  · rw [Array.getElem?_eq_none hl] at h; cases h
theorem Mk.cell {w : World} {g : Nat} {bs : List Nat} (h : Mk w g bs) {i x : Nat} (hi : bs[i]? = some x) : w.cell? ⟨g, i, none⟩ = some (.int .u8 (x : Int)) := by
  obtain ⟨cs, h, hl, ht⟩ := h
  have hlt : i < bs.length := (List.getElem?_eq_some_iff.1 hi).1
  have : (bs.map bv)[i]? = cs[i]? := by rw [← ht, List.getElem?_take, if_pos hlt]; simp
  rw [List.getElem?_map, hi] at this
  simp [World.cell?, h, ← this, bv]
theorem Mk.frozen {w : World} {g : Nat} {bs : List Nat} (h : Mk w g bs) {i : Nat} (hi : i < bs.length) : w.frozen? ⟨g, i, none⟩ = false := by
  obtain ⟨cs, h, hl, ht⟩ := h
  simp [World.frozen?, h]
  omega
theorem Mk.tx {w : World} {g : Nat} {bs : List Nat} (h : Mk w g bs) (hb : ∀ b ∈ bs, b < 256) (hm : bs.length ≤ 1048576) (n c : Nat) (hn : bs.length = n) : Tx w (.slice (some ⟨g, 0, none⟩) n c) bs := by
  subst hn
  refine ⟨⟨_, c, rfl, by simp, fun _ => ⟨g, 0, rfl, h.lt, fun j hj => ?_⟩⟩, hb, hm⟩
  have hj' : j < bs.length := by omega
  rw [Nat.zero_add, h.cell (List.getElem?_eq_getElem hj')]
  simp [hj', bv]
theorem Mk.set {w : World} {g : Nat} {bs : List Nat} (h : Mk w g bs) (i x : Nat) : Mk (w.setCell ⟨g, i, none⟩ (.int .u8 (x : Int))) g (bs.set i x) := by
  obtain ⟨cs, h, hl, ht⟩ := h
  refine ⟨cs.setIfInBounds i (.int .u8 (x : Int)), ?_, by simpa using hl, ?_⟩
  · simp [World.setCell, Array.getElem?_modify, h]
  · rw [List.length_set, Array.toList_setIfInBounds, List.take_set, ht, List.map_set]
    rfl
theorem to_bytes (s : ByteArray) (w : World) : ∃ g c w', (convert 9 22 (.string s)).run Try.prog w = .ok (.slice (some ⟨g, 0, none⟩) s.size c) w' ∧ w.heap.size ≤ g ∧ s.size ≤ c ∧ Mk w' g (nums s) ∧ Below w.heap.size w w' := by
  refine ⟨_, _, _, run_bytes_of_string w 9 22 5 s Try.underlying9 Try.underlying22 Try.underlying5, Nat.le_refl _, grownCap_ge w s.size 0 5, ⟨_, heap_alloc_new w.drew _, ?_, ?_⟩, ((Below.refl _ w).drew).alloc (Nat.le_refl _) _⟩
  · rw [nums_length, bytesRow, Array.size_append, Array.size_map]
    exact Nat.le_add_right _ _
  · rw [bytesRow, Array.toList_append, Array.toList_map]
    have hl : (s.data.toList.map fun b => Value.int .u8 (b.toNat : Int)).length = (nums s).length := by simp [nums]
    rw [← hl, List.take_left]
    simp [nums, bv, List.map_map, Function.comp_def]
end Go.Proofs.Ytckkljiaicmljaa
