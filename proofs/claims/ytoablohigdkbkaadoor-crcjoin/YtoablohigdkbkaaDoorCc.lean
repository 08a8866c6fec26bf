/-
  The contract of crc.Sum, and of the document's answer.
-/
import Derived.Test.YtoablohigdkbkaaDoorCb
import Derived.Deep.LoopGhost
namespace Go.Proofs.YtoablohigdkbkaaDoor
open Go.RowKit

/-- v is the row of texts ts. -/
def Ls (w : World) (v : Value) (ts : List (List Nat)) : Prop :=
  ∃ vs : List Value, Sl w 1 v ts.length vs ∧ (∀ (k : Nat) (t : List Nat), ts[k]? = some t → ∃ u, vs[k]? = some u ∧ Tx w u t) ∧ ts.length < 4294967296
theorem Ls.below {w w' : World} {v : Value} {ts : List (List Nat)} (h : Ls w v ts) (hb : Below w.heap.size w w') : Ls w' v ts := by
  obtain ⟨vs, h1, h2, h3⟩ := h
  refine ⟨vs, h1.below hb, fun k t hk => ?_, h3⟩
  obtain ⟨u, hu, hx⟩ := h2 k t hk
  exact ⟨u, hu, hx.below hb⟩

theorem Tx.lt {w : World} {v : Value} {bs : List Nat} (h : Tx w v bs) : ∀ b ∈ bs, b < 256 := h.2.1

theorem flat_lt {w : World} {vs : List Value} {ts : List (List Nat)} (h : ∀ (k : Nat) (t : List Nat), ts[k]? = some t → ∃ u, vs[k]? = some u ∧ Tx w u t) (k : Nat) : ∀ b ∈ (ts.take k).flatten, b < 256 := by
  intro b hb
  obtain ⟨t, ht, hbt⟩ := List.mem_flatten.1 hb
  obtain ⟨j, hj⟩ := List.getElem?_of_mem (List.mem_of_mem_take ht)
  obtain ⟨u, _, hx⟩ := h j t hj
  exact hx.lt b hbt

theorem ends (x : Nat) (h : x < 4294967296) : bits .xor .u32 (x : Int) 4294967295 = ((4294967295 - x : Nat) : Int) := by
  have := u32_xor_nat x 4294967295 h (by decide)
  rw [show ((4294967295 : Nat) : Int) = 4294967295 from rfl] at this
  rw [this, PlainCrc.flip x h]

theorem ends' (x : Nat) (h : x < 4294967296) : bits .xor .u32 IntKind.u32.max (x : Int) = ((4294967295 - x : Nat) : Int) := by
  have := u32_xor_nat 4294967295 x (by decide) h
  rw [show IntKind.u32.max = ((4294967295 : Nat) : Int) by decide]
  rw [this, Nat.xor_comm, PlainCrc.flip x h]

theorem fold_next (c : Nat) (ts : List (List Nat)) (k : Nat) (t : List Nat) (h : ts[k]? = some t) : PlainCrc.fold c (ts.take (k + 1)).flatten = PlainCrc.fold (PlainCrc.fold c (ts.take k).flatten) t := by
  rw [List.take_add_one, h, ← PlainCrc.fold_append]
  simp

set_option maxHeartbeats 1000000 in
theorem sum_any (v : Value) (ts : List (List Nat)) (w : World) (hT : Tab w) (h : Ls w v ts) :
    Calls Tryd.prog 9 #[v] w fun e w' => e = .returned (.int .u32 ((PlainCrc.sum ts.flatten : Nat) : Int)) ∧ w = w' := by
  obtain ⟨vs, ⟨A, cp, rfl, hl, hA⟩, ht, hm⟩ := h
  go_enter Tryd.func9, Tryd.ntmps9
  go_wp2
  go_loop [3, 8] (fun cc i => ∃ k : Nat, k ≤ ts.length ∧ i = .int .i64 k ∧ cc = .int .u32 ((PlainCrc.fold 4294967295 (ts.take k).flatten : Nat) : Int)) (fun _ i => ts.length - (intOf i).toNat)
  case atStart => exact ⟨0, Nat.zero_le _, rfl, rfl⟩
  case round =>
    obtain ⟨k, hk, rfl, rfl⟩ := hrel
    have hf : PlainCrc.fold 4294967295 (ts.take k).flatten < 4294967296 := PlainCrc.fold_lt _ _ (by decide) (flat_lt ht k)
    by_cases hlt : k < ts.length
    · obtain ⟨b0, o, rfl, _, hcell⟩ := hA (by omega)
      obtain ⟨t, hkt⟩ : ∃ t, ts[k]? = some t := ⟨_, List.getElem?_eq_getElem hlt⟩
      obtain ⟨u, hu, hx⟩ := ht k t hkt
      have hg := (hcell k (by omega)).trans hu
      have hnext := fold_next 4294967295 ts k t hkt
      generalize PlainCrc.fold 4294967295 (ts.take k).flatten = x at hf hnext ⊢
      clear hcell hA ht
      go_wp2_with fail
      refine (over_any x hf u t w hT hx).mono ?_
      rintro e w' ⟨rfl, rfl⟩
      go_wp2
      go_round
      case rel => exact ⟨k + 1, by omega, by go_num, by rw [hnext]⟩
      case measure => simp [intOf]; omega
    · have hkl : k = ts.length := by omega
      subst hkl
      rw [List.take_length] at hf ⊢
      have he := ends _ hf
      clear hA hT ht
      go_wp2
      go_ret
      exact ⟨rfl, rfl⟩

end Go.Proofs.YtoablohigdkbkaaDoor
