/-
  The plain words for memory, and the contract of crc.over.
-/
import Derived.Test.YtoablohigdkbkaaDoorRows
import Derived.Test.YtoablohigdkbkaaDoorCa
import Derived.WalkKit
import Derived.WalkSpells
import Derived.WalkLawsBesides
import Derived.Lib.Hide
import Derived.Laws.BitsAll
namespace Go.Proofs.YtoablohigdkbkaaDoor
open Go.RowKit

/-- The slice value v has n elements of 'size' cells each; the cells are xs; they lie in a block that is there. -/
def Sl (w : World) (size : Nat) (v : Value) (n : Nat) (xs : List Value) : Prop :=
  ∃ A c, v = .slice A n c ∧ xs.length = n * size ∧ (0 < n → ∃ b o, A = some ⟨b, o, none⟩ ∧ b < w.heap.size ∧ ∀ j, j < n * size → w.cell? ⟨b, o + j, none⟩ = xs[j]?)

theorem Sl.keep {w w' : World} {size : Nat} {v : Value} {n : Nat} {xs : List Value} (h : Sl w size v n xs) (hs : w.heap.size ≤ w'.heap.size) (hk : ∀ p : Addr, p.block < w.heap.size → w'.cell? p = w.cell? p) : Sl w' size v n xs := by
  obtain ⟨A, c, rfl, hl, h⟩ := h
  refine ⟨A, c, rfl, hl, fun hn => ?_⟩
  obtain ⟨b, o, hA, hb, hc⟩ := h hn
  exact ⟨b, o, hA, by omega, fun j hj => (hk _ hb).trans (hc j hj)⟩

theorem Sl.below {w w' : World} {size : Nat} {v : Value} {n : Nat} {xs : List Value} (h : Sl w size v n xs) (hb : Below w.heap.size w w') : Sl w' size v n xs :=
  h.keep hb.size fun _ hp => hb.cell hp

theorem Sl.own {w : World} {base : Nat} {e : TypeId} {size : Nat} {v : Value} {n : Nat} {xs : List Value} (h : w.ownsRow base e size v n xs) : Sl w size v n xs := by
  obtain ⟨hl, h⟩ := h
  rcases h with ⟨rfl, rfl⟩ | ⟨g, cap, cur, rfl, hb, hh, hn, hm, hs, ht⟩
  · exact ⟨_, _, rfl, hl, fun h => absurd h (by omega)⟩
  · refine ⟨_, _, rfl, hl, fun _ => ⟨g, 0, rfl, ?_, fun j hj => ?_⟩⟩
    · rcases Nat.lt_or_ge g w.heap.size with h | h
      · exact h
      · rw [Array.getElem?_eq_none h] at hh; cases hh
    · have hx : xs[j]? = cur[j]? := by
        rw [← ht, List.getElem?_take, if_pos (by omega)]; simp
      rw [hx]
      simp [World.cell?, hh]

/-- A byte's cell. -/
def bv (b : Nat) : Value := .int .u8 (b : Int)
/-- v is the text bs. -/
def Tx (w : World) (v : Value) (bs : List Nat) : Prop := Sl w 1 v bs.length (bs.map bv) ∧ (∀ b ∈ bs, b < 256) ∧ bs.length < 4294967296
theorem Tx.below {w w' : World} {v : Value} {bs : List Nat} (h : Tx w v bs) (hb : Below w.heap.size w w') : Tx w' v bs := ⟨h.1.below hb, h.2⟩

/-- The table lies in its variable. -/
def Tab (w : World) : Prop := 0 < w.heap.size ∧ ∀ i, i < 16 → w.cell? ⟨0, i, none⟩ = some (.int .u32 ((PlainCrc.tabAt i : Nat) : Int))
theorem Tab.below {w w' : World} (h : Tab w) (hb : Below w.heap.size w w') : Tab w' := ⟨Nat.lt_of_lt_of_le h.1 hb.size, fun i hi => (hb.cell h.1).trans (h.2 i hi)⟩

theorem and15 (x : Nat) (h : x < 4294967296) : bits .and .u32 (x : Int) 15 = ((x % 16 : Nat) : Int) := by
  have := u32_and_nat x 15 h (by decide)
  rw [show ((15 : Nat) : Int) = 15 from rfl] at this
  rw [this, show (15 : Nat) = 2 ^ 4 - 1 from rfl, Nat.and_two_pow_sub_one_eq_mod]

theorem xnib (y : Nat) (h : y < 4294967296) : bits .xor .u32 ((y : Int) / 16) ((PlainCrc.tabAt (y % 16) : Nat) : Int) = ((PlainCrc.nib y : Nat) : Int) := by
  have := u32_xor_nat (y / 16) (PlainCrc.tabAt (y % 16)) (by omega) (PlainCrc.tab_lt _)
  rw [PlainCrc.nib, ← this]
  congr 1

set_option maxHeartbeats 1000000 in
theorem over_any (c : Nat) (hc : c < 4294967296) (v : Value) (bs : List Nat) (w : World) (hT : Tab w) (h : Tx w v bs) :
    Calls Tryd.prog 11 #[.int .u32 (c : Int), v] w fun e w' => e = .returned (.int .u32 ((PlainCrc.fold c bs : Nat) : Int)) ∧ w = w' := by
  obtain ⟨⟨A, cp, rfl, hl, hA⟩, hb, hm⟩ := h
  go_enter Tryd.func11, Tryd.ntmps11
  go_wp2
  go_loop [0, 9] (fun cc i => ∃ k : Nat, k ≤ bs.length ∧ i = .int .i64 k ∧ cc = .int .u32 ((PlainCrc.fold c (bs.take k) : Nat) : Int)) (fun _ i => bs.length - (intOf i).toNat)
  case atStart => exact ⟨0, Nat.zero_le _, rfl, rfl⟩
  case round =>
    obtain ⟨k, hk, rfl, rfl⟩ := hrel
    by_cases hlt : k < bs.length
    · obtain ⟨b0, o, rfl, _, hcell⟩ := hA (by omega)
      have hbk : bs[k]? = some (bs.getD k 0) := by simp [List.getD, hlt]
      have hg := hcell k (by omega)
      rw [List.getElem?_map, hbk, Option.map_some, bv] at hg
      have hb256 : bs.getD k 0 < 256 := by
        have : bs.getD k 0 ∈ bs := List.mem_of_getElem? hbk
        exact hb _ this
      have hf : PlainCrc.fold c (bs.take k) < 4294967296 := PlainCrc.fold_lt _ _ hc (fun x hx => hb x (List.mem_of_mem_take hx))
      have hnext : PlainCrc.fold c (bs.take (k + 1)) = PlainCrc.byte (PlainCrc.fold c (bs.take k)) (bs.getD k 0) := by
        rw [List.take_add_one, hbk]; simp [PlainCrc.fold]
      generalize PlainCrc.fold c (bs.take k) = x at hf hnext ⊢
      generalize bs.getD k 0 = b at hg hb256 hnext hbk ⊢
      have hx1 := u32_xor_nat x b hf (by omega)
      have hl1 : x ^^^ b < 4294967296 := Nat.xor_lt_two_pow (n := 32) hf (by omega)
      clear hcell hA hb
      have ha1 := and15 _ hl1
      have hc1 := hT.2 ((x ^^^ b) % 16) (Nat.mod_lt _ (by decide))
      have hm1 : (x ^^^ b) % 16 < 16 := Nat.mod_lt _ (by decide)
      have hq1 := xnib _ hl1
      have hl2 : PlainCrc.nib (x ^^^ b) < 4294967296 := PlainCrc.nib_lt _ hl1
      have ha2 := and15 _ hl2
      have hc2 := hT.2 ((PlainCrc.nib (x ^^^ b)) % 16) (Nat.mod_lt _ (by decide))
      have hm2 : (PlainCrc.nib (x ^^^ b)) % 16 < 16 := Nat.mod_lt _ (by decide)
      have hq2 := xnib _ hl2
      rw [PlainCrc.byte_nib] at hq2
      generalize PlainCrc.nib (x ^^^ b) = z at *
      generalize x ^^^ b = y at *
      clear hT
      go_wp2
      go_round
      case rel => exact ⟨k + 1, by omega, by go_num, by rw [hnext]⟩
      case measure => simp [intOf]; omega
    · have hkl : k = bs.length := by omega
      subst hkl
      rw [List.take_length]
      clear hA hT
      go_wp2
      go_ret
      exact ⟨rfl, rfl⟩
end Go.Proofs.YtoablohigdkbkaaDoor
