/-
  Contracts: Path once more: its ways have names of one letter.
-/
import Derived.Test.YtdnobplhfbgbaaaGreatDoorUm
import Derived.Test.YtdnobplhfbgbaaaGreatDoorMYa
namespace Go.Proofs.YtdnobplhfbgbaaaGreatDoor
open Go.RowKit Go.Joins

namespace Q
theorem lots15_pq : ∀ s ∈ lots15, PT.Pq s := by
  have h : lots15.all PT.pq = true := by decide +kernel
  exact fun s hs => ⟨List.all_eq_true.1 h s hs⟩

set_option maxHeartbeats 4000000 in
theorem mpath_any (w0 : World) (A : Option Addr) (n c : Nat) (bs : List Nat) (hv : Tx w0 (.slice A n c) bs) (hn : bs.length = n) (g ix : Nat) (w : World) (hb : Below w0.heap.size w0 w) (hg : w0.heap.size ≤ g) (hx : Bx w g 92 #[.slice A n c, .int .i64 (ix : Int)]) (hi : ix ≤ n) :
    Calls Tryz.prog 22 #[.pointer (some ⟨g, 0, none⟩)] w fun e w' => ∃ (s : ByteArray) (j : Nat), e = .returned (.string s) ∧ PT.Pq s ∧ j ≤ n ∧ Bx w' g 92 #[.slice A n c, .int .i64 (j : Int)] ∧ Nx g w w' ∧ Below w0.heap.size w0 w' := by
  have hgl := hx.lt
  have hx0 := hx.alloc (.cells #[.string { data := #[47, 97] }, .string { data := #[47, 98] }, .string { data := #[47, 99] }, .string { data := #[47, 97, 47, 98] }, .string { data := #[47, 97, 47, 99] }, .string { data := #[47, 98, 47, 97] }, .string { data := #[47, 97, 47, 98, 47, 99] }, .string { data := #[47, 100] }, .string { data := #[47, 98, 47, 99, 47, 100] }, .string { data := #[47] }, .string { data := #[97] }, .string { data := #[47, 97, 47, 47, 98] }, .string { data := #[47, 116, 111, 111, 108, 111, 110, 103] }, .string { data := #[47, 126, 49] }, .string { data := #[47, 120, 32, 121] }] 9)
  have hy0 := Bx.new w 9 #[.string { data := #[47, 97] }, .string { data := #[47, 98] }, .string { data := #[47, 99] }, .string { data := #[47, 97, 47, 98] }, .string { data := #[47, 97, 47, 99] }, .string { data := #[47, 98, 47, 97] }, .string { data := #[47, 97, 47, 98, 47, 99] }, .string { data := #[47, 100] }, .string { data := #[47, 98, 47, 99, 47, 100] }, .string { data := #[47] }, .string { data := #[97] }, .string { data := #[47, 97, 47, 47, 98] }, .string { data := #[47, 116, 111, 111, 108, 111, 110, 103] }, .string { data := #[47, 126, 49] }, .string { data := #[47, 120, 32, 121] }]
  have hb0 := hb.alloc hb.size (.cells #[.string { data := #[47, 97] }, .string { data := #[47, 98] }, .string { data := #[47, 99] }, .string { data := #[47, 97, 47, 98] }, .string { data := #[47, 97, 47, 99] }, .string { data := #[47, 98, 47, 97] }, .string { data := #[47, 97, 47, 98, 47, 99] }, .string { data := #[47, 100] }, .string { data := #[47, 98, 47, 99, 47, 100] }, .string { data := #[47] }, .string { data := #[97] }, .string { data := #[47, 97, 47, 47, 98] }, .string { data := #[47, 116, 111, 111, 108, 111, 110, 103] }, .string { data := #[47, 126, 49] }, .string { data := #[47, 120, 32, 121] }] 9)
  have hne : w.heap.size ≠ g := by omega
  obtain ⟨i1, e1⟩ : ∃ i, nextV bs ix = i := ⟨_, rfl⟩
  have l1 : i1 ≤ n := by rw [← e1, ← hn]; exact nextV_le (by omega)
  obtain ⟨a1, f1⟩ : ∃ a, numV bs ix 15 = a := ⟨_, rfl⟩
  have r1 : a1 < 15 := by rw [← f1]; exact numV_lt _ _ _ (by decide)
  obtain ⟨L, hL⟩ : ∃ L, lots15[a1]? = some L := ⟨_, List.getElem?_eq_getElem (show a1 < lots15.length from r1)⟩
  have hLs := lots15_pq L (List.mem_of_getElem? hL)
  generalize hwa : w.alloc (.cells #[.string { data := #[47, 97] }, .string { data := #[47, 98] }, .string { data := #[47, 99] }, .string { data := #[47, 97, 47, 98] }, .string { data := #[47, 97, 47, 99] }, .string { data := #[47, 98, 47, 97] }, .string { data := #[47, 97, 47, 98, 47, 99] }, .string { data := #[47, 100] }, .string { data := #[47, 98, 47, 99, 47, 100] }, .string { data := #[47] }, .string { data := #[97] }, .string { data := #[47, 97, 47, 47, 98] }, .string { data := #[47, 116, 111, 111, 108, 111, 110, 103] }, .string { data := #[47, 126, 49] }, .string { data := #[47, 120, 32, 121] }] 9) = wa at hx0 hy0 hb0
  have hnum := num_any w0 A n c bs hv hn g ix 15 15 rfl wa hb0 hg hx0 hi (by decide) (by decide)
  rw [e1, f1] at hnum
  have hrow := lots15_at hL
  have HY := Lib.hid hy0
  have HR := Lib.hid hrow
  clear hx hb hx0 hb0 e1 f1 hL hrow hy0
  subst hwa
  go_enter Tryz.func22, Tryz.ntmps22
  go_wp2_with fail
  refine hnum.mono ?_
  rintro e w1 ⟨rfl, hx1, hn1, hb1⟩
  have hg1 := ((HY.out.nx hn1 hne).cell a1).trans HR.out
  have hnx := Nx.trans (g := g) (Nx.of (al w _)) hn1
  clear hnum hn1 HY HR
  go_wp2
  go_ret
  exact ⟨L, i1, rfl, hLs, l1, hx1, hnx, hb1⟩

section
variable {w0 : World} {A : Option Addr} {n c g : Nat} {bs : List Nat}
theorem pathP (hv : Tx w0 (.slice A n c) bs) (hn : bs.length = n) (w : World) (h : Pw w0 A n c g w) : Calls Tryz.prog 22 #[.pointer (some ⟨g, 0, none⟩)] w fun e w' => ∃ s : ByteArray, e = .returned (.string s) ∧ PT.Pq s ∧ Pw w0 A n c g w' ∧ Nx g w w' := by
  obtain ⟨hb, hg, ix, hi, hx⟩ := h
  refine (mpath_any w0 A n c bs hv hn g ix w hb hg hx hi).mono ?_
  rintro e w' ⟨s, j, rfl, hs, hj, hx', hnx, hb'⟩
  exact ⟨s, rfl, hs, ⟨hb', hg, j, hj, hx'⟩, hnx⟩
end
end Q
end Go.Proofs.YtdnobplhfbgbaaaGreatDoor
