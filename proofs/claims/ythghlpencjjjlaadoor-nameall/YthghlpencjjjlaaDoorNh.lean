/-
  Contract of the document's answer: SameTexts (of one row twice). Names by numbers.
-/
import Derived.Test.YthghlpencjjjlaaDoorNg
namespace Go.Proofs.YthghlpencjjjlaaDoor
open Go.RowKit Go.Joins

theorem drewN_below {B : Nat} {w0 w : World} (h : Below B w0 w) : ∀ k, Below B w0 (World.drewN w k)
  | 0 => h
  | k + 1 => (drewN_below h k).drew

set_option maxHeartbeats 4000000 in
theorem texts_any (v v' : Value) (ss : List ByteArray) (w : World) (h : Ss w v ss) (h' : Ss w v' ss) : Calls Tryd.prog 12 #[v, v'] w fun e w' => e = .returned (.bool true) ∧ Below w.heap.size w w' := by
  obtain ⟨A, c, rfl⟩ := h.form
  obtain ⟨A', c', rfl⟩ := h'.form
  have hl := h.2.2
  generalize hL : ss.length = L at *
  have HS := Lib.hid h
  have HS' := Lib.hid h'
  have HL := Lib.hid hL
  clear h h' hL
  go_enter Tryd.func12, Tryd.ntmps12
  go_wp2
  go_loopw [5] (fun s wr => ∃ k : Nat, k ≤ L ∧ s = .int .i64 (k : Int) ∧ Below w.heap.size w wr) (fun s _ => L - (intOf s).toNat)
  case atStart => exact ⟨0, Nat.zero_le _, rfl, Below.refl _ _⟩
  case round =>
    obtain ⟨k, hk, rfl, hb⟩ := hrel
    by_cases hlt : k < L
    · obtain ⟨b, o, rfl, hbb, hcl⟩ := HS.out.at (by rw [HL.out]; omega)
      obtain ⟨b', o', rfl, hbb', hcl'⟩ := HS'.out.at (by rw [HL.out]; omega)
      obtain ⟨x, hx⟩ : ∃ x, ss[k]? = some x := ⟨_, List.getElem?_eq_getElem (by rw [HL.out]; omega)⟩
      have e0 := (hb.cell (p := ⟨b, o + k, none⟩) hbb).trans (hcl k x hx)
      have e1 := (hb.cell (p := ⟨b', o' + k, none⟩) hbb').trans (hcl' k x hx)
      have i0 : (0 : Int) ≤ (k : Int) := by omega
      have i1 : (k : Int) < (L : Int) := by omega
      clear hx hcl hcl'
      go_wp2_with fail
      go_quiet (fail)
      go_wp2
      go_roundw
      case rel => exact ⟨k + 1, by omega, by go_num, drewN_below hb _⟩
      case measure => simp [intOf]; omega
    · go_wp2
      go_ret
      exact ⟨rfl, hb⟩

namespace PN
/-- Names by numbers. -/
def five : List ByteArray := [{ data := #[97] }, { data := #[98, 99] }, { data := #[126, 49] }, { data := #[120, 45, 121, 46, 122, 33] }, { data := #[49, 50, 51, 52, 53, 54] }]
def four : List ByteArray := [{ data := #[97] }, { data := #[98, 46, 99] }, { data := #[120, 45, 121, 46, 122] }, { data := #[49, 50, 51, 52, 53, 54] }]
def nm (l : List ByteArray) (x : Nat) : ByteArray := l.getD (x % l.length) { data := #[] }
theorem five_ok (x : Nat) : ok true (nm five x).data.toList = true ∧ (nm five x).size ≤ 6 := by
  have h : ∀ y : Fin 5, ok true (five.getD y.val { data := #[] }).data.toList = true ∧ (five.getD y.val { data := #[] }).size ≤ 6 := by decide
  exact h ⟨x % 5, Nat.mod_lt _ (by decide)⟩
theorem four_ok (x : Nat) : ok false (nm four x).data.toList = true ∧ (nm four x).size ≤ 6 := by
  have h : ∀ y : Fin 4, ok false (four.getD y.val { data := #[] }).data.toList = true ∧ (four.getD y.val { data := #[] }).size ≤ 6 := by decide
  exact h ⟨x % 4, Nat.mod_lt _ (by decide)⟩
end PN

theorem Tx.at {w : World} {A : Option Addr} {n c : Nat} {bs : List Nat} (h : Tx w (.slice A n c) bs) (h0 : 0 < bs.length) : ∃ b o, A = some ⟨b, o, none⟩ ∧ b < w.heap.size ∧ ∀ (j x : Nat), bs[j]? = some x → w.cell? ⟨b, o + j, none⟩ = some (.int .u8 (x : Int)) := by
  obtain ⟨A', c', hv, hl, hA⟩ := h.1
  injection hv with e1 e2 e3
  subst e1
  obtain ⟨b, o, e, hb, hc⟩ := hA h0
  refine ⟨b, o, e, hb, fun j x hj => ?_⟩
  have hlt : j < bs.length := (List.getElem?_eq_some_iff.1 hj).1
  rw [hc j (by omega), List.getElem?_map, hj, Option.map_some]
  rfl
end Go.Proofs.YthghlpencjjjlaaDoor
