/-
  Contracts of the document's answer: SameTexts, Same (of one disk twice).
-/
import Derived.Test.YtgoggancldipcaaEd
import Derived.Deep.QuietTactic
import Derived.BigQuiet
namespace Go.Proofs.Ytgoggancldipcaa
open Go.RowKit

set_option maxHeartbeats 2000000
theorem texts_any (A A' : Option Addr) (c c' : Nat) (ss : List ByteArray) (w : World) (h : Sl w 1 (.slice A ss.length c) ss.length (ss.map Value.string)) (h' : Sl w 1 (.slice A' ss.length c') ss.length (ss.map Value.string)) (hn : ss.length ≤ 65536) :
    Calls Try.prog 29 #[.slice A ss.length c, .slice A' ss.length c'] w fun e w' => e = .returned (.bool true) ∧ Below w.heap.size w w' := by
  go_enter Try.func29, Try.ntmps29
  go_wp2
  go_loopw [5] (fun s wr => ∃ k : Nat, k ≤ ss.length ∧ s = .int .i64 k ∧ Below w.heap.size w wr) (fun s _ => ss.length - (intOf s).toNat)
  case atStart => exact ⟨0, by omega, rfl, Below.refl _ _⟩
  case round =>
    obtain ⟨k, hk, rfl, hb⟩ := hrel
    by_cases hlt : k < ss.length
    · obtain ⟨b, o, rfl, hbb, hcl⟩ := h.at (by omega)
      obtain ⟨b', o', rfl, hbb', hcl'⟩ := h'.at (by omega)
      obtain ⟨x, hx⟩ : ∃ x, ss[k]? = some x := ⟨_, List.getElem?_eq_getElem hlt⟩
      have e0 := (hb.cell (p := ⟨b, o + k, none⟩) hbb).trans (hcl k (by omega))
      have e1 := (hb.cell (p := ⟨b', o' + k, none⟩) hbb').trans (hcl' k (by omega))
      rw [List.getElem?_map, hx, Option.map_some] at e0 e1
      have i0 : (0 : Int) ≤ (k : Int) := by omega
      have i1 : (k : Int) < (ss.length : Int) := by omega
      clear hx hcl hcl'
      go_wp2_with fail
      go_quiet (fail)
      go_wp2
      go_roundw
      case rel => exact ⟨k + 1, by omega, by go_num, below_drewN hb _⟩
      case measure => simp [intOf]; omega
    · go_wp2
      go_ret
      exact ⟨rfl, hb⟩

theorem same_any (v v' : Value) (d : D) (w : World) (h : IsD w v d) (h' : IsD w v' d) (hl : d.last.length ≤ 65536) (hw : d.wait.length ≤ 65536) :
    Calls Try.prog 20 #[v, v'] w fun e w' => e = .returned (.bool true) ∧ Below w.heap.size w w' := by
  obtain ⟨A, c, A1, c1, rfl, h0, h1⟩ := h.open_
  obtain ⟨B, e, B1, e1, rfl, g0, g1⟩ := h'.open_
  clear h h'
  obtain ⟨l, wt, arm, down⟩ := d
  dsimp only at h0 h1 g0 g1 hl hw ⊢
  have hb0 : Below w.heap.size w ((w.alloc (.cells #[.slice A l.length c, .slice A1 wt.length c1, .int .i64 arm, .bool down] 28)).alloc (.cells #[.slice B l.length e, .slice B1 wt.length e1, .int .i64 arm, .bool down] 28)) :=
    ((Below.refl _ w).alloc (Nat.le_refl _) _).alloc (by simp) _
  go_enter Try.func20, Try.ntmps20
  go_wp2_with fail
  refine (texts_any A B c e l _ (h0.below hb0) (g0.below hb0) hl).mono ?_
  rintro e' w1 ⟨rfl, hb1⟩
  obtain ⟨hX, hR, hs1, hbw1⟩ := two_boxes hb1
  obtain ⟨x0, x1, x2, x3, _, _, _, _⟩ := hX.four
  obtain ⟨r0, r1', r2, r3, _, _, _, _⟩ := hR.four
  clear hb0 hb1
  go_wp2
  go_loopw [5] (fun s wr => ∃ k : Nat, k ≤ wt.length ∧ s = .int .i64 k ∧ Bx wr w.heap.size 28 #[.slice A l.length c, .slice A1 wt.length c1, .int .i64 arm, .bool down] ∧ Bx wr (w.heap.size + 1) 28 #[.slice B l.length e, .slice B1 wt.length e1, .int .i64 arm, .bool down] ∧ Below w.heap.size w wr) (fun s _ => wt.length - (intOf s).toNat)
  case atStart => exact ⟨0, by omega, rfl, hX, hR, hbw1⟩
  case round =>
    clear hX hR hbw1 x0 x1 x2 x3 r0 r1' r2 r3 hs1
    obtain ⟨k, hk, rfl, hX, hR, hb⟩ := hrel
    obtain ⟨x0, x1, x2, x3, _, _, _, _⟩ := hX.four
    obtain ⟨r0, r1', r2, r3, _, _, _, _⟩ := hR.four
    by_cases hlt : k < wt.length
    · obtain ⟨b, o, rfl, hbb, hcl⟩ := h1.at (by omega)
      obtain ⟨b', o', rfl, hbb', hcl'⟩ := g1.at (by omega)
      obtain ⟨p, hp⟩ : ∃ p, wt[k]? = some p := ⟨_, List.getElem?_eq_getElem hlt⟩
      have hp2 := waitCells_at wt k p hp
      have e0 := (hb.cell (p := ⟨b, o + k * 2, none⟩) hbb).trans (hcl (k * 2) (by omega))
      have e1 := (hb.cell (p := ⟨b, o + (k * 2 + 1), none⟩) hbb).trans (hcl (k * 2 + 1) (by omega))
      have e2 := (hb.cell (p := ⟨b', o' + k * 2, none⟩) hbb').trans (hcl' (k * 2) (by omega))
      have e3 := (hb.cell (p := ⟨b', o' + (k * 2 + 1), none⟩) hbb').trans (hcl' (k * 2 + 1) (by omega))
      rw [hp2.1] at e0 e2
      rw [hp2.2, ← Nat.add_assoc] at e1 e3
      have i0 : (0 : Int) ≤ (k : Int) := by omega
      have i1 : (k : Int) < (wt.length : Int) := by omega
      clear hp hp2 hcl hcl'
      go_wp2_with fail
      go_quiet (fail)
      go_wp2
      go_roundw
      case rel => exact ⟨k + 1, by omega, by go_num, hX, hR, below_drewN hb _⟩
      case measure => simp [intOf]; omega
    · go_wp2
      go_ret
      exact ⟨rfl, hb⟩

end Go.Proofs.Ytgoggancldipcaa
