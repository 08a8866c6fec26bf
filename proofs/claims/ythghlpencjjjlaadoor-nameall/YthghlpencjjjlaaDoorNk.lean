/-
  The walk of NameForms.
-/
import Derived.Test.YthghlpencjjjlaaDoorNi
namespace Go.Proofs.YthghlpencjjjlaaDoor
open Go.RowKit Go.Joins

def good : List ByteArray := [{ data := #[97] }, { data := #[33] }, { data := #[97, 98, 99, 100, 101, 102] }, { data := #[97, 126] }, { data := #[46] }, { data := #[46, 46] }]
def bad : List ByteArray := [{ data := #[] }, { data := #[97, 98, 99, 100, 101, 102, 103] }, { data := #[97, 47, 98] }, { data := #[32] }, { data := #[97, 32, 98] }, { data := #[127] }, { data := #[31] }, { data := #[195, 169] }, { data := #[126, 97] }]
def ways : List ByteArray := [{ data := #[] }, { data := #[97] }, { data := #[47, 47] }, { data := #[47, 97, 47] }, { data := #[47, 47, 97] }, { data := #[47, 97, 47, 47, 98] }, { data := #[47, 32] }, { data := #[47, 97, 47, 98, 47, 99, 47, 100, 47, 101, 47, 102, 47, 103, 47, 104, 47, 105] }, { data := #[47, 116, 111, 111, 108, 111, 110, 103] }]
theorem good_ok : ∀ x ∈ good, PN.may x.data.toList = true ∧ PN.own x.data.toList = true := by decide
theorem bad_no : ∀ x ∈ bad, PN.may x.data.toList = false ∧ PN.own x.data.toList = decide (x = ({ data := #[126, 97] } : ByteArray)) := by decide
theorem seq_dec (a b : ByteArray) : (a.toList == b.data.toList) = decide (a = b) := by
  rw [← ByteArray.toList_eq b]
  by_cases h : a = b
  · subst h; rw [seq_yes, decide_eq_true rfl]
  · rw [seq_no h, decide_eq_false h]
theorem Ss.cellAt {w : World} {g n c : Nat} {ss : List ByteArray} (h : Ss w (.slice (some ⟨g, 0, none⟩) n c) ss) {j : Nat} {x : ByteArray} (hj : ss[j]? = some x) : w.cell? ⟨g, j, none⟩ = some (.string x) := by
  obtain ⟨b, o, e, _, hc⟩ := h.at (by have := (List.getElem?_eq_some_iff.1 hj).1; omega)
  injection e with e
  injection e with e1 e2 e3
  subst e1 e2
  have := hc j x hj
  rwa [Nat.zero_add] at this
theorem ways_no : ∀ x ∈ ways, PN.is true x = false ∧ x.size ≤ 65535 := by decide
theorem root_is : PN.is false { data := #[47] } = true := by decide
theorem root_pt : PN.pt false { data := #[47] } = [] := by decide
theorem deep_is : PN.is false { data := #[47, 97, 47, 98, 47, 99, 47, 100, 47, 101, 47, 102, 47, 103, 47, 104] } = true := by decide
theorem deep_pt : (PN.pt false { data := #[47, 97, 47, 98, 47, 99, 47, 100, 47, 101, 47, 102, 47, 103, 47, 104] }).length = 8 := by decide

set_option maxRecDepth 100000 in
set_option maxHeartbeats 8000000 in
theorem forms_any (W : World) (hM : Ml W) : Calls Tryd.prog 5 #[] W fun e w' => e = .returned (.bool true) ∧ Below W.heap.size W w' := by
  have hb := begun_any W hM
  have HM := Lib.hid hM
  clear hM
  go_enter Tryd.func5, Tryd.ntmps5
  go_wp2_with fail
  refine hb.mono ?_
  rintro e w1 ⟨rfl, hB1⟩
  clear hb
  have z1 := hB1.size
  have hG0 := Ss.new w1 #[.string { data := #[97] }, .string { data := #[33] }, .string { data := #[97, 98, 99, 100, 101, 102] }, .string { data := #[97, 126] }, .string { data := #[46] }, .string { data := #[46, 46] }] (0, 0) 6 6 w1.heap.size rfl good rfl rfl (by decide) (by decide)
  have hG := hG0.alloc (.cells #[.string { data := #[] }, .string { data := #[97, 98, 99, 100, 101, 102, 103] }, .string { data := #[97, 47, 98] }, .string { data := #[32] }, .string { data := #[97, 32, 98] }, .string { data := #[127] }, .string { data := #[31] }, .string { data := #[195, 169] }, .string { data := #[126, 97] }] 9)
  have hD := Ss.new (w1.alloc (.cells #[.string { data := #[97] }, .string { data := #[33] }, .string { data := #[97, 98, 99, 100, 101, 102] }, .string { data := #[97, 126] }, .string { data := #[46] }, .string { data := #[46, 46] }] 9)) #[.string { data := #[] }, .string { data := #[97, 98, 99, 100, 101, 102, 103] }, .string { data := #[97, 47, 98] }, .string { data := #[32] }, .string { data := #[97, 32, 98] }, .string { data := #[127] }, .string { data := #[31] }, .string { data := #[195, 169] }, .string { data := #[126, 97] }] (0, 0) 9 9 (w1.heap.size + 1) (by simp) bad rfl rfl (by decide) (by decide)
  have hB2 := (hB1.alloc z1 (.cells #[.string { data := #[97] }, .string { data := #[33] }, .string { data := #[97, 98, 99, 100, 101, 102] }, .string { data := #[97, 126] }, .string { data := #[46] }, .string { data := #[46, 46] }] 9))
  have hB3 := (hB2.alloc hB2.size (.cells #[.string { data := #[] }, .string { data := #[97, 98, 99, 100, 101, 102, 103] }, .string { data := #[97, 47, 98] }, .string { data := #[32] }, .string { data := #[97, 32, 98] }, .string { data := #[127] }, .string { data := #[31] }, .string { data := #[195, 169] }, .string { data := #[126, 97] }] 9))
  go_wp2
  generalize hw2 : World.alloc (World.alloc w1 _) _ = w2 at *
  have HG := Lib.hid hG
  have HD := Lib.hid hD
  clear hG hD hG0 hB2 hw2
  go_loop [3] (fun i => ∃ k : Nat, k ≤ 6 ∧ i = .int .i64 (k : Int)) (fun i => 6 - (intOf i).toNat)
  case atStart => exact ⟨0, Nat.zero_le _, rfl⟩
  case round =>
    obtain ⟨k, hk, rfl⟩ := hrel
    by_cases hlt : k < 6
    · obtain ⟨x, hx⟩ : ∃ x, good[k]? = some x := ⟨_, List.getElem?_eq_getElem hlt⟩
      obtain ⟨hm, ho⟩ := good_ok x (List.mem_of_getElem? hx)
      have hg := HG.out.cellAt hx
      have m1 := may_any x w2
      have m2 := own_any x w2
      rw [hm] at m1
      rw [ho] at m2
      clear hm ho hx
      go_wp2_with fail
      refine m1.mono ?_
      rintro e w6 ⟨rfl, hw6⟩
      rw [hw6]
      clear hw6 m1
      go_wp2_with fail
      refine m2.mono ?_
      rintro e w6 ⟨rfl, hw6⟩
      rw [hw6]
      clear hw6 m2
      go_wp2
      go_round
      case rel => exact ⟨k + 1, by omega, by go_num⟩
      case measure => simp [intOf]; omega
    · go_wp2
      have hz2 : Below w2.heap.size w2 w2 := Below.refl _ _
      go_loopw [4] (fun i wr => ∃ k : Nat, k ≤ 9 ∧ i = .int .i64 (k : Int) ∧ Below w2.heap.size w2 wr) (fun i _ => 9 - (intOf i).toNat)
      case atStart => exact ⟨0, Nat.zero_le _, rfl, hz2⟩
      case round =>
        clear hz2 hlt hk
        obtain ⟨k2, hk2, rfl, hBr⟩ := hrel
        by_cases hlt2 : k2 < 9
        · obtain ⟨x, hx⟩ : ∃ x, bad[k2]? = some x := ⟨_, List.getElem?_eq_getElem hlt2⟩
          obtain ⟨hm, ho⟩ := bad_no x (List.mem_of_getElem? hx)
          have hg := (HD.out.below hBr).cellAt hx
          have m1 : ∀ w, Calls Tryd.prog 13 #[.string x] w fun e w' => e = .returned (.bool false) ∧ w' = w := fun w => by rw [← hm]; exact may_any x w
          obtain ⟨b, hb⟩ : ∃ b, decide (x = ({ data := #[126, 97] } : ByteArray)) = b := ⟨_, rfl⟩
          have m2 : ∀ w, Calls Tryd.prog 15 #[.string x] w fun e w' => e = .returned (.bool b) ∧ w' = w := fun w => by rw [← hb, ← ho]; exact own_any x w
          have hse : (x.toList == [126, 97]) = b := (seq_dec x { data := #[126, 97] }).trans hb
          have hkk : (k2 : Int) < 9 := by omega
          have hkz : ¬ ((k2 : Int) < 0) := by omega
          clear hm ho hx hb
          go_wp2
          cases b with
          | true =>
            go_quiet (first | (go_at_call 13; exact Calls.quiet_of_same (m1 _)) | (go_at_call 15; exact Calls.quiet_of_same (m2 _)))
            go_wp2
            go_roundw
            case rel => exact ⟨k2 + 1, by omega, by go_num, drewN_below hBr _⟩
            case measure => simp [intOf]; omega
          | false =>
            go_quiet (first | (go_at_call 13; exact Calls.quiet_of_same (m1 _)) | (go_at_call 15; exact Calls.quiet_of_same (m2 _)))
            go_wp2
            go_roundw
            case rel => exact ⟨k2 + 1, by omega, by go_num, drewN_below hBr _⟩
            case measure => simp [intOf]; omega
        · have hb4 := hB3.trans (hBr.mono hB3.size)
          have hM4 := HM.out.below hb4
          have hY := Ss.new wr #[.string { data := #[] }, .string { data := #[97] }, .string { data := #[47, 47] }, .string { data := #[47, 97, 47] }, .string { data := #[47, 47, 97] }, .string { data := #[47, 97, 47, 47, 98] }, .string { data := #[47, 32] }, .string { data := #[47, 97, 47, 98, 47, 99, 47, 100, 47, 101, 47, 102, 47, 103, 47, 104, 47, 105] }, .string { data := #[47, 116, 111, 111, 108, 111, 110, 103] }] (0, 0) 9 9 wr.heap.size rfl ways rfl rfl (by decide) (by decide)
          have hb5 := hb4.alloc hb4.size (.cells #[.string { data := #[] }, .string { data := #[97] }, .string { data := #[47, 47] }, .string { data := #[47, 97, 47] }, .string { data := #[47, 47, 97] }, .string { data := #[47, 97, 47, 47, 98] }, .string { data := #[47, 32] }, .string { data := #[47, 97, 47, 98, 47, 99, 47, 100, 47, 101, 47, 102, 47, 103, 47, 104, 47, 105] }, .string { data := #[47, 116, 111, 111, 108, 111, 110, 103] }] 9)
          have hM5 := hM4.alloc (.cells #[.string { data := #[] }, .string { data := #[97] }, .string { data := #[47, 47] }, .string { data := #[47, 97, 47] }, .string { data := #[47, 47, 97] }, .string { data := #[47, 97, 47, 47, 98] }, .string { data := #[47, 32] }, .string { data := #[47, 97, 47, 98, 47, 99, 47, 100, 47, 101, 47, 102, 47, 103, 47, 104, 47, 105] }, .string { data := #[47, 116, 111, 111, 108, 111, 110, 103] }] 9)
          go_wp2
          generalize hw5 : World.alloc wr _ = w5 at *
          have HY := Lib.hid hY
          have HM5 := Lib.hid hM5
          clear hY hM5 hM4 hb4 hBr HD HG hlt2 hw5
          have hz5 : Below w5.heap.size w5 w5 := Below.refl _ _
          go_loopw [6, 7, 8] (fun i a7 a8 wr => ∃ k : Nat, k ≤ 9 ∧ i = .int .i64 (k : Int) ∧ Below w5.heap.size w5 wr) (fun i _ _ _ => 9 - (intOf i).toNat)
          case atStart => exact ⟨0, Nat.zero_le _, rfl, hz5⟩
          case round =>
            clear hz5 hk2
            obtain ⟨k5, hk5, rfl, hB5⟩ := hrel
            have hm5 := HM5.out.below hB5
            by_cases hlt5 : k5 < 9
            · obtain ⟨x, hx⟩ : ∃ x, ways[k5]? = some x := ⟨_, List.getElem?_eq_getElem hlt5⟩
              obtain ⟨hm, hz⟩ := ways_no x (List.mem_of_getElem? hx)
              have hg := (HY.out.below hB5).cellAt hx
              have c5 := parts_any x true wr hm5 hz
              rw [hm] at c5
              clear hx hm hz hm5
              go_wp2_with fail
              refine c5.mono ?_
              rintro e w6 ⟨v6, rfl, hO6, hB6⟩
              obtain ⟨A6, c6, hv6, _⟩ := hO6.form
              subst hv6
              clear c5 hO6
              go_wp2
              go_roundw
              case rel => exact ⟨k5 + 1, by omega, by go_num, hB5.trans (hB6.mono hB5.size)⟩
              case measure => simp [intOf]; omega
            · have c6 := parts_any { data := #[47] } false wr hm5 (by decide)
              rw [root_is, root_pt] at c6
              go_wp2_with fail
              refine c6.mono ?_
              rintro e w6 ⟨v6, rfl, hO6, hB6⟩
              obtain ⟨A6, k6, hv6, _⟩ := hO6.form
              subst hv6
              clear c6 hO6
              have hb6 := hb5.trans ((hB5.trans (hB6.mono hB5.size)).mono hb5.size)
              have c7 := parts_any { data := #[47, 97, 47, 98, 47, 99, 47, 100, 47, 101, 47, 102, 47, 103, 47, 104] } false w6 (hm5.below hB6) (by decide)
              rw [deep_is] at c7
              go_wp2_with fail
              refine c7.mono ?_
              rintro e w7 ⟨v7, rfl, hO7, hB7⟩
              obtain ⟨A7, k7, hv7, _⟩ := hO7.form
              rw [deep_pt] at hv7
              subst hv7
              clear c7 hO7
              have hb7 := hb6.trans (hB7.mono hb6.size)
              go_wp2
              go_ret
              exact ⟨rfl, hb7⟩
end Go.Proofs.YthghlpencjjjlaaDoor
