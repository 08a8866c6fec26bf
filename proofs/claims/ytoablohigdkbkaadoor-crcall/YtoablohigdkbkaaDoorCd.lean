/-
  The contract of the document's answer to chapter 2.
-/
import Derived.Test.YtoablohigdkbkaaDoorCc
namespace Go.Proofs.YtoablohigdkbkaaDoor
open Go.RowKit

theorem bits_succ (n c : Nat) : PlainCrc.bits (n + 1) c = PlainCrc.bit (PlainCrc.bits n c) := PlainCrc.bits_add n 1 c

theorem bit_one (y : Nat) (hy : y < 4294967296) (h : y % 2 = 1) : bits .xor .u32 ((y : Int) / 2) 2197175160 = ((PlainCrc.bit y : Nat) : Int) := by
  have := u32_xor_nat (y / 2) 2197175160 (by omega) (by decide)
  rw [show ((2197175160 : Nat) : Int) = 2197175160 from rfl] at this
  rw [PlainCrc.bit, if_pos h]
  exact this
theorem bit_zero (y : Nat) (h : ¬ y % 2 = 1) : ((y : Int) / 2) = ((PlainCrc.bit y : Nat) : Int) := by
  rw [PlainCrc.bit, if_neg h]
  rfl

set_option maxHeartbeats 4000000 in
theorem ref_any (v : Value) (ts : List (List Nat)) (w : World) (h : Ls w v ts) :
    Calls Tryd.prog 10 #[v] w fun e w' => e = .returned (.int .u32 ((PlainCrc.sum ts.flatten : Nat) : Int)) ∧ w = w' := by
  obtain ⟨vs, ⟨A, cp, rfl, hl, hA⟩, ht, hm⟩ := h
  go_enter Tryd.func10, Tryd.ntmps10
  go_wp2
  go_loop [3, 4] (fun cc i => ∃ k : Nat, k ≤ ts.length ∧ i = .int .i64 k ∧ cc = .int .u32 ((PlainCrc.fold 4294967295 (ts.take k).flatten : Nat) : Int)) (fun _ i => ts.length - (intOf i).toNat)
  case atStart => exact ⟨0, Nat.zero_le _, rfl, rfl⟩
  case round =>
    obtain ⟨k, hk, rfl, rfl⟩ := hrel
    have hf : PlainCrc.fold 4294967295 (ts.take k).flatten < 4294967296 := PlainCrc.fold_lt _ _ (by decide) (flat_lt ht k)
    by_cases hlt : k < ts.length
    · obtain ⟨b0, o, rfl, _, hcell⟩ := hA (by omega)
      obtain ⟨t, hkt⟩ : ∃ t, ts[k]? = some t := ⟨_, List.getElem?_eq_getElem hlt⟩
      obtain ⟨u, hu, ⟨A2, cp2, rfl, hl2, hA2⟩, hb, hm2⟩ := ht k t hkt
      have hg := (hcell k (by omega)).trans hu
      have hnext := fold_next 4294967295 ts k t hkt
      generalize PlainCrc.fold 4294967295 (ts.take k).flatten = x at hf hnext ⊢
      clear hcell hA ht
      go_wp2
      go_loop [3, 5] (fun cc i => ∃ j : Nat, j ≤ t.length ∧ i = .int .i64 j ∧ cc = .int .u32 ((PlainCrc.fold x (t.take j) : Nat) : Int)) (fun _ i => t.length - (intOf i).toNat)
      case atStart => exact ⟨0, Nat.zero_le _, rfl, rfl⟩
      case round =>
        obtain ⟨j, hj, rfl, rfl⟩ := hrel
        by_cases hjt : j < t.length
        · obtain ⟨b2, o2, rfl, _, hcell2⟩ := hA2 (by omega)
          have hbk : t[j]? = some (t.getD j 0) := by simp [List.getD, hjt]
          have hg2 := hcell2 j (by omega)
          rw [List.getElem?_map, hbk, Option.map_some, bv] at hg2
          have hb256 : t.getD j 0 < 256 := hb _ (List.mem_of_getElem? hbk)
          have hf2 : PlainCrc.fold x (t.take j) < 4294967296 := PlainCrc.fold_lt _ _ hf (fun y hy => hb y (List.mem_of_mem_take hy))
          have hnext2 : PlainCrc.fold x (t.take (j + 1)) = PlainCrc.byte (PlainCrc.fold x (t.take j)) (t.getD j 0) := by
            rw [List.take_add_one, hbk]; simp [PlainCrc.fold]
          generalize PlainCrc.fold x (t.take j) = y at hf2 hnext2 ⊢
          generalize t.getD j 0 = b at hg2 hb256 hnext2 hbk ⊢
          have hx1 := u32_xor_nat y b hf2 (by omega)
          have hl1 : y ^^^ b < 4294967296 := Nat.xor_lt_two_pow (n := 32) hf2 (by omega)
          unfold PlainCrc.byte at hnext2
          generalize y ^^^ b = z at hx1 hl1 hnext2
          clear hcell2 hA2 hb
          go_wp2
          go_loop [3, 6] (fun cc i => ∃ n : Nat, n ≤ 8 ∧ i = .int .i64 n ∧ cc = .int .u32 ((PlainCrc.bits n z : Nat) : Int)) (fun _ i => 8 - (intOf i).toNat)
          case atStart => exact ⟨0, Nat.zero_le _, rfl, rfl⟩
          case round =>
            obtain ⟨n, hn, rfl, rfl⟩ := hrel
            have hbl : PlainCrc.bits n z < 4294967296 := PlainCrc.bits_lt n z hl1
            have hs := bits_succ n z
            by_cases hn8 : n < 8
            · generalize PlainCrc.bits n z = q at hbl hs ⊢
              by_cases hodd : q % 2 = 1
              · have hbo := bit_one q hbl hodd
                go_wp2
                go_round
                case rel => exact ⟨n + 1, by omega, by go_num, by rw [hs]⟩
                case measure => simp [intOf]; omega
              · have hbo := bit_zero q hodd
                go_wp2
                go_round
                case rel => exact ⟨n + 1, by omega, by go_num, by rw [hs, ← hbo]⟩
                case measure => simp [intOf]; omega
            · have hn88 : n = 8 := by omega
              subst hn88
              rw [← hnext2]
              go_wp2
              go_round
              case rel => exact ⟨j + 1, by omega, by go_num, rfl⟩
              case measure => simp [intOf]; omega
        · have hjl : j = t.length := by omega
          subst hjl
          rw [List.take_length, ← hnext]
          clear hA2
          go_wp2
          go_round
          case rel => exact ⟨k + 1, by omega, by go_num, rfl⟩
          case measure => simp [intOf]; omega
    · have hkl : k = ts.length := by omega
      subst hkl
      rw [List.take_length] at hf ⊢
      have he := ends' _ hf
      clear hA ht
      go_wp2
      go_ret
      exact ⟨rfl, rfl⟩

end Go.Proofs.YtoablohigdkbkaaDoor
