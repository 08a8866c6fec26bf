/-
  The law CrcTurned: its walk.
-/
import Derived.Test.YtoablohigdkbkaaDoorCh
import Derived.RegionTactic
import Derived.ChangeAlike
namespace Go.Proofs.YtoablohigdkbkaaDoor
open Go.RowKit Go.Joins

set_option maxHeartbeats 4000000 in
theorem turned_out (A : Option Addr) (n c m x : Nat) (w : World) (hT : Tab w) (hout : 200 < n ∨ n < 5 ∨ x = 0) :
    Calls Tryd.prog 4 #[.slice A n c, .int .u16 (m : Int), .int .u32 (x : Int)] w fun e w' => e = .returned (.bool true) ∧ Below w.heap.size w w' := by
  by_cases h0 : (200 : Int) < (n : Int)
  · go_enter Tryd.func4, Tryd.ntmps4
    go_wp2_with fail
    refine (begun_any _ hT).mono ?_
    rintro e w0 ⟨rfl, hb0⟩
    go_wp2
    go_ret
    exact ⟨rfl, hb0⟩
  by_cases h1 : (n : Int) < 5
  · go_enter Tryd.func4, Tryd.ntmps4
    go_wp2_with fail
    refine (begun_any _ hT).mono ?_
    rintro e w0 ⟨rfl, hb0⟩
    go_wp2
    go_ret
    exact ⟨rfl, hb0⟩
  obtain rfl : x = 0 := by omega
  go_enter Tryd.func4, Tryd.ntmps4
  go_wp2_with fail
  refine (begun_any _ hT).mono ?_
  rintro e w0 ⟨rfl, hb0⟩
  go_wp2
  go_ret
  exact ⟨rfl, hb0⟩

/-- The text bs, of which from place k on j bytes are turned by those of v. -/
def turn (v k : Nat) (bs : List Nat) : Nat → List Nat
  | 0 => bs
  | j + 1 => (turn v k bs j).set (k + j) ((turn v k bs j).getD (k + j) 0 ^^^ v / 2 ^ (8 * j) % 256)
theorem turn_length (v k : Nat) (bs : List Nat) (j : Nat) : (turn v k bs j).length = bs.length := by
  induction j with
  | zero => rfl
  | succ j ih => simp [turn, ih]
theorem turn_lt (v k : Nat) (bs : List Nat) (h : ∀ b ∈ bs, b < 256) (j : Nat) : ∀ b ∈ turn v k bs j, b < 256 := by
  induction j with
  | zero => exact h
  | succ j ih =>
    intro b hb
    rcases List.mem_or_eq_of_mem_set hb with hb | rfl
    · exact ih b hb
    · refine Nat.xor_lt_two_pow (n := 8) ?_ (Nat.mod_lt _ (by decide))
      rcases Nat.lt_or_ge (k + j) (turn v k bs j).length with hl | hl
      · rw [List.getD_eq_getElem?_getD, List.getElem?_eq_getElem hl]
        exact ih _ (List.getElem_mem hl)
      · rw [List.getD_eq_getElem?_getD, List.getElem?_eq_none hl]; decide

theorem turn_five (v : Nat) (p q : List Nat) (b0 b1 b2 b3 b4 : Nat) : turn v p.length (p ++ b0 :: b1 :: b2 :: b3 :: b4 :: q) 5 = p ++ [b0 ^^^ v % 256, b1 ^^^ v / 256 % 256, b2 ^^^ v / 65536 % 256, b3 ^^^ v / 16777216 % 256, b4 ^^^ v / 4294967296 % 256] ++ q := by
  simp [turn, List.set_append_right]
theorem turn_ne (x s k : Nat) (bs : List Nat) (hb : ∀ b ∈ bs, b < 256) (hk : k + 4 < bs.length) (hx : x < 4294967296) (hx0 : x ≠ 0) (hs : s < 8) : PlainCrc.sum (turn (x * 2 ^ s) k bs 5) ≠ PlainCrc.sum bs := by
  have l1 := PlainCrc.fold_lt _ 4294967295 (by decide) (turn_lt (x * 2 ^ s) k bs hb 5)
  have l2 := PlainCrc.fold_lt _ 4294967295 (by decide) hb
  suffices h : PlainCrc.fold 4294967295 (turn (x * 2 ^ s) k bs 5) ≠ PlainCrc.fold 4294967295 bs by
    unfold PlainCrc.sum
    omega
  have hd : bs = bs.take k ++ bs.drop k := (List.take_append_drop k bs).symm
  have hl : (bs.drop k).length = bs.length - k := List.length_drop
  have hkl : (bs.take k).length = k := by rw [List.length_take]; omega
  generalize bs.take k = p at hd hkl
  generalize bs.drop k = r at hd hl
  match r, hl with
  | b0 :: b1 :: b2 :: b3 :: b4 :: q, _ =>
    subst hkl
    rw [hd, turn_five]
    have := PlainCrc.fold_turned 4294967295 p q b0 b1 b2 b3 b4 x s hx hx0 hs
    simpa using this
  | [_, _, _, _], hl => simp at hl; omega
  | [_, _, _], hl => simp at hl; omega
  | [_, _], hl => simp at hl; omega
  | [_], hl => simp at hl; omega
  | [], hl => simp at hl; omega

set_option maxHeartbeats 4000000 in
theorem turned_any (A : Option Addr) (n c m x : Nat) (bs : List Nat) (w : World) (hT : Tab w) (x0 : Tx w (.slice A n c) bs) (l0 : bs.length = n) (hn : 5 ≤ n) (hn2 : n ≤ 200) (hm : m < 65536) (hx0 : x ≠ 0) (hx : x < 4294967296) :
    Calls Tryd.prog 4 #[.slice A n c, .int .u16 (m : Int), .int .u32 (x : Int)] w fun e w' => e = .returned (.bool true) ∧ Below w.heap.size w w' := by
  obtain ⟨i0, hi, hz0, hz1, hz2⟩ := info_parts Tryd.info5
  have g0 : ¬ (200 : Int) < (n : Int) := by omega
  have g1 : ¬ (n : Int) < 5 := by omega
  have g2 : ((x : Int) == 0) = false := by simpa using hx0
  go_enter Tryd.func4, Tryd.ntmps4
  go_wp2_with fail
  refine (begun_any _ hT).mono ?_
  rintro e w1 ⟨rfl, hb1⟩
  replace hT := hT.below hb1
  replace x0 := x0.below hb1
  have z1 := hb1.size
  go_wp2_with (at_builtin; refine wpList_append_sl rfl _ _ 22 rfl w1.heap.size 5 i0 (.int .u8 0) 1 1 Tryd.underlying22 hi hz0 hz1 hz2 rfl (by decide) _ _ _ rfl (World.ownsRow_made w1 #[] 0 (Nat.le_refl _) (Nat.zero_le _) rfl) A n c (bs.map bv) rfl ?qa1 (bytes_one bs) ?qa2 ?qa3 ?qa4 ?_)
  case qa1 => have := (x0.alloc (.cells #[] 5)).1; rw [l0] at this; exact this
  case qa2 => unfold maxLen; omega
  case qa3 => omega
  case qa4 => simp
  intro v' w2 hown hgrow
  have hbn : Below w1.heap.size w1 w2 := ((Below.refl _ w1).alloc (Nat.le_refl _) (.cells #[] 5)).grown hgrow (by simp) (fun k hk => by simp [Value.ownBlock] at hk; omega)
  have hown2 : w2.ownsRow w1.heap.size 5 1 v' n (bs.map bv) := by simpa using hown
  clear hown hgrow
  obtain ⟨g, cv, rfl⟩ := ownsRow_form hown2 (by omega)
  have hb2 : ∀ b ∈ bs, b < 256 := x0.lt
  have hk : ((m : Int) % ((n : Int) - 4)) = ((m % (n - 4) : Nat) : Int) := by
    have : ((n : Int) - 4) = ((n - 4 : Nat) : Int) := by omega
    rw [this]; rfl
  have hkl : m % (n - 4) < n - 4 := Nat.mod_lt _ (by omega)
  have hpow : 2 ^ (m % 8) ≤ 2 ^ 7 := Nat.pow_le_pow_right (by decide) (by omega)
  have hvl : x * 2 ^ (m % 8) < 2 ^ 40 := by
    calc x * 2 ^ (m % 8) ≤ x * 2 ^ 7 := Nat.mul_le_mul_left x hpow
      _ < 2 ^ 40 := by omega
  have hv : IntKind.u64.wrap ((x : Int) * 2 ^ (m % 8)) = ((x * 2 ^ (m % 8) : Nat) : Int) := by
    rw [IntKind.wrap_u64]
    have : ((x : Int) * 2 ^ (m % 8)) = ((x * 2 ^ (m % 8) : Nat) : Int) := by simp
    rw [this]
    omega
  go_wp2
  rw [hk, hv]
  clear hk hv
  have hne : PlainCrc.sum (turn (x * 2 ^ (m % 8)) (m % (n - 4)) bs 5) ≠ PlainCrc.sum bs := turn_ne x (m % 8) _ bs hb2 (by omega) hx hx0 (by omega)
  generalize x * 2 ^ (m % 8) = v at hvl hne ⊢
  generalize m % (n - 4) = k at hkl hne ⊢
  clear hpow
  go_loopw [10] (fun i wr => ∃ j : Nat, j ≤ 5 ∧ i = .int .i64 j ∧ wr.ownsRow w1.heap.size 5 1 (.slice (some ⟨g, 0, none⟩) n cv) n ((turn v k bs j).map bv) ∧ Below w1.heap.size w1 wr) (fun i _ => 5 - (intOf i).toNat)
  case atStart => exact ⟨0, Nat.zero_le _, rfl, hown2, hbn⟩
  case round =>
    obtain ⟨j, hj, rfl, hok, hbk⟩ := hrel
    by_cases hlt : j < 5
    · have hcell := hok.cellAt (k + j) (by omega)
      have hfz := hok.frozenAt (k + j)
      have hl : k + j < (turn v k bs j).length := by rw [turn_length]; omega
      have hget : ((turn v k bs j).map bv)[k + j]? = some (.int .u8 (((turn v k bs j).getD (k + j) 0 : Nat) : Int)) := by
        rw [List.getElem?_map, List.getElem?_eq_getElem hl]; simp [bv, List.getD, hl]
      rw [hget] at hcell
      clear hget
      have hnext : (turn v k bs (j + 1)).map bv = ((turn v k bs j).map bv).set (k + j) (.int .u8 (((turn v k bs j).getD (k + j) 0 ^^^ v / 2 ^ (8 * j) % 256 : Nat) : Int)) := by
        rw [turn, List.map_set]; rfl
      have hb256 : (turn v k bs j).getD (k + j) 0 < 256 := by
        rw [List.getD_eq_getElem?_getD, List.getElem?_eq_getElem hl]
        exact turn_lt v k bs hb2 j _ (List.getElem_mem hl)
      generalize (turn v k bs j).getD (k + j) 0 = b at hcell hnext hb256
      have hx2 : bits .xor .u8 (b : Int) ((v : Int) / 2 ^ (8 * j) % 256) = ((b ^^^ v / 2 ^ (8 * j) % 256 : Nat) : Int) := by
        have e := u8_xor_nat b (v / 2 ^ (8 * j) % 256) hb256 (Nat.mod_lt _ (by decide))
        rw [← e]
        congr 1
      generalize v / 2 ^ (8 * j) % 256 = y at hx2 hnext
      have hst := (hok.stored (k + j) (.int .u8 ((b ^^^ y : Nat) : Int))).1
      rw [← hnext] at hst
      have hbs : Below w1.heap.size w1 (wr.setCell ⟨g, k + j, none⟩ (.int .u8 ((b ^^^ y : Nat) : Int))) := hbk.setCell (p := ⟨g, k + j, none⟩) (own_ge hok rfl) _
      clear hok hbk hnext hl hb2 hne
      go_wp2
      go_region
      all_goals go_wp2
      all_goals go_roundw
      case rel => exact ⟨j + 1, by omega, by go_num, hst, hbs.drew⟩
      case measure => simp [intOf]; omega
    · have hj5 : j = 5 := by omega
      subst hj5
      have x1 : Tx wr (.slice (some ⟨g, 0, none⟩) n cv) (turn v k bs 5) := Tx.own hok (by rw [turn_length]; exact l0) (turn_lt v k bs hb2 5) (by omega)
      replace x0 := x0.below hbk
      replace hT := hT.below hbk
      have hb3 := hb1.trans (hbk.mono z1)
      have z3 := hb3.size
      clear hok hbk hbn hown2 hb1 z1 hb2
      go_wp2_with fail
      refine (sum_any _ [turn v k bs 5] _ (hT.alloc _) (Ls.new1 rfl x1)).mono ?_
      rintro e w4 ⟨rfl, hw4⟩
      have hbn : Below wr.heap.size wr w4 := by rw [← hw4]; exact al _ _
      clear hw4 x1
      replace hT := hT.below hbn
      replace x0 := x0.below hbn
      have hb4 := hb3.trans (hbn.mono z3)
      have z4 := hb4.size
      have e1 : PlainCrc.sum [turn v k bs 5].flatten = PlainCrc.sum (turn v k bs 5) := by simp
      rw [e1]
      clear e1
      generalize PlainCrc.sum (turn v k bs 5) = s1 at hne ⊢
      go_wp2_with fail
      refine (sum_any _ [bs] _ (hT.alloc _) (Ls.new1 rfl x0)).mono ?_
      rintro e w5 ⟨rfl, hw5⟩
      have hb5 : Below w.heap.size w w5 := by rw [← hw5]; exact hb4.alloc z4 _
      have e1 : PlainCrc.sum [bs].flatten = PlainCrc.sum bs := by simp
      rw [e1]
      clear e1 hw5
      generalize PlainCrc.sum bs = s2 at hne ⊢
      have hne2 : ((s1 : Int) != (s2 : Int)) = true := by
        rw [bne_iff_ne]; omega
      go_wp2
      go_ret
      exact ⟨rfl, hb5⟩
end Go.Proofs.YtoablohigdkbkaaDoor
