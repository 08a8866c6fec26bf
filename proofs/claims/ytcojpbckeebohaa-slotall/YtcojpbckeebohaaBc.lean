/-
  Contracts: bits.wide, bits.copied, bits.behind.
-/
import Derived.Test.YtcojpbckeebohaaBb
namespace Go.Proofs.Ytcojpbckeebohaa
open Go.RowKit Go.Joins

set_option maxHeartbeats 1000000 in
theorem wide_any (n : Int) (w : World) : Calls Try.prog 44 #[.int .i64 n] w fun e w' => e = .returned (.bool (PlainBits.wide n)) ∧ w = w' := by
  by_cases h1 : 1 ≤ n
  · go_enter Try.func44, Try.ntmps44
    go_wp2
    go_ret
    exact ⟨by simp [PlainBits.wide, h1], rfl⟩
  · have h2 : decide (1 ≤ n) = false := by simpa using h1
    go_enter Try.func44, Try.ntmps44
    go_wp2
    go_ret
    exact ⟨by simp [PlainBits.wide, h2], rfl⟩

set_option maxHeartbeats 1000000 in
theorem copied_any (v : Value) (bs : List Nat) (m : Nat) (w : World) (h : Tx w v bs) (hm : m ≤ 1048576) :
    Calls Try.prog 45 #[v, .int .i64 (m : Int)] w fun e w' => ∃ v', e = .returned v' ∧ Ow w' w.heap.size v' bs ∧ Below w.heap.size w w' := by
  obtain ⟨i0, hi, hz0, hz1, hz2⟩ := info_parts Try.info5
  obtain ⟨A, c, rfl⟩ := h.form
  obtain ⟨hs, hb, hl⟩ := h
  have HS := Lib.hid hs
  have HB := Lib.hid hb
  clear hs hb
  generalize hn : bs.length = n at hl
  go_enter Try.func45, Try.ntmps45
  go_wp2_with (refine wpList_make_own _ rfl _ _ 30 rfl w.heap.size 5 i0 (.int .u8 0) 1 Try.underlying30 hi hz0 hz1 .i64 .i64 _ (n + m) rfl rfl ?q1 ?q2 ?q3 ?q4 ?_)
  case q1 => simp
  case q2 => rw [hz2]; omega
  case q3 => unfold maxLen; omega
  case q4 => exact Nat.le_refl _
  intro w1 hown hgrow
  have hb1 : Below w.heap.size w w1 := (Below.refl _ _).grown hgrow (Nat.le_refl _) (by simp)
  have z1 := hb1.size
  clear hgrow
  go_wp2_with (at_builtin; refine wpList_append_sl rfl _ _ 30 rfl w.heap.size 5 i0 (.int .u8 0) 1 1 Try.underlying30 hi hz0 hz1 hz2 rfl (by decide) _ _ _ rfl hown A n c (bs.map bv) rfl ?q1 (bytes_one bs) ?q2 ?q3 ?q4 ?_)
  case q1 => have := HS.out.below hb1; rw [hn] at this; exact this
  case q2 => unfold maxLen; omega
  case q3 => omega
  case q4 => exact z1
  intro v' w2 hown2 hgrow2
  have hb2 : Below w.heap.size w w2 := hb1.grown hgrow2 z1 (fun k hk => own_ge hown hk)
  go_wp2
  go_ret
  exact ⟨v', rfl, ⟨by rw [hn]; simpa using hown2, HB.out⟩, hb2⟩

theorem shr8 (x : Int) (k : Nat) : x / 256 ^ k / 256 = x / 256 ^ (k + 1) := by
  rw [Int.ediv_ediv_of_nonneg (Int.pow_nonneg (by decide)), ← Int.pow_succ]

theorem shr_fits (x : Int) (k : Nat) (h : -9223372036854775808 ≤ x ∧ x ≤ 9223372036854775807) : -9223372036854775808 ≤ x / 256 ^ k ∧ x / 256 ^ k ≤ 9223372036854775807 := by
  induction k with
  | zero => simpa using h
  | succ k ih => rw [← shr8]; omega

set_option maxHeartbeats 1000000 in
theorem behind_any (base : Nat) (v : Value) (bs : List Nat) (n : Nat) (hn : n ≤ 4) (x : Int) (hx : -9223372036854775808 ≤ x ∧ x ≤ 9223372036854775807) (w : World) (h : Ow w base v bs) (hbase : base ≤ w.heap.size) (hm : bs.length ≤ 1048576) :
    Calls Try.prog 46 #[v, .int .i64 (n : Int), .int .i64 x] w fun e w' => ∃ v', e = .returned v' ∧ Ow w' base v' (bs ++ PlainBits.enc n x) ∧ Below base w w' := by
  obtain ⟨i0, hi, hz0, hz1, hz2⟩ := info_parts Try.info5
  go_enter Try.func46, Try.ntmps46
  go_wp2
  go_loopw [0, 2, 8] (fun s y i wr => ∃ k : Nat, k ≤ n ∧ i = .int .i64 (k : Int) ∧ y = .int .i64 (x / 256 ^ k) ∧ Ow wr base s (bs ++ PlainBits.enc k x) ∧ Below base w wr) (fun _ _ i _ => n - (intOf i).toNat)
  case atStart => exact ⟨0, Nat.zero_le _, rfl, by simp, by simpa [PlainBits.enc_zero] using h, Below.refl _ _⟩
  case round =>
    obtain ⟨k, hk, rfl, rfl, hO, hB⟩ := hrel
    have zr := hB.size
    by_cases hlt : k < n
    · have hO1 := hO.1
      have HO := Lib.hid hO.2
      have hlen : (bs ++ PlainBits.enc k x).length = bs.length + k := by simp [PlainBits.enc_length]
      generalize (bs ++ PlainBits.enc k x).length = L at hO1 hlen
      have hL : L ≤ 1048580 := by omega
      have HL := Lib.hid hlen
      clear hlen
      generalize hxs : (bs ++ PlainBits.enc k x).map bv = xs at hO1
      have HX := Lib.hid hxs
      clear hxs
      obtain ⟨A, c, rfl⟩ := own_form hO1
      clear hO
      have hf := shr_fits x k hx
      have he := shr8 x k
      have hbyte : x / 256 ^ k % 256 = ((PlainBits.byteAt x k : Nat) : Int) := by
        rw [PlainBits.byteAt]; omega
      have hlt256 := PlainBits.byteAt_lt x k
      generalize hy : x / 256 ^ k = y at *
      go_wp2_with (at_builtin; refine wpList_append_sl rfl _ _ 30 rfl base 5 i0 (.int .u8 0) 1 1 Try.underlying30 hi hz0 hz1 hz2 rfl (by decide) _ _ _ rfl (hO1.alloc _) _ 1 1 _ rfl (Sl.new wr _ 5 _ 1 1 _ rfl rfl) ?q1 ?q2 ?q3 ?q4 ?_)
      case q1 => rfl
      case q2 => unfold maxLen; omega
      case q3 => omega
      case q4 => simp; omega
      intro v' w2 hown hgrow
      have hb2 : Below base w w2 := (hB.alloc (by omega) _).grown hgrow (by simp; omega) (fun k hk => own_ge hO1 hk)
      have hnew : xs ++ [Value.int .u8 ((PlainBits.byteAt x k : Nat) : Int)] = (bs ++ PlainBits.enc (k + 1) x).map bv := by
        rw [← HX.out, PlainBits.enc_snoc]; simp [bv]
      have hnl : (bs ++ PlainBits.enc (k + 1) x).length = L + 1 := by have := HL.out; simp [PlainBits.enc_length]; omega
      have hown' : w2.ownsRow base 5 1 v' (bs ++ PlainBits.enc (k + 1) x).length ((bs ++ PlainBits.enc (k + 1) x).map bv) := by
        rw [hnl, ← hnew]; exact hown
      have HW := Lib.hid hown'
      clear hown hown' hgrow hnew hnl
      go_wp2
      go_roundw
      case rel =>
        refine ⟨k + 1, by omega, by go_num, by rw [← he], ⟨HW.out, ?_⟩, hb2⟩
        intro b hb
        rw [PlainBits.enc_snoc, ← List.append_assoc] at hb
        rcases List.mem_append.1 hb with h | h
        · exact HO.out b h
        · simp at h; omega
      case measure => simp [intOf]; omega
    · have hkn : k = n := by omega
      subst hkn
      have HO := Lib.hid hO
      clear hO
      go_wp2
      go_ret
      exact ⟨_, rfl, HO.out, hB⟩
end Go.Proofs.Ytcojpbckeebohaa
