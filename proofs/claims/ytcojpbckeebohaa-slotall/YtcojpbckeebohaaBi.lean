/-
  The document's answer: glacisref1.Take, Text.
-/
import Derived.Test.YtcojpbckeebohaaBh
namespace Go.Proofs.Ytcojpbckeebohaa
open Go.RowKit Go.Joins

set_option maxHeartbeats 2000000 in
theorem rtake_no (v : Value) (bs : List Nat) (n : Int) (w : World) (h : Tx w v bs) (hn : PlainBits.can bs.length n = false) :
    Calls Try.prog 37 #[v, .int .i64 n] w fun e w' => e = .returned (.tuple #[.int .i64 0, .bool false]) ∧ w = w' := by
  obtain ⟨A, c, rfl⟩ := h.form
  have hl := h.2.2
  clear h
  have hq : ¬ ((1 ≤ n ∧ n ≤ 4) ∧ n ≤ bs.length) := by simpa [PlainBits.can, PlainBits.wide] using hn
  clear hn
  generalize bs.length = L at *
  by_cases h1 : n < 1
  · go_enter Try.func37, Try.ntmps37
    go_wp2
    go_ret2
    exact ⟨rfl, rfl⟩
  by_cases h4 : 4 < n
  · go_enter Try.func37, Try.ntmps37
    go_wp2
    go_ret2
    exact ⟨rfl, rfl⟩
  have hlt : (L : Int) < n := by omega
  clear hq
  go_enter Try.func37, Try.ntmps37
  go_wp2
  go_ret2
  exact ⟨rfl, rfl⟩

set_option maxHeartbeats 2000000 in
theorem rtake_yes (v : Value) (bs : List Nat) (n : Nat) (w : World) (h : Tx w v bs) (h1 : 1 ≤ n) (h4 : n ≤ 4) (hn : n ≤ bs.length) :
    Calls Try.prog 37 #[v, .int .i64 (n : Int)] w fun e w' => e = .returned (.tuple #[.int .i64 ((PlainBits.dec (bs.take n) : Nat) : Int), .bool true]) ∧ w = w' := by
  obtain ⟨A, c, rfl⟩ := h.form
  have hl := h.2.2
  have hb := h.2.1
  have hn1 : ¬ (n : Int) < 1 := by omega
  have hn4 : ¬ (4 : Int) < (n : Int) := by omega
  obtain ⟨A', c', hv, _, hA⟩ := h.1
  injection hv with e1 e2 e3
  subst e1 e3
  obtain ⟨b0, o, rfl, _, hcell⟩ := hA (by omega)
  have HC := Lib.hid hcell
  have HB := Lib.hid hb
  clear h hA hcell hb
  have hnl : ¬ ((bs.length : Int) < (n : Int)) := by omega
  generalize hL : bs.length = L at *
  have HL := Lib.hid hL
  clear hL
  go_enter Try.func37, Try.ntmps37
  go_wp2
  go_loop [6, 7] (fun x i => ∃ k : Nat, k ≤ n ∧ i = .int .i64 ((k : Int) - 1) ∧ x = .int .i64 ((PlainBits.dec ((bs.take n).drop k) : Nat) : Int)) (fun _ i => (intOf i + 1).toNat)
  case atStart => exact ⟨n, Nat.le_refl _, rfl, by rw [List.drop_of_length_le (by simp; omega)]; rfl⟩
  case round =>
    obtain ⟨k, hk, rfl, rfl⟩ := hrel
    by_cases hk0 : 0 < k
    · have hkl : k - 1 < (bs.take n).length := by have := HL.out; simp; omega
      have hd := PlainBits.dec_drop (bs.take n) (k - 1) hkl
      rw [show k - 1 + 1 = k by omega] at hd
      have hlt : PlainBits.dec ((bs.take n).drop k) < 16777216 := by
        have := PlainBits.dec_lt ((bs.take n).drop k) (fun b hb => HB.out b (List.mem_of_mem_take (List.mem_of_mem_drop hb)))
        have hle : ((bs.take n).drop k).length ≤ 3 := by simp; omega
        exact Nat.lt_of_lt_of_le this (Nat.pow_le_pow_right (by decide) hle)
      have hbk : bs[k - 1]? = some ((bs.take n).getD (k - 1) 0) := by
        have := HL.out
        have h1 : k - 1 < bs.length := by omega
        have h2 : k - 1 < n := by omega
        simp [List.getD, h1, h2]
      have hg := HC.out (k - 1) (by omega)
      rw [List.getElem?_map, hbk, Option.map_some, bv] at hg
      have hb256 : (bs.take n).getD (k - 1) 0 < 256 := HB.out _ (List.mem_of_getElem? hbk)
      have HD := Lib.hid hd
      clear hd hbk hkl
      generalize hx : PlainBits.dec ((bs.take n).drop k) = x at *
      generalize (bs.take n).getD (k - 1) 0 = b at *
      have hsum : (x : Int) * 256 + (b : Int) = ((b + 256 * x : Nat) : Int) := by omega
      rw [← HD.out] at hsum
      have hr : PlainBits.dec ((bs.take n).drop (k - 1)) < 4294967296 := by have := HD.out; omega
      generalize hy : PlainBits.dec ((bs.take n).drop (k - 1)) = y at *
      have HY := Lib.hid hy
      clear hy hx
      obtain ⟨m, rfl⟩ : ∃ m, k = m + 1 := ⟨k - 1, by omega⟩
      rw [Nat.add_sub_cancel] at hg
      go_wp2
      go_round
      case rel => exact ⟨m, by omega, by go_num, by rw [← HY.out]; rfl⟩
      case measure => simp [intOf]
    · have hk0' : k = 0 := by omega
      subst hk0'
      rw [List.drop_zero]
      go_wp2
      go_ret2
      exact ⟨rfl, rfl⟩

theorem rtake_any (v : Value) (bs : List Nat) (n : Int) (w : World) (h : Tx w v bs) :
    Calls Try.prog 37 #[v, .int .i64 n] w fun e w' => e = .returned (.tuple #[.int .i64 ((PlainBits.takeN bs n : Nat) : Int), .bool (PlainBits.can bs.length n)]) ∧ w = w' := by
  cases hn : PlainBits.can bs.length n with
  | false => simpa [PlainBits.takeN, hn] using rtake_no v bs n w h hn
  | true =>
    have hr : (1 ≤ n ∧ n ≤ 4) ∧ n ≤ bs.length := by simpa [PlainBits.can, PlainBits.wide] using hn
    obtain ⟨m, rfl⟩ := Int.eq_ofNat_of_zero_le (show 0 ≤ n by omega)
    have := rtake_yes v bs m w h (by omega) (by omega) (by omega)
    simpa [PlainBits.takeN, hn] using this

theorem text_put (bs : List Nat) (s : ByteArray) (hs : s.size ≤ 255) : PlainBits.textS bs (nums s) = PlainBits.putS bs 1 [(s.size : Int)] ++ nums s := by
  have : PlainBits.putS bs 1 [(s.size : Int)] = bs ++ PlainBits.enc 1 (s.size : Int) := by simp [PlainBits.putS, PlainBits.wide, PlainBits.put]
  rw [this, enc_one s.size (by omega)]
  simp [PlainBits.textS, nums_length, hs]

set_option maxHeartbeats 2000000 in
theorem rtext_no (v : Value) (bs : List Nat) (s : ByteArray) (w : World) (h : Tx w v bs) (hs : 255 < s.size) :
    Calls Try.prog 27 #[v, .string s] w fun e w' => ∃ v', e = .returned v' ∧ Ow w' w.heap.size v' (PlainBits.textS bs (nums s)) ∧ Below w.heap.size w w' := by
  obtain ⟨i0, hi, hz0, hz1, hz2⟩ := info_parts Try.info5
  have hp : PlainBits.textS bs (nums s) = bs := by simp [PlainBits.textS, nums_length]; omega
  rw [hp]
  clear hp
  have hs' : (255 : Int) < (s.size : Int) := by omega
  obtain ⟨A, c, rfl⟩ := h.form
  obtain ⟨hs, hb, hl⟩ := h
  have HS := Lib.hid hs
  have HB := Lib.hid hb
  clear hs hb
  generalize hN : bs.length = N at *
  have HN := Lib.hid hN
  clear hN
  go_enter Try.func27, Try.ntmps27
  go_wp2_with (at_builtin; refine wpList_append_sl rfl _ _ 30 rfl w.heap.size 5 i0 (.int .u8 0) 1 1 Try.underlying30 hi hz0 hz1 hz2 rfl (by decide) _ _ _ rfl (World.ownsRow_made w #[] 0 (Nat.le_refl _) (Nat.zero_le _) rfl) A N c (bs.map bv) rfl ?q1 (bytes_one bs) ?q2 ?q3 ?q4 ?_)
  case q1 => exact HS.out.below (al _ _)
  case q2 => unfold maxLen; omega
  case q3 => omega
  case q4 => simp
  intro v' w1 hown hgrow
  have hB : Below w.heap.size w w1 := ((Below.refl _ w).alloc (Nat.le_refl _) (.cells #[] 5)).grown hgrow (by simp) (fun k hk => by simp [Value.ownBlock] at hk; omega)
  have hO : Ow w1 w.heap.size v' bs := ⟨by rw [HN.out]; simpa using hown, HB.out⟩
  have HO := Lib.hid hO
  clear hO hown hgrow
  go_wp2
  go_ret
  exact ⟨_, rfl, HO.out, hB⟩

set_option maxHeartbeats 2000000 in
theorem rtext_yes (v : Value) (bs : List Nat) (s : ByteArray) (w : World) (h : Tx w v bs) (hs : s.size ≤ 255) (hm : bs.length ≤ 65536) :
    Calls Try.prog 27 #[v, .string s] w fun e w' => ∃ v', e = .returned v' ∧ Ow w' w.heap.size v' (PlainBits.textS bs (nums s)) ∧ Below w.heap.size w w' := by
  obtain ⟨i0, hi, hz0, hz1, hz2⟩ := info_parts Try.info5
  rw [text_put bs s hs]
  have hs' : ¬ (255 : Int) < (s.size : Int) := by omega
  have hpl := PlainBits.putS_length_le bs 1 [(s.size : Int)]
  simp only [List.length_cons, List.length_nil] at hpl
  have hone := one_any v bs 1 (s.size : Int) (by omega) w h hm
  generalize PlainBits.putS bs 1 [(s.size : Int)] = q at *
  go_enter Try.func27, Try.ntmps27
  go_wp2_with fail
  refine hone.mono ?_
  rintro e w2 ⟨v2, rfl, hO2, hB3⟩
  clear hone
  have z2 := hB3.size
  have hO2a := hO2.1
  have HO2 := Lib.hid hO2.2
  clear hO2
  generalize hL : q.length = L at *
  generalize hxs : q.map bv = xs at *
  have HX := Lib.hid hxs
  have HL := Lib.hid hL
  have hLb : L ≤ 1048576 := by omega
  clear hxs hL hpl
  go_wp2_with (at_builtin; refine Lib.wpList_append_own_string _ rfl _ _ 30 9 rfl w.heap.size 5 i0 Try.underlying30 Try.underlying9 hi hz0 hz1 hz2 _ _ _ rfl hO2a s rfl ?q1 ?q2 ?q3 ?_)
  case q1 => unfold maxLen; omega
  case q2 => omega
  case q3 => exact z2
  intro v3 w3 hO3 hg3 _
  have hB4 := hB3.grown hg3 z2 (fun k hk => own_ge hO2a hk)
  have hO4 : Ow w3 w.heap.size v3 (q ++ nums s) := by
    refine ⟨?_, fun b hb => ?_⟩
    · rw [List.length_append, HL.out, nums_length, List.map_append, HX.out, ← nums_cells]
      exact hO3
    · rcases List.mem_append.1 hb with h | h
      · exact HO2.out b h
      · exact nums_lt s b h
  have HO4 := Lib.hid hO4
  clear hO4 hO3 hg3 hO2a
  go_wp2
  go_ret
  exact ⟨_, rfl, HO4.out, hB4⟩

theorem rtext_any (v : Value) (bs : List Nat) (s : ByteArray) (w : World) (h : Tx w v bs) (hm : bs.length ≤ 65536) :
    Calls Try.prog 27 #[v, .string s] w fun e w' => ∃ v', e = .returned v' ∧ Ow w' w.heap.size v' (PlainBits.textS bs (nums s)) ∧ Below w.heap.size w w' := by
  rcases Nat.lt_or_ge 255 s.size with hs | hs
  · exact rtext_no v bs s w h hs
  · exact rtext_yes v bs s w h hs hm

end Go.Proofs.Ytcojpbckeebohaa
