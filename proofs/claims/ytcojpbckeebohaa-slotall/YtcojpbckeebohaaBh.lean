/-
  The document's answer: glacisref1.Put, One.
-/
import Derived.Test.YtcojpbckeebohaaBf
namespace Go.Proofs.Ytcojpbckeebohaa
open Go.RowKit Go.Joins

theorem own_mono {w : World} {base base' size n : Nat} {e : TypeId} {v : Value} {xs : List Value} (h : w.ownsRow base' e size v n xs) (hb : base ≤ base') : w.ownsRow base e size v n xs := by
  refine ⟨h.1, ?_⟩
  rcases h.2 with h0 | ⟨g, cap, cur, hv, hg, hr⟩
  · exact .inl h0
  · exact .inr ⟨g, cap, cur, hv, by omega, hr⟩

set_option maxHeartbeats 2000000 in
theorem rput_no (v u : Value) (bs : List Nat) (zs : List Int) (n : Int) (w : World) (h : Tx w v bs) (hz : In w u zs) (hn : PlainBits.wide n = false) :
    Calls Try.prog 21 #[v, .int .i64 n, u] w fun e w' => ∃ v', e = .returned v' ∧ Ow w' w.heap.size v' (PlainBits.putS bs n zs) ∧ Below w.heap.size w w' := by
  obtain ⟨i0, hi, hz0, hz1, hz2⟩ := info_parts Try.info5
  have hp : PlainBits.putS bs n zs = bs := by simp [PlainBits.putS, hn]
  rw [hp]
  clear hp
  have hr : ¬ (1 ≤ n ∧ n ≤ 4) := by simpa [PlainBits.wide] using hn
  clear hn
  obtain ⟨A, c, rfl⟩ := h.form
  obtain ⟨B, d, rfl⟩ := hz.form
  have hzl := hz.2.2
  obtain ⟨hs, hb, hl⟩ := h
  have HS := Lib.hid hs
  have HB := Lib.hid hb
  clear hs hb hz
  generalize hN : bs.length = N at *
  have HN := Lib.hid hN
  clear hN
  generalize zs.length = L at *
  go_enter Try.func21, Try.ntmps21
  go_wp2_with (at_builtin; refine wpList_append_sl rfl _ _ 30 rfl w.heap.size 5 i0 (.int .u8 0) 1 1 Try.underlying30 hi hz0 hz1 hz2 rfl (by decide) _ _ _ rfl (World.ownsRow_made w #[] 0 (Nat.le_refl _) (Nat.zero_le _) rfl) A N c (bs.map bv) rfl ?q1 (bytes_one bs) ?q2 ?q3 ?q4 ?_)
  case q1 => exact HS.out.below (al _ _)
  case q2 => unfold maxLen; omega
  case q3 => omega
  case q4 => simp
  intro v' w1 hown hgrow
  have hB : Below w.heap.size w w1 := ((Below.refl _ w).alloc (Nat.le_refl _) (.cells #[] 5)).grown hgrow (by simp) (fun k hk => by simp [Value.ownBlock] at hk; omega)
  have hO : Ow w1 w.heap.size v' bs := ⟨by rw [HN.out]; simpa using hown, HB.out⟩
  have HO := Lib.hid hO
  clear hO hown hgrow
  go_wp2
  go_loopw [7, 8, 9] (fun s k i wr => s = v' ∧ k = .int .i64 0 ∧ wr = w1) (fun _ _ _ _ => 0)
  case atStart => exact ⟨rfl, rfl, rfl⟩
  case round =>
    obtain ⟨rfl, rfl, rfl⟩ := hrel
    by_cases h0 : (0 : Int) < (L : Int)
    · by_cases h1 : 1 ≤ n
      · have h4 : ¬ n ≤ 4 := by omega
        go_wp2
        go_ret
        exact ⟨_, rfl, HO.out, hB⟩
      · go_wp2
        go_ret
        exact ⟨_, rfl, HO.out, hB⟩
    · go_wp2
      go_ret
      exact ⟨_, rfl, HO.out, hB⟩

theorem byte_shr (x : Int) (k : Nat) : x / 256 ^ k % 256 = ((PlainBits.byteAt x k : Nat) : Int) := by rw [PlainBits.byteAt]; omega

set_option maxHeartbeats 4000000 in
theorem rput_yes (v u : Value) (bs : List Nat) (zs : List Int) (n : Nat) (w : World) (h : Tx w v bs) (hz : In w u zs) (h1 : 1 ≤ n) (h4 : n ≤ 4) (hm : bs.length ≤ 65536) :
    Calls Try.prog 21 #[v, .int .i64 (n : Int), u] w fun e w' => ∃ v', e = .returned v' ∧ Ow w' w.heap.size v' (PlainBits.put bs n zs) ∧ Below w.heap.size w w' := by
  obtain ⟨i0, hi, hz0, hz1, hz2⟩ := info_parts Try.info5
  obtain ⟨A, c, rfl⟩ := h.form
  obtain ⟨B, d, rfl⟩ := hz.form
  have hzl := hz.2.2
  have HZ := Lib.hid hz
  have HP := Lib.hid (PlainBits.put_length bs n)
  obtain ⟨hs, hb, hl⟩ := h
  have HS := Lib.hid hs
  have HB := Lib.hid hb
  clear hs hb hz hl
  generalize hN : bs.length = N at *
  have HN := Lib.hid hN
  clear hN
  generalize hL : zs.length = L at *
  have HL := Lib.hid hL
  clear hL
  have hn1 : 1 ≤ (n : Int) := by omega
  have hn4 : (n : Int) ≤ 4 := by omega
  go_enter Try.func21, Try.ntmps21
  go_wp2_with (at_builtin; refine wpList_append_sl rfl _ _ 30 rfl w.heap.size 5 i0 (.int .u8 0) 1 1 Try.underlying30 hi hz0 hz1 hz2 rfl (by decide) _ _ _ rfl (World.ownsRow_made w #[] 0 (Nat.le_refl _) (Nat.zero_le _) rfl) A N c (bs.map bv) rfl ?q1 (bytes_one bs) ?q2 ?q3 ?q4 ?_)
  case q1 => exact HS.out.below (al _ _)
  case q2 => unfold maxLen; omega
  case q3 => omega
  case q4 => simp
  intro v' w1 hown hgrow
  have hB : Below w.heap.size w w1 := ((Below.refl _ w).alloc (Nat.le_refl _) (.cells #[] 5)).grown hgrow (by simp) (fun k hk => by simp [Value.ownBlock] at hk; omega)
  have hO : Ow w1 w.heap.size v' bs := ⟨by rw [HN.out]; simpa using hown, HB.out⟩
  have HO := Lib.hid hO
  clear hO hown hgrow
  go_wp2
  go_loopw [7, 8, 9] (fun s kk _ wr => ∃ k : Nat, k ≤ L ∧ kk = .int .i64 (k : Int) ∧ Ow wr w.heap.size s (PlainBits.put bs n (zs.take k)) ∧ Below w.heap.size w wr) (fun _ k _ _ => L - (intOf k).toNat)
  case atStart => exact ⟨0, Nat.zero_le _, rfl, by simpa [PlainBits.put_nil] using HO.out, hB⟩
  case round =>
    obtain ⟨k, hk, rfl, hOk, hBk⟩ := hrel
    have HOk := Lib.hid hOk
    clear hOk
    by_cases hlt : k < L
    · obtain ⟨x, hx⟩ : ∃ x, zs[k]? = some x := ⟨_, List.getElem?_eq_getElem (by have := HL.out; omega)⟩
      have hxr := HZ.out.2.1 x (List.mem_of_getElem? hx)
      have hnext : PlainBits.put bs n (zs.take (k + 1)) = PlainBits.put bs n (zs.take k) ++ PlainBits.enc n x := by
        rw [List.take_add_one, hx]; exact PlainBits.put_snoc _ _ _ _
      have HNx := Lib.hid hnext
      have hlen : (PlainBits.put bs n (zs.take k)).length ≤ 1000000 := by
        rw [HP.out]
        have : n * (zs.take k).length ≤ 4 * 65536 := Nat.mul_le_mul h4 (by have := HL.out; simp; omega)
        have := HN.out
        omega
      have HX := Lib.hid hx
      clear hnext hx
      generalize PlainBits.put bs n (zs.take k) = bk at *
      have hlti : (k : Int) < (L : Int) := by omega
      go_wp2
      go_loopw [7, 9] (fun s ii wr => ∃ i : Nat, i ≤ n ∧ ii = .int .i64 (i : Int) ∧ Ow wr w.heap.size s (bk ++ PlainBits.enc i x) ∧ Below w.heap.size w wr) (fun _ i _ => n - (intOf i).toNat)
      case atStart => exact ⟨0, Nat.zero_le _, rfl, by simpa [PlainBits.enc_zero] using HOk.out, hBk⟩
      case round =>
        obtain ⟨i, hii, rfl, hOi, hBi⟩ := hrel
        have zi := hBi.size
        have HOi := Lib.hid hOi
        clear hOi
        by_cases hin : i < n
        · have hsl := (HZ.out.below hBi).1
          rw [HL.out] at hsl
          obtain ⟨B', d', hv, _, hA⟩ := hsl
          injection hv with e1 e2 e3
          subst e1 e3
          obtain ⟨b0, o, rfl, _, hcell⟩ := hA (by omega)
          have hg := hcell k (by omega)
          rw [List.getElem?_map, HX.out, Option.map_some, iv] at hg
          clear hcell hA
          have hO1 := HOi.out.1
          have hlen2 : (bk ++ PlainBits.enc i x).length = bk.length + i := by simp [PlainBits.enc_length]
          generalize (bk ++ PlainBits.enc i x).length = M at hO1 hlen2
          have hM : M ≤ 1000004 := by omega
          have HM := Lib.hid hlen2
          clear hlen2
          generalize hxs : (bk ++ PlainBits.enc i x).map bv = xs at hO1
          have HXS := Lib.hid hxs
          clear hxs
          obtain ⟨A2, c2, rfl⟩ := own_form hO1
          have hi4 : i ≤ 3 := by omega
          have hby := byte_shr x i
          rw [show ((256 : Int) ^ i) = 2 ^ (8 * i) by rw [Int.pow_mul]; rfl] at hby
          have hlt256 := PlainBits.byteAt_lt x i
          go_wp2_with (at_builtin; refine wpList_append_sl rfl _ _ 30 rfl w.heap.size 5 i0 (.int .u8 0) 1 1 Try.underlying30 hi hz0 hz1 hz2 rfl (by decide) _ _ _ rfl (hO1.alloc _) _ 1 1 _ rfl (Sl.new wr _ 5 _ 1 1 _ rfl rfl) ?q1 ?q2 ?q3 ?q4 ?_)
          case q1 => rfl
          case q2 => unfold maxLen; omega
          case q3 => omega
          case q4 => omega
          intro v2 w2 hown hgrow
          have hb2 : Below w.heap.size w w2 := (hBi.alloc (by omega) _).grown hgrow (by simp; omega) (fun k hk => own_ge hO1 hk)
          have hnew : xs ++ [Value.int .u8 ((PlainBits.byteAt x i : Nat) : Int)] = (bk ++ PlainBits.enc (i + 1) x).map bv := by
            rw [← HXS.out, PlainBits.enc_snoc]; simp [bv]
          have hnl : (bk ++ PlainBits.enc (i + 1) x).length = M + 1 := by have := HM.out; simp [PlainBits.enc_length]; omega
          have hown' : Ow w2 w.heap.size v2 (bk ++ PlainBits.enc (i + 1) x) := by
            refine ⟨by rw [hnl, ← hnew]; exact hown, fun b hb => ?_⟩
            rw [PlainBits.enc_snoc, ← List.append_assoc] at hb
            rcases List.mem_append.1 hb with h | h
            · exact HOi.out.2 b h
            · simp at h; omega
          have HW := Lib.hid hown'
          clear hown hown' hgrow hnew hnl
          go_wp2
          go_roundw
          case rel => exact ⟨i + 1, by omega, by go_num, HW.out, hb2⟩
          case measure => simp [intOf]; omega
        · have hin' : i = n := by omega
          subst hin'
          go_wp2
          go_roundw
          case rel => exact ⟨k + 1, by omega, by go_num, by rw [HNx.out]; exact HOi.out, hBi⟩
          case measure => simp [intOf]; omega
    · have hkl : k = L := by omega
      subst hkl
      have hO := HOk.out
      rw [List.take_of_length_le (by have := HL.out; omega)] at hO
      have HO2 := Lib.hid hO
      clear hO
      go_wp2
      go_ret
      exact ⟨_, rfl, HO2.out, hBk⟩

theorem rput_any (v u : Value) (bs : List Nat) (zs : List Int) (n : Int) (w : World) (h : Tx w v bs) (hz : In w u zs) (hm : bs.length ≤ 65536) :
    Calls Try.prog 21 #[v, .int .i64 n, u] w fun e w' => ∃ v', e = .returned v' ∧ Ow w' w.heap.size v' (PlainBits.putS bs n zs) ∧ Below w.heap.size w w' := by
  cases hn : PlainBits.wide n with
  | false => exact rput_no v u bs zs n w h hz hn
  | true =>
    have hr : 1 ≤ n ∧ n ≤ 4 := by simpa [PlainBits.wide] using hn
    obtain ⟨m, rfl⟩ := Int.eq_ofNat_of_zero_le (show 0 ≤ n by omega)
    have := rput_yes v u bs zs m w h hz (by omega) (by omega) hm
    simpa [PlainBits.putS, hn] using this

set_option maxHeartbeats 1000000 in
theorem one_any (v : Value) (bs : List Nat) (n x : Int) (hx : -9223372036854775808 ≤ x ∧ x ≤ 9223372036854775807) (w : World) (h : Tx w v bs) (hm : bs.length ≤ 65536) :
    Calls Try.prog 28 #[v, .int .i64 n, .int .i64 x] w fun e w' => ∃ v', e = .returned v' ∧ Ow w' w.heap.size v' (PlainBits.putS bs n [x]) ∧ Below w.heap.size w w' := by
  go_enter Try.func28, Try.ntmps28
  go_wp2_with fail
  refine (rput_any v _ bs [x] n _ (h.alloc _) (In.new w _ _ 1 1 _ rfl _ rfl rfl (by simpa using hx) (by decide)) hm).mono ?_
  rintro e w1 ⟨v', rfl, hO, hB⟩
  have hb1 : Below w.heap.size w w1 := ((Below.refl _ w).alloc (Nat.le_refl _) (.cells #[.int .i64 x] 3)).trans (hB.mono (by simp))
  have hO1 : Ow w1 w.heap.size v' (PlainBits.putS bs n [x]) := ⟨own_mono hO.1 (by simp), hO.2⟩
  have HO := Lib.hid hO1
  clear hO hO1 hB
  go_wp2
  go_ret
  exact ⟨_, rfl, HO.out, hb1⟩
end Go.Proofs.Ytcojpbckeebohaa
