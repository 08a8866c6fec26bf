/-
  Contracts: bits.Put, bits.Take.
-/
import Derived.Test.YtcojpbckeebohaaBc
namespace Go.Proofs.Ytcojpbckeebohaa
open Go.RowKit Go.Joins

set_option maxHeartbeats 2000000 in
theorem put_no (v u : Value) (bs : List Nat) (zs : List Int) (n : Int) (w : World) (h : Tx w v bs) (hn : PlainBits.wide n = false) :
    Calls Try.prog 39 #[v, .int .i64 n, u] w fun e w' => ∃ v', e = .returned v' ∧ Ow w' w.heap.size v' (PlainBits.putS bs n zs) ∧ Below w.heap.size w w' := by
  have hp : PlainBits.putS bs n zs = bs := by simp [PlainBits.putS, hn]
  rw [hp]
  clear hp
  go_enter Try.func39, Try.ntmps39
  go_wp2_with fail
  refine (wide_any _ _).mono ?_
  rintro e w1 ⟨rfl, rfl⟩
  rw [hn]
  go_wp2_with fail
  refine (copied_any v bs 0 w h (by decide)).mono ?_
  rintro e w1 ⟨v', rfl, hO, hB⟩
  have HO := Lib.hid hO
  clear hO
  go_wp2
  go_ret
  exact ⟨_, rfl, HO.out, hB⟩

set_option maxHeartbeats 2000000 in
theorem put_yes (v u : Value) (bs : List Nat) (zs : List Int) (n : Nat) (w : World) (h : Tx w v bs) (hz : In w u zs) (h1 : 1 ≤ n) (h4 : n ≤ 4) (hm : bs.length ≤ 65536) :
    Calls Try.prog 39 #[v, .int .i64 (n : Int), u] w fun e w' => ∃ v', e = .returned v' ∧ Ow w' w.heap.size v' (PlainBits.put bs n zs) ∧ Below w.heap.size w w' := by
  have hw : PlainBits.wide (n : Int) = true := by simp [PlainBits.wide]; omega
  obtain ⟨A, c, rfl⟩ := hz.form
  have hzl := hz.2.2
  have hzr := hz.2.1
  have hpl := PlainBits.put_length bs n
  go_enter Try.func39, Try.ntmps39
  go_wp2_with fail
  refine (wide_any _ _).mono ?_
  rintro e w1 ⟨rfl, rfl⟩
  rw [hw]
  have hmul : n * zs.length ≤ 262144 := by
    have := Nat.mul_le_mul h4 hzl
    omega
  generalize hL : zs.length = L at *
  have hmi : ((n : Int) * (L : Int)) = ((n * L : Nat) : Int) := by simp
  have hmr : (n : Int) * (L : Int) ≤ 262144 := by rw [hmi]; omega
  have hm0 : 0 ≤ (n : Int) * (L : Int) := by rw [hmi]; omega
  have HMI := Lib.hid hmi
  clear hmi
  go_wp2_with fail
  rw [HMI.out]
  refine (copied_any v bs (n * L) w h (by omega)).mono ?_
  rintro e w1 ⟨v', rfl, hO, hB⟩
  have HZ := Lib.hid hz
  have HO := Lib.hid hO
  have HP := Lib.hid hpl
  have HR := Lib.hid hzr
  clear h hz hO hpl hmr hm0 hzr
  go_wp2
  go_loopw [7, 23] (fun s i wr => ∃ k : Nat, k ≤ L ∧ i = .int .i64 (k : Int) ∧ Ow wr w.heap.size s (PlainBits.put bs n (zs.take k)) ∧ Below w.heap.size w wr) (fun _ i _ => L - (intOf i).toNat)
  case atStart => exact ⟨0, Nat.zero_le _, rfl, by simpa [PlainBits.put_nil] using HO.out, hB⟩
  case round =>
    obtain ⟨k, hk, rfl, hOk, hBk⟩ := hrel
    have zr := hBk.size
    by_cases hlt : k < L
    · have hsl := (HZ.out.below hBk).1
      rw [hL] at hsl
      obtain ⟨A', c', hv, _, hA⟩ := hsl
      injection hv with e1 e2 e3
      subst e1 e3
      obtain ⟨b0, o, rfl, _, hcell⟩ := hA (by omega)
      obtain ⟨x, hx⟩ : ∃ x, zs[k]? = some x := ⟨_, List.getElem?_eq_getElem (by omega)⟩
      have hg := hcell k (by omega)
      rw [List.getElem?_map, hx, Option.map_some, iv] at hg
      have hxr := HR.out x (List.mem_of_getElem? hx)
      have hnext : PlainBits.put bs n (zs.take (k + 1)) = PlainBits.put bs n (zs.take k) ++ PlainBits.enc n x := by
        rw [List.take_add_one, hx]; exact PlainBits.put_snoc _ _ _ _
      have hlen : (PlainBits.put bs n (zs.take k)).length ≤ 1048576 := by
        rw [HP.out]
        have : n * (zs.take k).length ≤ n * L := Nat.mul_le_mul_left n (by simp; omega)
        omega
      have HN := Lib.hid hnext
      clear hcell hA hnext hx
      generalize hb : PlainBits.put bs n (zs.take k) = bk at *
      have HOk := Lib.hid hOk
      clear hOk
      go_wp2_with fail
      refine (behind_any w.heap.size _ bk n h4 x hxr wr HOk.out zr hlen).mono ?_
      rintro e w2 ⟨v2, rfl, hO2, hB2⟩
      have HO2 := Lib.hid hO2
      clear hO2
      go_wp2
      go_roundw
      case rel =>
        refine ⟨k + 1, by omega, by go_num, by rw [HN.out]; exact HO2.out, hBk.trans hB2⟩
      case measure => simp [intOf]; omega
    · have hkn : k = L := by omega
      subst hkn
      rw [List.take_of_length_le (by omega)] at hOk
      have HO := Lib.hid hOk
      clear hOk
      go_wp2
      go_ret
      exact ⟨_, rfl, HO.out, hBk⟩

theorem put_any (v u : Value) (bs : List Nat) (zs : List Int) (n : Int) (w : World) (h : Tx w v bs) (hz : In w u zs) (hm : bs.length ≤ 65536) :
    Calls Try.prog 39 #[v, .int .i64 n, u] w fun e w' => ∃ v', e = .returned v' ∧ Ow w' w.heap.size v' (PlainBits.putS bs n zs) ∧ Below w.heap.size w w' := by
  cases hn : PlainBits.wide n with
  | false => exact put_no v u bs zs n w h hn
  | true =>
    have hr : 1 ≤ n ∧ n ≤ 4 := by simpa [PlainBits.wide] using hn
    obtain ⟨m, rfl⟩ := Int.eq_ofNat_of_zero_le (show 0 ≤ n by omega)
    have := put_yes v u bs zs m w h hz (by omega) (by omega) hm
    simpa [PlainBits.putS, hn] using this

set_option maxHeartbeats 2000000 in
theorem take_no (v : Value) (bs : List Nat) (n : Int) (w : World) (h : Tx w v bs) (hn : PlainBits.can bs.length n = false) :
    Calls Try.prog 36 #[v, .int .i64 n] w fun e w' => e = .returned (.tuple #[.int .i64 0, .bool false]) ∧ w = w' := by
  obtain ⟨A, c, rfl⟩ := h.form
  have hl := h.2.2
  clear h
  cases hw : PlainBits.wide n with
  | false =>
    clear hn
    go_enter Try.func36, Try.ntmps36
    go_wp2_with fail
    refine (wide_any _ _).mono ?_
    rintro e w1 ⟨rfl, rfl⟩
    rw [hw]
    go_wp2
    go_ret2
    exact ⟨rfl, rfl⟩
  | true =>
    have hlt : (bs.length : Int) < n := by simpa [PlainBits.can, hw] using hn
    clear hn
    generalize bs.length = L at *
    go_enter Try.func36, Try.ntmps36
    go_wp2_with fail
    refine (wide_any _ _).mono ?_
    rintro e w1 ⟨rfl, rfl⟩
    rw [hw]
    go_wp2
    go_ret2
    exact ⟨rfl, rfl⟩

set_option maxHeartbeats 2000000 in
theorem take_yes (v : Value) (bs : List Nat) (n : Nat) (w : World) (h : Tx w v bs) (h1 : 1 ≤ n) (h4 : n ≤ 4) (hn : n ≤ bs.length) :
    Calls Try.prog 36 #[v, .int .i64 (n : Int)] w fun e w' => e = .returned (.tuple #[.int .i64 ((PlainBits.dec (bs.take n) : Nat) : Int), .bool true]) ∧ w = w' := by
  obtain ⟨A, c, rfl⟩ := h.form
  have hl := h.2.2
  have hb := h.2.1
  have hw : PlainBits.wide (n : Int) = true := by simp [PlainBits.wide]; omega
  obtain ⟨A', c', hv, _, hA⟩ := h.1
  injection hv with e1 e2 e3
  subst e1 e3
  obtain ⟨b0, o, rfl, _, hcell⟩ := hA (by omega)
  have HC := Lib.hid hcell
  have HB := Lib.hid hb
  clear h hA hcell hb
  have hnl : ¬ ((bs.length : Int) < (n : Int)) := by omega
  generalize hL : bs.length = L at *
  have HL := Lib.hid hL
  clear hL
  go_enter Try.func36, Try.ntmps36
  go_wp2_with fail
  refine (wide_any _ _).mono ?_
  rintro e w1 ⟨rfl, rfl⟩
  rw [hw]
  go_wp2
  go_loop [6, 7] (fun x i => ∃ k : Nat, k ≤ n ∧ i = .int .i64 ((k : Int) - 1) ∧ x = .int .i64 ((PlainBits.dec ((bs.take n).drop k) : Nat) : Int)) (fun _ i => (intOf i + 1).toNat)
  case atStart => exact ⟨n, Nat.le_refl _, rfl, by rw [List.drop_of_length_le (by simp; omega)]; rfl⟩
  case round =>
    obtain ⟨k, hk, rfl, rfl⟩ := hrel
    by_cases hk0 : 0 < k
    · have hkl : k - 1 < (bs.take n).length := by have := HL.out; simp; omega
      have hd := PlainBits.dec_drop (bs.take n) (k - 1) hkl
      rw [show k - 1 + 1 = k by omega] at hd
      have hlt : PlainBits.dec ((bs.take n).drop k) < 16777216 := by
        have := PlainBits.dec_lt ((bs.take n).drop k) (fun b hb => HB.out b (List.mem_of_mem_take (List.mem_of_mem_drop hb)))
        have hle : ((bs.take n).drop k).length ≤ 3 := by simp; omega
        exact Nat.lt_of_lt_of_le this (Nat.pow_le_pow_right (by decide) hle)
      have hbk : bs[k - 1]? = some ((bs.take n).getD (k - 1) 0) := by
        have := HL.out
        have h1 : k - 1 < bs.length := by omega
        have h2 : k - 1 < n := by omega
        simp [List.getD, h1, h2]
      have hg := HC.out (k - 1) (by omega)
      rw [List.getElem?_map, hbk, Option.map_some, bv] at hg
      have hb256 : (bs.take n).getD (k - 1) 0 < 256 := HB.out _ (List.mem_of_getElem? hbk)
      have HD := Lib.hid hd
      clear hd hbk hkl
      generalize hx : PlainBits.dec ((bs.take n).drop k) = x at *
      generalize (bs.take n).getD (k - 1) 0 = b at *
      have hor := or_i64 (x * 256) b (by omega) (by omega)
      rw [PlainBits.shl_or x b hb256, Int.natCast_mul] at hor
      have hor' : bits .or .i64 ((x : Int) * 256) (b : Int) = ((b + 256 * x : Nat) : Int) := hor
      rw [← HD.out] at hor'
      clear hor
      have hr : PlainBits.dec ((bs.take n).drop (k - 1)) < 4294967296 := by have := HD.out; omega
      generalize hy : PlainBits.dec ((bs.take n).drop (k - 1)) = y at *
      have HY := Lib.hid hy
      clear hy hx
      obtain ⟨m, rfl⟩ : ∃ m, k = m + 1 := ⟨k - 1, by omega⟩
      rw [Nat.add_sub_cancel] at hg
      go_wp2
      go_round
      case rel => exact ⟨m, by omega, by go_num, by rw [← HY.out]; rfl⟩
      case measure => simp [intOf]
    · have hk0' : k = 0 := by omega
      subst hk0'
      rw [List.drop_zero]
      go_wp2
      go_ret2
      exact ⟨rfl, rfl⟩

theorem take_any (v : Value) (bs : List Nat) (n : Int) (w : World) (h : Tx w v bs) :
    Calls Try.prog 36 #[v, .int .i64 n] w fun e w' => e = .returned (.tuple #[.int .i64 ((PlainBits.takeN bs n : Nat) : Int), .bool (PlainBits.can bs.length n)]) ∧ w = w' := by
  cases hn : PlainBits.can bs.length n with
  | false => simpa [PlainBits.takeN, hn] using take_no v bs n w h hn
  | true =>
    have hr : (1 ≤ n ∧ n ≤ 4) ∧ n ≤ bs.length := by simpa [PlainBits.can, PlainBits.wide] using hn
    obtain ⟨m, rfl⟩ := Int.eq_ofNat_of_zero_le (show 0 ≤ n by omega)
    have := take_yes v bs m w h (by omega) (by omega) (by omega)
    simpa [PlainBits.takeN, hn] using this
end Go.Proofs.Ytcojpbckeebohaa
