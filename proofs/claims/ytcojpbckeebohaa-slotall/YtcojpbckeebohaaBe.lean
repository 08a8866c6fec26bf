/-
  Contracts: bits.Text, bits.TakeText.
-/
import Derived.Test.YtcojpbckeebohaaBd
namespace Go.Proofs.Ytcojpbckeebohaa
open Go.RowKit Go.Joins

set_option maxHeartbeats 2000000 in
theorem text_no (v : Value) (bs : List Nat) (s : ByteArray) (w : World) (h : Tx w v bs) (hs : 255 < s.size) :
    Calls Try.prog 42 #[v, .string s] w fun e w' => ∃ v', e = .returned v' ∧ Ow w' w.heap.size v' (PlainBits.textS bs (nums s)) ∧ Below w.heap.size w w' := by
  have hp : PlainBits.textS bs (nums s) = bs := by simp [PlainBits.textS, nums_length]; omega
  rw [hp]
  clear hp
  have hs' : (255 : Int) < (s.size : Int) := by omega
  go_enter Try.func42, Try.ntmps42
  go_wp2_with fail
  refine (copied_any v bs 0 w h (by decide)).mono ?_
  rintro e w1 ⟨v', rfl, hO, hB⟩
  have HO := Lib.hid hO
  clear hO
  go_wp2
  go_ret
  exact ⟨_, rfl, HO.out, hB⟩

theorem enc_one (x : Nat) (h : x < 256) : PlainBits.enc 1 (x : Int) = [x] := by
  have : (x : Int) % 256 = x := by omega
  simp [PlainBits.enc, PlainBits.byteAt, List.range_succ, this]

set_option maxHeartbeats 2000000 in
theorem text_yes (v : Value) (bs : List Nat) (s : ByteArray) (w : World) (h : Tx w v bs) (hs : s.size ≤ 255) (hm : bs.length ≤ 65536) :
    Calls Try.prog 42 #[v, .string s] w fun e w' => ∃ v', e = .returned v' ∧ Ow w' w.heap.size v' (PlainBits.textS bs (nums s)) ∧ Below w.heap.size w w' := by
  obtain ⟨i0, hi, hz0, hz1, hz2⟩ := info_parts Try.info5
  have hp : PlainBits.textS bs (nums s) = (bs ++ [s.size]) ++ nums s := by simp [PlainBits.textS, nums_length, hs]
  rw [hp]
  clear hp
  have hs' : ¬ (255 : Int) < (s.size : Int) := by omega
  go_enter Try.func42, Try.ntmps42
  go_wp2_with fail
  refine (copied_any v bs (1 + s.size) w h (by omega)).mono ?_
  rintro e w1 ⟨v1, rfl, hO, hB⟩
  have HO := Lib.hid hO
  have z1 := hB.size
  clear hO
  go_wp2_with fail
  refine (behind_any w.heap.size v1 bs 1 (by decide) (s.size : Int) (by omega) w1 HO.out z1 (by omega)).mono ?_
  rintro e w2 ⟨v2, rfl, hO2, hB2⟩
  rw [enc_one s.size (by omega)] at hO2
  have hB3 := hB.trans hB2
  have z2 := hB3.size
  have hO2a := hO2.1
  have HO2 := Lib.hid hO2.2
  clear hO2 hB hB2 HO
  have hlen : (bs ++ [s.size]).length = bs.length + 1 := by simp
  generalize hL : (bs ++ [s.size]).length = L at *
  generalize hxs : (bs ++ [s.size]).map bv = xs at *
  have HX := Lib.hid hxs
  have HL := Lib.hid hL
  have hLb : L ≤ 1048576 := by omega
  clear hxs hL hlen
  go_wp2_with (at_builtin; refine Lib.wpList_append_own_string _ rfl _ _ 30 9 rfl w.heap.size 5 i0 Try.underlying30 Try.underlying9 hi hz0 hz1 hz2 _ _ _ rfl hO2a s rfl ?q1 ?q2 ?q3 ?_)
  case q1 => unfold maxLen; omega
  case q2 => omega
  case q3 => exact z2
  intro v3 w3 hO3 hg3 _
  have hB4 := hB3.grown hg3 z2 (fun k hk => own_ge hO2a hk)
  have hO4 : Ow w3 w.heap.size v3 ((bs ++ [s.size]) ++ nums s) := by
    refine ⟨?_, fun b hb => ?_⟩
    · rw [List.length_append, HL.out, nums_length, List.map_append, HX.out, ← nums_cells]
      exact hO3
    · rcases List.mem_append.1 hb with h | h
      · exact HO2.out b h
      · exact nums_lt s b h
  have HO4 := Lib.hid hO4
  clear hO4 hO3 hg3 hO2a
  go_wp2
  go_ret
  exact ⟨_, rfl, HO4.out, hB4⟩

theorem text_any (v : Value) (bs : List Nat) (s : ByteArray) (w : World) (h : Tx w v bs) (hm : bs.length ≤ 65536) :
    Calls Try.prog 42 #[v, .string s] w fun e w' => ∃ v', e = .returned v' ∧ Ow w' w.heap.size v' (PlainBits.textS bs (nums s)) ∧ Below w.heap.size w w' := by
  rcases Nat.lt_or_ge 255 s.size with hs | hs
  · exact text_no v bs s w h hs
  · exact text_yes v bs s w h hs hm

/-- The slice value has no more elements than room. -/
def Cp (v : Value) : Prop := ∃ A n c, v = .slice A n c ∧ n ≤ c
theorem Ow.cap {w : World} {base : Nat} {v : Value} {bs : List Nat} (h : Ow w base v bs) : Cp v := by
  obtain ⟨A, c, hv, hc⟩ := own_cap h.1
  exact ⟨A, _, c, hv, hc⟩

/-- A piece of a text. -/
theorem Tx.piece {w : World} {A : Option Addr} {n c l h : Nat} {bs : List Nat} (x : Tx w (.slice A n c) bs) (l0 : bs.length = n) (hlh : l ≤ h) (hh : h ≤ n) (hnc : n ≤ c) : Tx w (sliced A l h c 1) ((bs.drop l).take (h - l)) := by
  obtain ⟨⟨A', c', hv, hl, hA⟩, hb, hm⟩ := x
  injection hv with e1 e2 e3
  subst e1 e3
  have hlen : ((bs.drop l).take (h - l)).length = h - l := by simp; omega
  refine ⟨⟨if c = l then A else A.map (·.add (l * 1)), c - l, by rw [hlen]; rfl, by simp, fun hn => ?_⟩, fun b hb' => hb b (List.mem_of_mem_drop (List.mem_of_mem_take hb')), by rw [hlen]; omega⟩
  rw [hlen] at hn
  obtain ⟨b, o, rfl, hbs, hc⟩ := hA (by omega)
  refine ⟨b, o + l, ?_, hbs, fun j hj => ?_⟩
  · rw [if_neg (by omega)]
    simp [Addr.add_lit]
  · rw [hlen] at hj
    have := hc (l + j) (by omega)
    rw [← Nat.add_assoc] at this
    rw [this]
    have h1 : j < h - l := by omega
    simp [h1]
theorem sliced_cap {A : Option Addr} {l h c : Nat} (hlh : l ≤ h) (hh : h ≤ c) : Cp (sliced A l h c 1) := ⟨_, _, _, rfl, by omega⟩

theorem sub_h {A : Option Addr} {n c p : Nat} {bs : List Nat} (l0 : bs.length = n) (hp : p ≤ n) (hnc : n ≤ c) : ∃ u, Cp u ∧ (∀ W, (Instr.slice 30 (.slice A n c) none (some (.int .i64 (p : Int))) none).run Try.prog W = .ok u W) ∧ ∀ W, Tx W (.slice A n c) bs → Tx W u (bs.take p) := by
  refine ⟨sliced A 0 p c 1, sliced_cap (Nat.zero_le _) (by omega), fun W => ?_, fun W h => by simpa using h.piece l0 (Nat.zero_le p) hp hnc⟩
  rw [run_slice_h W 30 A n c (by kernel_rfl) .i64 (p : Int) (by omega) (by omega)]
  kernel_rfl
theorem sub_lh {A : Option Addr} {n c p q : Nat} {bs : List Nat} (l0 : bs.length = n) (hpq : p ≤ q) (hq : q ≤ n) (hnc : n ≤ c) : ∃ u, Cp u ∧ (∀ W, (Instr.slice 30 (.slice A n c) (some (.int .i64 (p : Int))) (some (.int .i64 (q : Int))) none).run Try.prog W = .ok u W) ∧ ∀ W, Tx W (.slice A n c) bs → Tx W u ((bs.drop p).take (q - p)) := by
  refine ⟨sliced A p q c 1, sliced_cap hpq (by omega), fun W => ?_, fun W h => h.piece l0 hpq hq hnc⟩
  rw [run_slice_lh W 30 A n c (by kernel_rfl) .i64 .i64 (p : Int) (q : Int) (by omega) (by omega) (by omega)]
  kernel_rfl
theorem sub_l {A : Option Addr} {n c p : Nat} {bs : List Nat} (l0 : bs.length = n) (hp : p ≤ n) (hnc : n ≤ c) : ∃ u, Cp u ∧ (∀ W, (Instr.slice 30 (.slice A n c) (some (.int .i64 (p : Int))) none none).run Try.prog W = .ok u W) ∧ ∀ W, Tx W (.slice A n c) bs → Tx W u (bs.drop p) := by
  refine ⟨sliced A p n c 1, sliced_cap hp hnc, fun W => ?_, fun W h => by
    have := h.piece l0 hp (Nat.le_refl n) hnc
    rwa [List.take_of_length_le (by simp; omega)] at this⟩
  rw [run_slice_l W 30 A n c (by kernel_rfl) .i64 (p : Int) (by omega) (by omega)]
  kernel_rfl

theorem take1 (bs : List Nat) (h : PlainBits.can bs.length 1 = true) : PlainBits.takeN bs 1 = bs.getD 0 0 := by
  cases bs with
  | nil => simp [PlainBits.can] at h
  | cons x r => rw [PlainBits.take1]; rfl

set_option maxHeartbeats 2000000 in
theorem takeText_no (v : Value) (bs : List Nat) (w : World) (h : Tx w v bs) (hn : PlainBits.hasT bs = false) :
    Calls Try.prog 40 #[v] w fun e w' => e = .returned (.tuple #[.string (str []), .int .i64 0, .bool false]) ∧ w = w' := by
  cases hc : PlainBits.can bs.length 1 with
  | false =>
    go_enter Try.func40, Try.ntmps40
    go_wp2_with fail
    refine (take_any v bs 1 w h).mono ?_
    rintro e w1 ⟨rfl, rfl⟩
    rw [hc]
    clear hn hc
    go_wp2
    go_ret3
    exact ⟨rfl, rfl⟩
  | true =>
    have hlt : ¬ (1 + bs.getD 0 0 ≤ bs.length) := by simpa [PlainBits.hasT, hc] using hn
    obtain ⟨A, c, rfl⟩ := h.form
    have h256 : bs.getD 0 0 < 256 := by
      cases hb : bs with
      | nil => simp [hb, PlainBits.can] at hc
      | cons x r => exact h.2.1 x (by rw [hb]; simp)
    have hl := h.2.2
    go_enter Try.func40, Try.ntmps40
    go_wp2_with fail
    refine (take_any _ bs 1 w h).mono ?_
    rintro e w1 ⟨rfl, rfl⟩
    rw [hc, take1 bs hc]
    clear hn hc h
    generalize bs.getD 0 0 = x at *
    generalize bs.length = L at *
    have hq : (L : Int) < 1 + (x : Int) := by omega
    go_wp2
    go_ret3
    exact ⟨rfl, rfl⟩

set_option maxHeartbeats 2000000 in
theorem takeText_yes (v : Value) (bs : List Nat) (w : World) (h : Tx w v bs) (hcp : Cp v) (hn : PlainBits.hasT bs = true) :
    Calls Try.prog 40 #[v] w fun e w' => e = .returned (.tuple #[.string (str (PlainBits.takeT bs)), .int .i64 ((PlainBits.takeL bs : Nat) : Int), .bool true]) ∧ w = w' := by
  obtain ⟨hc, hle⟩ : PlainBits.can bs.length 1 = true ∧ 1 + bs.getD 0 0 ≤ bs.length := by simpa [PlainBits.hasT] using hn
  obtain ⟨A, c, rfl⟩ := h.form
  have hnc : bs.length ≤ c := by
    obtain ⟨A', n', c', hv, hle⟩ := hcp
    injection hv with e1 e2 e3
    omega
  have h256 : bs.getD 0 0 < 256 := by
    cases hb : bs with
    | nil => simp [hb, PlainBits.can] at hc
    | cons x r => exact h.2.1 x (by rw [hb]; simp)
  have hl := h.2.2
  have e1 : PlainBits.takeT bs = (bs.drop 1).take (1 + bs.getD 0 0 - 1) := by simp [PlainBits.takeT, hn]
  have e2 : PlainBits.takeL bs = 1 + bs.getD 0 0 := by simp [PlainBits.takeL, hn]
  rw [e1, e2]
  obtain ⟨u, _, hrun, hu⟩ := sub_lh (A := A) (c := c) (p := 1) (q := 1 + bs.getD 0 0) (bs := bs) rfl (by omega) (by omega) hnc
  have hs := (hu w h).string
  have hf := (hu w h).form
  have htk := take_any _ bs 1 w h
  rw [hc, take1 bs hc] at htk
  have hr := hrun w
  clear hn hc h hu e1 e2 hrun
  generalize (bs.drop 1).take (1 + bs.getD 0 0 - 1) = p at *
  generalize bs.getD 0 0 = x at *
  generalize bs.length = L at *
  have hq : ¬ (L : Int) < 1 + (x : Int) := by omega
  obtain ⟨B, d, rfl⟩ := hf
  have hr' : (Instr.slice 30 (.slice A L c) (some (.int .i64 1)) (some (.int .i64 (1 + (x : Int)))) none).run Try.prog w = .ok (.slice B p.length d) w := by
    rw [← hr]; rfl
  clear hr
  generalize p.length = pl at *
  go_enter Try.func40, Try.ntmps40
  go_wp2_with fail
  refine htk.mono ?_
  rintro e w1 ⟨rfl, rfl⟩
  go_wp2
  go_ret3
  exact ⟨rfl, rfl⟩

theorem takeText_any (v : Value) (bs : List Nat) (w : World) (h : Tx w v bs) (hcp : Cp v) :
    Calls Try.prog 40 #[v] w fun e w' => e = .returned (.tuple #[.string (str (PlainBits.takeT bs)), .int .i64 ((PlainBits.takeL bs : Nat) : Int), .bool (PlainBits.hasT bs)]) ∧ w = w' := by
  cases hn : PlainBits.hasT bs with
  | false => simpa [PlainBits.takeT, PlainBits.takeL, hn] using takeText_no v bs w h hn
  | true => exact takeText_yes v bs w h hcp hn
end Go.Proofs.Ytcojpbckeebohaa
