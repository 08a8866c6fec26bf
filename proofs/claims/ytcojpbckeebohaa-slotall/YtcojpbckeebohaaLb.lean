/-
  Contracts: slot.numbers, (start).within, (start).load, slot.of.
-/
import Derived.Test.YtcojpbckeebohaaKg
import Derived.Test.YtcojpbckeebohaaLa
namespace Go.Proofs.Ytcojpbckeebohaa
open Go.RowKit Go.Joins

theorem Bx.four {w : World} {g : Nat} {t : TypeId} {a b c d : Value} (h : Bx w g t #[a, b, c, d]) :
    w.cell? ⟨g, 0, none⟩ = some a ∧ w.cell? ⟨g, 1, none⟩ = some b ∧ w.cell? ⟨g, 2, none⟩ = some c ∧ w.cell? ⟨g, 3, none⟩ = some d ∧
    w.frozen? ⟨g, 0, none⟩ = false ∧ w.frozen? ⟨g, 1, none⟩ = false ∧ w.frozen? ⟨g, 2, none⟩ = false ∧ w.frozen? ⟨g, 3, none⟩ = false :=
  ⟨h.cell 0, h.cell 1, h.cell 2, h.cell 3, h.frozen 0, h.frozen 1, h.frozen 2, h.frozen 3⟩
theorem Bx.five {w : World} {g : Nat} {t : TypeId} {a b c d e : Value} (h : Bx w g t #[a, b, c, d, e]) :
    (w.cell? ⟨g, 0, none⟩ = some a ∧ w.cell? ⟨g, 1, none⟩ = some b ∧ w.cell? ⟨g, 2, none⟩ = some c ∧ w.cell? ⟨g, 3, none⟩ = some d ∧ w.cell? ⟨g, 4, none⟩ = some e) ∧
    w.frozen? ⟨g, 0, none⟩ = false ∧ w.frozen? ⟨g, 1, none⟩ = false ∧ w.frozen? ⟨g, 2, none⟩ = false ∧ w.frozen? ⟨g, 3, none⟩ = false ∧ w.frozen? ⟨g, 4, none⟩ = false :=
  ⟨⟨h.cell 0, h.cell 1, h.cell 2, h.cell 3, h.cell 4⟩, h.frozen 0, h.frozen 1, h.frozen 2, h.frozen 3, h.frozen 4⟩

/-- A slot, and its start, as the cells of a value. -/
def sv (x : PS.S) : Array Value := #[.int .i64 x.n, .int .i64 x.q, .int .i64 x.m, .int .i64 x.g, .int .i64 x.p]
/-- All its numbers are of an int. -/
def R5 (x : PS.S) : Prop := I64 x.n ∧ I64 x.q ∧ I64 x.m ∧ I64 x.g ∧ I64 x.p
theorem R5.may {x : PS.S} (h : PS.may x = true) : R5 x := by
  have := PS.may_spec.1 h
  unfold R5 I64
  omega

theorem num_no {z : Int} (h : z < 0 ∨ 1073741824 < z) : PS.num z = false := by simp [PS.num]; omega

set_option maxHeartbeats 2000000 in
theorem numbers_any (u : Value) (zs : List Int) (w : World) (hz : In w u zs) : Calls Try.prog 29 #[u] w fun e w' => e = .returned (.bool (zs.all PS.num)) ∧ w = w' := by
  obtain ⟨A, c, rfl⟩ := hz.form
  have hzl := hz.2.2
  have hzr := hz.2.1
  generalize hL : zs.length = L at *
  have HZ := Lib.hid hz
  have HR := Lib.hid hzr
  clear hz hzr
  go_enter Try.func29, Try.ntmps29
  go_wp2
  go_loopw [7] (fun i wr => ∃ k : Nat, k ≤ L ∧ i = .int .i64 (k : Int) ∧ w = wr ∧ (zs.take k).all PS.num = true) (fun i _ => L - (intOf i).toNat)
  case atStart => exact ⟨0, Nat.zero_le _, rfl, rfl, by simp⟩
  case round =>
    obtain ⟨k, hk, rfl, rfl, hall⟩ := hrel
    by_cases hlt : k < L
    · have hsl := HZ.out.1
      rw [hL] at hsl
      obtain ⟨A', c', hv, _, hA⟩ := hsl
      injection hv with e1 e2 e3
      subst e1 e3
      obtain ⟨b0, o, rfl, _, hcell⟩ := hA (by omega)
      obtain ⟨x, hx⟩ : ∃ x, zs[k]? = some x := ⟨_, List.getElem?_eq_getElem (by omega)⟩
      have hg := hcell k (by omega)
      rw [List.getElem?_map, hx, Option.map_some, iv] at hg
      have hnext : (zs.take (k + 1)).all PS.num = PS.num x := by
        rw [List.take_add_one, hx, List.all_append, hall]; simp
      have hmem := List.mem_of_getElem? hx
      have hno : PS.num x = false → zs.all PS.num = false := fun h => by
        rw [List.all_eq_false]
        exact ⟨x, hmem, by simp [h]⟩
      have HN := Lib.hid hnext
      have HO := Lib.hid hno
      clear hcell hA hnext hx hall hno hmem
      by_cases h0 : x < 0
      · have ha : zs.all PS.num = false := HO.out (num_no (.inl h0))
        have HA := Lib.hid ha
        clear ha
        go_wp2
        go_ret
        exact ⟨by rw [HA.out]; rfl, rfl⟩
      · by_cases h1 : 1073741824 < x
        · have ha : zs.all PS.num = false := HO.out (num_no (.inr h1))
          have HA := Lib.hid ha
          clear ha
          go_wp2
          go_ret
          exact ⟨by rw [HA.out]; rfl, rfl⟩
        · have ht : PS.num x = true := PS.num_spec.2 (by omega)
          have HT := Lib.hid ht
          clear ht
          go_wp2
          go_roundw
          case rel => exact ⟨k + 1, by omega, by go_num, trivial, by rw [HN.out, HT.out]⟩
          case measure => simp [intOf]; omega
    · have hkn : k = L := by omega
      subst hkn
      rw [List.take_of_length_le (by omega)] at hall
      have HA := Lib.hid hall
      clear hall
      go_wp2
      go_ret
      exact ⟨by rw [HA.out]; rfl, rfl⟩

theorem In.many (w : World) (zs : List Int) (cs : Array Value) (hc : cs = (zs.map iv).toArray) (h : ∀ z ∈ zs, I64 z) (hm : zs.length ≤ 65536) (g n : Nat) (hg : g = w.heap.size) (hn : zs.length = n) : In (w.alloc (.cells cs 3)) (.slice (some ⟨g, 0, none⟩) n n) zs :=
  In.new w cs (0, 0) n n g hg zs (by rw [hc]) hn h (by omega)

set_option maxHeartbeats 2000000 in
theorem within_any (q m g p : Int) (hq : I64 q) (hm : I64 m) (hg : I64 g) (hp : I64 p) (w : World) : Calls Try.prog 30 #[.agg #[.int .i64 q, .int .i64 m, .int .i64 g, .int .i64 p]] w fun e w' => e = .returned (.bool (PS.within q m g p)) ∧ Below w.heap.size w w' := by
  have hx := Bx.new w 42 #[.int .i64 q, .int .i64 m, .int .i64 g, .int .i64 p]
  have hB := al w (.cells #[.int .i64 q, .int .i64 m, .int .i64 g, .int .i64 p] 42)
  have hrange : ∀ z ∈ [q, m, g, p], I64 z := by
    intro z hz
    simp at hz
    rcases hz with rfl | rfl | rfl | rfl <;> assumption
  have hI := In.many (w.alloc (.cells #[.int .i64 q, .int .i64 m, .int .i64 g, .int .i64 p] 42)) [q, m, g, p] #[.int .i64 q, .int .i64 m, .int .i64 g, .int .i64 p] rfl hrange (by simp) _ 4 rfl rfl
  have HI := Lib.hid hI
  clear hI hrange
  unfold PS.within
  generalize hall : [q, m, g, p].all PS.num = t
  have HA := Lib.hid hall
  clear hall
  go_enter Try.func30, Try.ntmps30
  go_wp2_with fail
  refine (numbers_any _ [q, m, g, p] _ (by simpa using HI.out)).mono ?_
  rintro e w1 ⟨rfl, rfl⟩
  rw [HA.out]
  have hy := hx.alloc (.cells #[.int .i64 q, .int .i64 m, .int .i64 g, .int .i64 p] 3)
  have hB1 := hB.alloc (by simp) (.cells #[.int .i64 q, .int .i64 m, .int .i64 g, .int .i64 p] 3)
  obtain ⟨c0, c1, c2, c3, _, _, _, _⟩ := hy.four
  clear hx hB HI
  cases t with
  | true =>
    go_wp2
    go_ret
    exact ⟨by simp, hB1⟩
  | false =>
    go_wp2
    go_ret
    exact ⟨by simp, hB1⟩

set_option maxHeartbeats 2000000 in
theorem load_any (q m g p : Int) (hq : I64 q) (hm : I64 m) (hg : I64 g) (hp : I64 p) (w : World) : Calls Try.prog 32 #[.agg #[.int .i64 q, .int .i64 m, .int .i64 g, .int .i64 p]] w fun e w' => e = .returned (.string (PS.load q m g p)) ∧ Below w.heap.size w w' := by
  have hB := al w (.cells #[.int .i64 q, .int .i64 m, .int .i64 g, .int .i64 p] 42)
  have hrange : ∀ z ∈ [q, m, g, p], I64 z := by
    intro z hz
    simp at hz
    rcases hz with rfl | rfl | rfl | rfl <;> assumption
  have hI := In.many (w.alloc (.cells #[.int .i64 q, .int .i64 m, .int .i64 g, .int .i64 p] 42)) [q, m, g, p] #[.int .i64 q, .int .i64 m, .int .i64 g, .int .i64 p] rfl hrange (by simp) _ 4 rfl rfl
  have HI := Lib.hid hI
  have hl : PlainBits.putS [] 4 [q, m, g, p] = PS.raw q m g p := rfl
  have hlen := PS.raw_length q m g p
  unfold PS.load
  generalize PS.raw q m g p = R at *
  have HL := Lib.hid hl
  have HN := Lib.hid hlen
  have hB1 := hB.alloc (by simp) (.cells #[.int .i64 q, .int .i64 m, .int .i64 g, .int .i64 p] 3)
  clear hI hrange hl hlen hB
  go_enter Try.func32, Try.ntmps32
  go_wp2_with fail
  refine (put_any _ _ [] [q, m, g, p] 4 _ (Tx.nil _) (by simpa using HI.out) (by decide)).mono ?_
  rintro e w1 ⟨v, rfl, hO, hB2⟩
  rw [HL.out] at hO
  have ht := (hO.text (by rw [HN.out]; decide)).string
  have hb := hB1.trans (hB2.mono (by simp; omega))
  clear hB1 hB2 hO HI
  go_wp2
  go_ret
  exact ⟨rfl, hb⟩

set_option maxHeartbeats 2000000 in
theorem sof_any (x : PS.S) (w : World) : Calls Try.prog 17 #[.agg (sv x)] w fun e w' => e = .returned (.agg (sv x)) ∧ Below w.heap.size w w' := by
  obtain ⟨n, q, m, g, p⟩ := x
  unfold sv
  go_enter Try.func17, Try.ntmps17
  go_wp2
  refine bodyPost_ret (v := .agg #[.int .i64 n, .int .i64 q, .int .i64 m, .int .i64 g, .int .i64 p]) (by simp [results, Try.results17, go_sem]) rfl ⟨rfl, ?_⟩
  exact (al w _).alloc (by simp) _
end Go.Proofs.Ytcojpbckeebohaa
