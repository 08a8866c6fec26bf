/-
  Contract: slot.Newest.
-/
import Derived.Test.YtcojpbckeebohaaLe
namespace Go.Proofs.Ytcojpbckeebohaa
open Go.RowKit Go.Joins

/-- A row of strings. -/
def Ss (w : World) (v : Value) (ss : List ByteArray) : Prop := Sl w 1 v ss.length (ss.map Value.string) ∧ (∀ s ∈ ss, s.size ≤ 1048576) ∧ ss.length ≤ 65536
theorem Ss.below {w w' : World} {v : Value} {ss : List ByteArray} (h : Ss w v ss) (hb : Below w.heap.size w w') : Ss w' v ss := ⟨h.1.below hb, h.2⟩
theorem Ss.nil (w : World) : Ss w (.slice none 0 0) [] := ⟨⟨none, 0, rfl, rfl, fun h => absurd h (by decide)⟩, by simp, by decide⟩
theorem Ss.new (w : World) (cs : Array Value) (fr : Nat × Nat) (n c g : Nat) (hg : g = w.heap.size) (ss : List ByteArray) (hc : cs.toList = ss.map Value.string) (hn : ss.length = n) (hb : ∀ s ∈ ss, s.size ≤ 1048576) (hm : n ≤ 65536) : Ss (w.alloc (.cells cs 9 fr)) (.slice (some ⟨g, 0, none⟩) n c) ss := by
  have := Sl.new w cs 9 fr n c g hg (by rw [← Array.length_toList, hc, List.length_map, hn])
  rw [hc] at this
  exact ⟨by rw [hn]; exact this, hb, by omega⟩
theorem Ss.form {w : World} {v : Value} {ss : List ByteArray} (h : Ss w v ss) : ∃ A c, v = .slice A ss.length c := by
  obtain ⟨⟨A, c, hv, _⟩, _⟩ := h
  exact ⟨A, c, hv⟩

set_option maxHeartbeats 8000000 in
theorem xnewest_any (v : Value) (ss : List ByteArray) (w : World) (h : Ss w v ss) : Calls Try.prog 14 #[v] w fun e w' => e = .returned (.tuple #[.agg (sv (PS.newest ss)), .bool (decide (0 < (PS.newest ss).n))]) ∧ Below w.heap.size w w' := by
  obtain ⟨A, c, rfl⟩ := h.form
  have hl := h.2.2
  have hsz := h.2.1
  have hB := (al w (.cells (sv PS.zero) 23)).alloc (by simp) (.cells (sv PS.zero) 23)
  have hx := (Bx.new w 23 (sv PS.zero)).alloc (.cells (sv PS.zero) 23)
  have hy := Bx.new (w.alloc (.cells (sv PS.zero) 23)) 23 (sv PS.zero)
  simp only [World.size_alloc] at hy
  generalize hL : ss.length = L at *
  have HS := Lib.hid h
  have HZ := Lib.hid hsz
  clear h hsz
  obtain ⟨N, hN⟩ : ∃ N, PS.newest ss = N := ⟨_, rfl⟩
  rw [hN]
  have HN := Lib.hid hN
  clear hN
  have hz : sv PS.zero = #[.int .i64 0, .int .i64 0, .int .i64 0, .int .i64 0, .int .i64 0] := rfl
  have HZE := Lib.hid hz
  have hw : (w.alloc (.cells (sv PS.zero) 23)).alloc (.cells (sv PS.zero) 23) = (w.alloc (.cells #[.int .i64 0, .int .i64 0, .int .i64 0, .int .i64 0, .int .i64 0] 23)).alloc (.cells #[.int .i64 0, .int .i64 0, .int .i64 0, .int .i64 0, .int .i64 0] 23) := rfl
  rw [hw] at hx hB hy
  clear hz hw
  go_enter Try.func14, Try.ntmps14
  go_upto_region 2 with fail
  generalize (w.alloc (.cells #[.int .i64 0, .int .i64 0, .int .i64 0, .int .i64 0, .int .i64 0] 23)).alloc (.cells #[.int .i64 0, .int .i64 0, .int .i64 0, .int .i64 0, .int .i64 0] 23) = w0 at *
  go_wp2
  go_loopw [11] (fun i wr => ∃ k : Nat, k ≤ L ∧ i = .int .i64 (k : Int) ∧ Bx wr w.heap.size 23 (sv PS.zero) ∧ Bx wr (w.heap.size + 1) 23 (sv (PS.newest (ss.take k))) ∧ Below w.heap.size w wr) (fun i _ => L - (intOf i).toNat)
  case atStart => exact ⟨0, Nat.zero_le _, rfl, hx, hy, hB⟩
  case round =>
    clear hx hy hB
    obtain ⟨k, hk, rfl, hx, hy, hB⟩ := hrel
    by_cases hlt : k < L
    · have hsl := (HS.out.below hB).1
      rw [hL] at hsl
      obtain ⟨A', c', hv, _, hA⟩ := hsl
      injection hv with e1 e2 e3
      subst e1 e3
      obtain ⟨b0, o, rfl, _, hcell⟩ := hA (by omega)
      obtain ⟨s, hs⟩ : ∃ x, ss[k]? = some x := ⟨_, List.getElem?_eq_getElem (by omega)⟩
      have hg := hcell k (by omega)
      rw [List.getElem?_map, hs, Option.map_some] at hg
      have hss := HZ.out s (List.mem_of_getElem? hs)
      have hnext : PS.newest (ss.take (k + 1)) = PS.step (PS.newest (ss.take k)) s := by
        rw [List.take_add_one, hs]; exact PS.newest_snoc _ _
      have hnn := PS.newest_nonneg (ss.take k)
      have htn := PS.took_no (s := s)
      have hsn := PS.step_no (s := s) hnn
      have htk := xtake_any s wr hss
      generalize PS.newest (ss.take k) = b at *
      generalize hX : PS.tk s = X at *
      have hst : PS.step b s = if b.n < X.n then X else b := by rw [PS.step, hX]
      generalize PS.took s = t at *
      generalize PS.step b s = b' at *
      have HNX := Lib.hid hnext
      obtain ⟨n, q, m, g, p⟩ := X
      obtain ⟨bn, bq, bm, bg, bp⟩ := b
      simp only [sv] at htk
      have HST := Lib.hid hst
      have HSN := Lib.hid hsn
      clear hcell hA hnext hs hst hsn hX htn
      go_wp2_with fail
      refine htk.mono ?_
      rintro e w1 ⟨rfl, hB1⟩
      have hx1 := (hx.on hB1).alloc (.cells #[.int .i64 n, .int .i64 q, .int .i64 m, .int .i64 g, .int .i64 p] 23)
      have hy1 := (hy.on hB1).alloc (.cells #[.int .i64 n, .int .i64 q, .int .i64 m, .int .i64 g, .int .i64 p] 23)
      have hb1 := hB.trans (hB1.mono hB.size)
      have hb2 := hb1.alloc hb1.size (.cells #[.int .i64 n, .int .i64 q, .int .i64 m, .int .i64 g, .int .i64 p] 23)
      have hz1 := Bx.new w1 23 #[.int .i64 n, .int .i64 q, .int .i64 m, .int .i64 g, .int .i64 p]
      clear hx hy hB hB1 hb1 htk hg
      go_upto_region 6 with fail
      generalize w1.alloc (.cells #[.int .i64 n, .int .i64 q, .int .i64 m, .int .i64 g, .int .i64 p] 23) = w2 at *
      generalize w1.heap.size = gx at *
      simp only [sv] at hy1
      obtain ⟨⟨c0, c1, c2, c3, c4⟩, f0, f1, f2, f3, f4⟩ := hy1.five
      obtain ⟨⟨d0, d1, d2, d3, d4⟩, _⟩ := hz1.five
      cases t with
      | false =>
        have e1 := HSN.out rfl
        rw [← HNX.out] at e1
        have HE := Lib.hid e1
        clear e1
        go_wp2
        go_roundw
        case rel => exact ⟨k + 1, by omega, by go_num, hx1, by rw [HE.out]; exact hy1, hb2⟩
        case measure => simp [intOf]; omega
      | true =>
        by_cases hgt : bn < n
        · have e1 := HST.out
          rw [if_pos hgt, ← HNX.out] at e1
          have HE := Lib.hid e1
          have hend := below_set5 hb2 (show w.heap.size ≤ w.heap.size + 1 by omega) (.int .i64 n) (.int .i64 q) (.int .i64 m) (.int .i64 g) (.int .i64 p)
          have hendy := hy1.put5 (.int .i64 n) (.int .i64 q) (.int .i64 m) (.int .i64 g) (.int .i64 p)
          have hendx := hx1.far5 (show w.heap.size ≠ w.heap.size + 1 by omega) (.int .i64 n) (.int .i64 q) (.int .i64 m) (.int .i64 g) (.int .i64 p)
          clear e1 hx1 hy1 hb2 hz1
          go_wp2
          go_roundw
          case rel => exact ⟨k + 1, by omega, by go_num, hendx, by rw [HE.out]; exact hendy, hend⟩
          case measure => simp [intOf]; omega
        · have hdg : decide (bn < n) = false := by simpa using hgt
          have e1 := HST.out
          rw [if_neg hgt, ← HNX.out] at e1
          have HE := Lib.hid e1
          clear e1
          go_wp2
          go_roundw
          case rel => exact ⟨k + 1, by omega, by go_num, hx1, by rw [HE.out]; exact hy1, hb2⟩
          case measure => simp [intOf]; omega
    · have hkn : k = L := by omega
      subst hkn
      rw [List.take_of_length_le (by omega), HN.out] at hy
      clear HN HS HZ
      obtain ⟨n, q, m, g, p⟩ := N
      rw [HZE.out] at hx
      simp only [sv] at hy ⊢
      obtain ⟨⟨c0, c1, c2, c3, c4⟩, f0, f1, f2, f3, f4⟩ := hx.five
      obtain ⟨⟨d0, d1, d2, d3, d4⟩, _⟩ := hy.five
      have hend := below_set5 hB (Nat.le_refl w.heap.size) (.int .i64 n) (.int .i64 q) (.int .i64 m) (.int .i64 g) (.int .i64 p)
      have hendx := hx.put5 (.int .i64 n) (.int .i64 q) (.int .i64 m) (.int .i64 g) (.int .i64 p)
      have hendy := hy.far5 (show w.heap.size + 1 ≠ w.heap.size by omega) (.int .i64 n) (.int .i64 q) (.int .i64 m) (.int .i64 g) (.int .i64 p)
      obtain ⟨⟨k0, k1, k2, k3, k4⟩, _⟩ := hendy.five
      obtain ⟨⟨l0, l1, l2, l3, l4⟩, _⟩ := hendx.five
      clear hendx hendy hx hy hB
      go_upto_region 9 with fail
      go_region
      generalize (((((wr.setCell ⟨w.heap.size, 0, none⟩ (.int .i64 n)).setCell ⟨w.heap.size, 1, none⟩ (.int .i64 q)).setCell ⟨w.heap.size, 2, none⟩ (.int .i64 m)).setCell ⟨w.heap.size, 3, none⟩ (.int .i64 g)).setCell ⟨w.heap.size, 4, none⟩ (.int .i64 p)) = wz at *
      replace l0 : wz.drew.cell? ⟨w.heap.size, 0, none⟩ = some (.int .i64 n) := l0
      replace l1 : wz.drew.cell? ⟨w.heap.size, 1, none⟩ = some (.int .i64 q) := l1
      replace l2 : wz.drew.cell? ⟨w.heap.size, 2, none⟩ = some (.int .i64 m) := l2
      replace l3 : wz.drew.cell? ⟨w.heap.size, 3, none⟩ = some (.int .i64 g) := l3
      replace l4 : wz.drew.cell? ⟨w.heap.size, 4, none⟩ = some (.int .i64 p) := l4
      have hfin := hend.drew
      generalize wz.drew = wy at *
      go_wp2
      refine bodyPost_ret (v := .tuple #[.agg #[.int .i64 n, .int .i64 q, .int .i64 m, .int .i64 g, .int .i64 p], .bool (decide (0 < n))]) (by simp [results, Try.results14, go_sem, l0, l1, l2, l3, l4]) rfl ⟨rfl, hfin⟩
end Go.Proofs.Ytcojpbckeebohaa
