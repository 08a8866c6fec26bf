/-
  Contracts: slot.May, slot.Put, slot.begin.
-/
import Derived.Test.YtcojpbckeebohaaLc
namespace Go.Proofs.Ytcojpbckeebohaa
open Go.RowKit Go.Joins

theorem below_set4 {w0 w : World} {B : Nat} (h : Below B w0 w) {g : Nat} (hg : B ≤ g) (a b c d : Value) :
    Below B w0 ((((w.setCell ⟨g, 0, none⟩ a).setCell ⟨g, 1, none⟩ b).setCell ⟨g, 2, none⟩ c).setCell ⟨g, 3, none⟩ d) :=
  (below_set3 h hg a b c).setCell (p := ⟨g, 3, none⟩) hg d
theorem below_set5 {w0 w : World} {B : Nat} (h : Below B w0 w) {g : Nat} (hg : B ≤ g) (a b c d e : Value) :
    Below B w0 (((((w.setCell ⟨g, 0, none⟩ a).setCell ⟨g, 1, none⟩ b).setCell ⟨g, 2, none⟩ c).setCell ⟨g, 3, none⟩ d).setCell ⟨g, 4, none⟩ e) :=
  (below_set4 h hg a b c d).setCell (p := ⟨g, 4, none⟩) hg e
theorem Bx.put4 {w : World} {g : Nat} {t : TypeId} {x y z u : Value} (h : Bx w g t #[x, y, z, u]) (a b c d : Value) : Bx ((((w.setCell ⟨g, 0, none⟩ a).setCell ⟨g, 1, none⟩ b).setCell ⟨g, 2, none⟩ c).setCell ⟨g, 3, none⟩ d) g t #[a, b, c, d] :=
  (((h.set 0 a).set 1 b).set 2 c).set 3 d
theorem Bx.put5 {w : World} {g : Nat} {t : TypeId} {x y z u v : Value} (h : Bx w g t #[x, y, z, u, v]) (a b c d e : Value) : Bx (((((w.setCell ⟨g, 0, none⟩ a).setCell ⟨g, 1, none⟩ b).setCell ⟨g, 2, none⟩ c).setCell ⟨g, 3, none⟩ d).setCell ⟨g, 4, none⟩ e) g t #[a, b, c, d, e] :=
  ((((h.set 0 a).set 1 b).set 2 c).set 3 d).set 4 e
theorem Bx.far5 {w : World} {g k : Nat} {t : TypeId} {cs : Array Value} (h : Bx w g t cs) (hk : g ≠ k) (a b c d e : Value) : Bx (((((w.setCell ⟨k, 0, none⟩ a).setCell ⟨k, 1, none⟩ b).setCell ⟨k, 2, none⟩ c).setCell ⟨k, 3, none⟩ d).setCell ⟨k, 4, none⟩ e) g t cs :=
  ((((h.far (p := ⟨k, 0, none⟩) hk a).far (p := ⟨k, 1, none⟩) hk b).far (p := ⟨k, 2, none⟩) hk c).far (p := ⟨k, 3, none⟩) hk d).far (p := ⟨k, 4, none⟩) hk e

set_option maxHeartbeats 2000000 in
theorem xmay_any (x : PS.S) (h : R5 x) (w : World) : Calls Try.prog 7 #[.agg (sv x)] w fun e w' => e = .returned (.bool (PS.may x)) ∧ Below w.heap.size w w' := by
  have hof := sof_any x
  have hmy := smay_any x h
  obtain ⟨t, ht⟩ : ∃ t, PS.may x = t := ⟨_, rfl⟩
  rw [ht] at hmy ⊢
  clear ht h
  obtain ⟨n, q, m, g, p⟩ := x
  simp only [sv] at *
  have hB := al w (.cells #[.int .i64 n, .int .i64 q, .int .i64 m, .int .i64 g, .int .i64 p] 23)
  go_enter Try.func7, Try.ntmps7
  go_wp2_with fail
  refine (hof _).mono ?_
  rintro e w1 ⟨rfl, hB1⟩
  have hb1 := hB.trans (hB1.mono (by simp))
  go_wp2_with fail
  refine (hmy _).mono ?_
  rintro e w2 ⟨rfl, hB2⟩
  have hb2 := hb1.trans (hB2.mono hb1.size)
  go_wp2
  go_ret
  exact ⟨rfl, hb2⟩

set_option maxHeartbeats 2000000 in
theorem xput_any (x : PS.S) (h : R5 x) (w : World) : Calls Try.prog 9 #[.agg (sv x)] w fun e w' => e = .returned (.string (PS.put x)) ∧ Below w.heap.size w w' := by
  have hof := sof_any x
  have hmy := smay_any x h
  have htx := stext_any x h
  obtain ⟨P, hP⟩ : ∃ t, PS.put x = t := ⟨_, rfl⟩
  have hy : PS.may x = true → PS.text x = P := fun hm => by rw [← hP, PS.put, if_pos hm]
  have hn : PS.may x = false → { data := #[] } = P := fun hm => by rw [← hP, PS.put_no hm]
  rw [hP]
  clear hP h
  obtain ⟨t, ht⟩ : ∃ t, PS.may x = t := ⟨_, rfl⟩
  obtain ⟨T, hT⟩ : ∃ t, PS.text x = t := ⟨_, rfl⟩
  rw [ht] at hmy hy hn
  rw [hT] at htx hy
  clear ht hT
  obtain ⟨n, q, m, g, p⟩ := x
  simp only [sv] at *
  have hB := al w (.cells #[.int .i64 n, .int .i64 q, .int .i64 m, .int .i64 g, .int .i64 p] 23)
  go_enter Try.func9, Try.ntmps9
  go_wp2_with fail
  refine (hof _).mono ?_
  rintro e w1 ⟨rfl, hB1⟩
  have hb1 := hB.trans (hB1.mono (by simp))
  have hx := Bx.new w1 44 #[.int .i64 n, .int .i64 q, .int .i64 m, .int .i64 g, .int .i64 p]
  have hb2 := hb1.alloc hb1.size (.cells #[.int .i64 n, .int .i64 q, .int .i64 m, .int .i64 g, .int .i64 p] 44)
  clear hB hB1 hb1 hof
  go_upto_region 2 with fail
  generalize w1.alloc (.cells #[.int .i64 n, .int .i64 q, .int .i64 m, .int .i64 g, .int .i64 p] 44) = w2 at *
  obtain ⟨⟨c0, c1, c2, c3, c4⟩, _⟩ := hx.five
  go_wp2_with fail
  refine (hmy _).mono ?_
  rintro e w3 ⟨rfl, hB3⟩
  have hb3 := hb2.trans (hB3.mono hb2.size)
  have hx3 := hx.on hB3
  clear hx hb2 hB3 hmy c0 c1 c2 c3 c4
  obtain ⟨⟨c0, c1, c2, c3, c4⟩, _⟩ := hx3.five
  cases t with
  | false =>
    obtain rfl := hn rfl
    go_wp2
    go_ret
    exact ⟨rfl, hb3⟩
  | true =>
    obtain rfl := hy rfl
    go_wp2_with fail
    refine (htx _).mono ?_
    rintro e w4 ⟨rfl, hB4⟩
    have hb4 := hb3.trans (hB4.mono hb3.size)
    go_wp2
    go_ret
    exact ⟨rfl, hb4⟩

/-- The four numbers, of which k are read. -/
def ar (bs : List Nat) (k : Nat) : Array Value := #[.int .i64 (if 0 < k then PS.n4 bs 0 else 0), .int .i64 (if 1 < k then PS.n4 bs 1 else 0), .int .i64 (if 2 < k then PS.n4 bs 2 else 0), .int .i64 (if 3 < k then PS.n4 bs 3 else 0)]
theorem ar_set (bs : List Nat) {k : Nat} (h : k < 4) : (ar bs k).setIfInBounds k (.int .i64 (PS.n4 bs k)) = ar bs (k + 1) := by
  rcases k with _ | _ | _ | _ | k
  · rfl
  · rfl
  · rfl
  · rfl
  · omega

set_option maxHeartbeats 4000000 in
theorem sbegin_any (v : Value) (bs : List Nat) (w : World) (h : Tx w v bs) (hcp : Cp v) : Calls Try.prog 23 #[v] w fun e w' => ∃ q m g p, e = .returned (.tuple #[.agg #[.int .i64 q, .int .i64 m, .int .i64 g, .int .i64 p], .bool (decide (16 ≤ bs.length))]) ∧ (16 ≤ bs.length → q = PS.n4 bs 0 ∧ m = PS.n4 bs 1 ∧ g = PS.n4 bs 2 ∧ p = PS.n4 bs 3) ∧ Below w.heap.size w w' := by
  have hB := (al w (.cells #[.int .i64 0, .int .i64 0, .int .i64 0, .int .i64 0] 42)).alloc (by simp) (.cells #[.int .i64 0, .int .i64 0, .int .i64 0, .int .i64 0] 69)
  have hx := (Bx.new w 42 #[.int .i64 0, .int .i64 0, .int .i64 0, .int .i64 0]).alloc (.cells #[.int .i64 0, .int .i64 0, .int .i64 0, .int .i64 0] 69)
  have hy := Bx.new (w.alloc (.cells #[.int .i64 0, .int .i64 0, .int .i64 0, .int .i64 0] 42)) 69 #[.int .i64 0, .int .i64 0, .int .i64 0, .int .i64 0]
  simp only [World.size_alloc] at hy
  have HT := Lib.hid h
  have HC := Lib.hid hcp
  clear h hcp
  go_enter Try.func23, Try.ntmps23
  go_upto_region 2 with fail
  generalize ((w.alloc (.cells #[.int .i64 0, .int .i64 0, .int .i64 0, .int .i64 0] 42)).alloc (.cells #[.int .i64 0, .int .i64 0, .int .i64 0, .int .i64 0] 69)) = w0 at *
  have e0 : ar bs 0 = #[.int .i64 0, .int .i64 0, .int .i64 0, .int .i64 0] := rfl
  rw [← e0] at hy
  clear e0
  go_wp2
  go_loopw [0, 8] (fun b i wr => ∃ k : Nat, k ≤ 4 ∧ i = .int .i64 (k : Int) ∧ 4 * k ≤ bs.length ∧ Tx w b (bs.drop (4 * k)) ∧ Cp b ∧ Bx wr w.heap.size 42 #[.int .i64 0, .int .i64 0, .int .i64 0, .int .i64 0] ∧ Bx wr (w.heap.size + 1) 69 (ar bs k) ∧ Below w.heap.size w wr) (fun _ i _ => 4 - (intOf i).toNat)
  case atStart => exact ⟨0, by omega, rfl, by omega, by simpa using HT.out, HC.out, hx, hy, hB⟩
  case round =>
    clear hx hy hB HT HC
    obtain ⟨k, hk, rfl, h4k, hT, hC, hx, hy, hB⟩ := hrel
    by_cases hlt : k < 4
    · have htk := take_any _ (bs.drop (4 * k)) 4 _ (hT.below hB)
      obtain ⟨A, c, rfl⟩ := hT.form
      have hnc : (bs.drop (4 * k)).length ≤ c := by
        obtain ⟨A', n', c', hv, hle⟩ := hC
        injection hv with e1 e2 e3
        omega
      cases hcan : PlainBits.can (bs.drop (4 * k)).length 4 with
      | false =>
        rw [hcan] at htk
        have hno : decide (16 ≤ bs.length) = false := by
          simp [PlainBits.can, PlainBits.wide] at hcan
          simp
          omega
        have HN := Lib.hid hno
        have hend := below_set4 hB (Nat.le_refl w.heap.size) (.int .i64 0) (.int .i64 0) (.int .i64 0) (.int .i64 0)
        have hendx := hx.put4 (.int .i64 0) (.int .i64 0) (.int .i64 0) (.int .i64 0)
        obtain ⟨c0, c1, c2, c3, f0, f1, f2, f3⟩ := hx.four
        obtain ⟨L, hL⟩ : ∃ L, (bs.drop (4 * k)).length = L := ⟨_, rfl⟩
        obtain ⟨K, hK⟩ : ∃ K, PlainBits.takeN (bs.drop (4 * k)) 4 = K := ⟨_, rfl⟩
        rw [hL] at htk ⊢
        rw [hK] at htk
        clear hcan hno hT hC hy hB hx hnc hL hK h4k
        go_wp2_with fail
        refine htk.mono ?_
        rintro e w1 ⟨rfl, rfl⟩
        go_wp2
        generalize ((((wr.setCell ⟨w.heap.size, 0, none⟩ (.int .i64 0)).setCell ⟨w.heap.size, 1, none⟩ (.int .i64 0)).setCell ⟨w.heap.size, 2, none⟩ (.int .i64 0)).setCell ⟨w.heap.size, 3, none⟩ (.int .i64 0)) = wz at hend hendx ⊢
        obtain ⟨d0, d1, d2, d3, _, _, _, _⟩ := hendx.four
        refine bodyPost_ret (v := .tuple #[.agg #[.int .i64 0, .int .i64 0, .int .i64 0, .int .i64 0], .bool false]) (by simp [results, Try.results23, go_sem, d0, d1, d2, d3]) rfl ⟨0, 0, 0, 0, by rw [HN.out], fun h => ?_, hend⟩
        have := HN.out
        simp at this
        omega
      | true =>
        rw [hcan] at htk
        have hl4 : 4 ≤ (bs.drop (4 * k)).length := by simp [PlainBits.can, PlainBits.wide] at hcan; simp; omega
        obtain ⟨u, hcu, hrun, hu⟩ := sub_l (A := A) (c := c) (p := 4) (bs := bs.drop (4 * k)) rfl hl4 hnc
        rw [show (((4 : Nat) : Int)) = 4 from rfl] at hrun
        have hu' := hu _ hT
        rw [List.drop_drop, show 4 * k + 4 = 4 * (k + 1) by omega] at hu'
        have hval : ((PlainBits.takeN (bs.drop (4 * k)) 4 : Nat) : Int) = PS.n4 bs k := by
          rw [PlainBits.takeN, if_pos hcan]; rfl
        have hle : 4 * (k + 1) ≤ bs.length := by
          rw [List.length_drop] at hl4; omega
        rw [hval] at htk
        obtain ⟨L, hL⟩ : ∃ L, (bs.drop (4 * k)).length = L := ⟨_, rfl⟩
        obtain ⟨K, hK⟩ : ∃ K, PS.n4 bs k = K := ⟨_, rfl⟩
        have hset := ar_set bs hlt
        rw [hK] at htk hset
        rw [hL] at htk hrun ⊢
        have hr := hrun (wr.setCell ⟨w.heap.size + 1, k, none⟩ (.int .i64 K))
        obtain ⟨x, hcx⟩ : ∃ x, wr.cell? ⟨w.heap.size + 1, k, none⟩ = some x := ⟨_, by rw [hy.cell k]; exact Array.getElem?_eq_getElem (show k < (ar bs k).size from hlt)⟩
        have hfz := hy.frozen k
        have hx' := hx.far (p := ⟨w.heap.size + 1, k, none⟩) (by simp) (.int .i64 K)
        have hy' := hy.set k (.int .i64 K)
        rw [hset] at hy'
        have hB' := hB.setCell (p := ⟨w.heap.size + 1, k, none⟩) (by simp) (.int .i64 K)
        have HU := Lib.hid hu'
        have HCU := Lib.hid hcu
        have HX := Lib.hid hx'
        have HY := Lib.hid hy'
        clear hcan hT hC hy hB hx hnc hL hK h4k hval hu' hcu hx' hy' hset hu hrun hl4
        go_wp2_with fail
        refine htk.mono ?_
        rintro e w1 ⟨rfl, rfl⟩
        go_wp2
        go_roundw
        case rel => exact ⟨k + 1, by omega, by go_num, hle, HU.out, HCU.out, HX.out, HY.out, hB'⟩
        case measure => simp [intOf]; omega
    · have hk4 : k = 4 := by omega
      subst hk4
      rw [show (((4 : Nat)) : Int) = 4 from rfl]
      have hyes : decide (16 ≤ bs.length) = true := by simp; omega
      have HN := Lib.hid hyes
      have e4 : ar bs 4 = #[.int .i64 (PS.n4 bs 0), .int .i64 (PS.n4 bs 1), .int .i64 (PS.n4 bs 2), .int .i64 (PS.n4 bs 3)] := rfl
      rw [e4] at hy
      obtain ⟨y0, y1, y2, y3, _, _, _, _⟩ := hy.four
      obtain ⟨c0, c1, c2, c3, f0, f1, f2, f3⟩ := hx.four
      obtain ⟨q, hq⟩ : ∃ x, PS.n4 bs 0 = x := ⟨_, rfl⟩
      obtain ⟨m, hm⟩ : ∃ x, PS.n4 bs 1 = x := ⟨_, rfl⟩
      obtain ⟨g, hg⟩ : ∃ x, PS.n4 bs 2 = x := ⟨_, rfl⟩
      obtain ⟨p, hp⟩ : ∃ x, PS.n4 bs 3 = x := ⟨_, rfl⟩
      rw [hq] at y0
      rw [hm] at y1
      rw [hg] at y2
      rw [hp] at y3
      have hend := below_set4 hB (Nat.le_refl w.heap.size) (.int .i64 q) (.int .i64 m) (.int .i64 g) (.int .i64 p)
      have hendx := hx.put4 (.int .i64 q) (.int .i64 m) (.int .i64 g) (.int .i64 p)
      have E : q = PS.n4 bs 0 ∧ m = PS.n4 bs 1 ∧ g = PS.n4 bs 2 ∧ p = PS.n4 bs 3 := ⟨hq.symm, hm.symm, hg.symm, hp.symm⟩
      have HE := Lib.hid E
      clear hyes hy hx hB hT hC h4k e4 E hq hm hg hp
      go_wp2
      generalize ((((wr.setCell ⟨w.heap.size, 0, none⟩ (.int .i64 q)).setCell ⟨w.heap.size, 1, none⟩ (.int .i64 m)).setCell ⟨w.heap.size, 2, none⟩ (.int .i64 g)).setCell ⟨w.heap.size, 3, none⟩ (.int .i64 p)) = wz at hend hendx ⊢
      obtain ⟨d0, d1, d2, d3, _, _, _, _⟩ := hendx.four
      refine bodyPost_ret (v := .tuple #[.agg #[.int .i64 q, .int .i64 m, .int .i64 g, .int .i64 p], .bool true]) (by simp [results, Try.results23, go_sem, d0, d1, d2, d3]) rfl ⟨q, m, g, p, by rw [HN.out], fun _ => HE.out, hend⟩
end Go.Proofs.Ytcojpbckeebohaa
