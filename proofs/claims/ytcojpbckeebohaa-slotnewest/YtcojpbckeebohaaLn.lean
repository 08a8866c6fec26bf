/-
  The law SlotNewest: its walk.
-/
import Derived.Test.YtcojpbckeebohaaLm
import Derived.Test.YtcojpbckeebohaaLg
namespace Go.Proofs.Ytcojpbckeebohaa
open Go.RowKit Go.Joins

namespace PS
theorem any_took (l : List ByteArray) : l.any took = decide (0 < (newest l).n) := by
  by_cases h : 0 < (newest l).n
  · obtain ⟨s, hs, ht, _⟩ := newest_mem h
    rw [decide_eq_true h]
    exact List.any_eq_true.2 ⟨s, hs, ht⟩
  · rw [decide_eq_false h, List.any_eq_false]
    intro s hs ht
    have h1 := tk_n ht
    have h2 := newest_ge hs
    omega
/-- Whether x is one of those that are taken. -/
def found (x : S) (l : List ByteArray) : Bool := l.any fun s => took s && decide (tk s = x)
theorem found_newest {l : List ByteArray} (h : 0 < (newest l).n) : found (newest l) l = true := by
  obtain ⟨s, hs, ht, he⟩ := newest_mem h
  exact List.any_eq_true.2 ⟨s, hs, by simp [ht, he]⟩
end PS

set_option maxRecDepth 100000 in
set_option maxHeartbeats 8000000 in
theorem newestLaw_any (v : Value) (l : List Nat) (w : World) (h : Us w v l) : Calls Try.prog 4 #[v] w fun e w' => e = .returned (.bool true) ∧ Below w.heap.size w w' := by
  obtain ⟨A, c, rfl⟩ := h.form
  have hsl := slots_any (.slice A l.length c) l
  generalize hL : l.length = L at *
  have HU := Lib.hid h
  clear h
  go_enter Try.func4, Try.ntmps4
  go_wp2_with fail
  refine (begun_any _).mono ?_
  rintro e w1 ⟨rfl, hb1⟩
  by_cases h25 : 25 < L
  · go_wp2
    go_ret
    exact ⟨rfl, hb1⟩
  · have hd : decide ((25 : Int) < (L : Int)) = false := by simp; omega
    have hs1 := hsl w1 (HU.out.below hb1) (by omega)
    clear hsl
    go_wp2_with fail
    refine hs1.mono ?_
    rintro e w2 ⟨v2, rfl, hO, hB2⟩
    have hb2 := hb1.trans (hB2.mono hb1.size)
    have hlen : (PS.slots l).length = L / 5 := by rw [PS.slots, PS.slotsN_length, hL]
    have hle : ∀ s ∈ PS.slots l, s.size ≤ 1048576 := fun s hs => by
      have := PS.slotsN_le l _ s hs
      omega
    have hrow := hO.row hle (by omega)
    generalize PS.slots l = ss at *
    obtain ⟨A2, c2, rfl⟩ := hrow.form
    rw [hlen] at hrow ⊢
    have hnw := xnewest_any _ ss w2 hrow
    have hge : ∀ s ∈ ss, (PS.tk s).n ≤ (PS.newest ss).n := fun s hs => PS.newest_ge hs
    have hany := PS.any_took ss
    have hfnd : 0 < (PS.newest ss).n → PS.found (PS.newest ss) ss = true := PS.found_newest
    have hzero : ¬ 0 < (PS.newest ss).n → PS.newest ss = PS.zero := PS.newest_zero
    obtain ⟨M, hM⟩ : ∃ M, L / 5 = M := ⟨_, rfl⟩
    rw [hM] at hlen hrow hnw ⊢
    have hM5 : M ≤ 5 := by omega
    generalize PS.newest ss = X at *
    have HROW := Lib.hid hrow
    have HGE := Lib.hid hge
    have HAN := Lib.hid hany
    have HF := Lib.hid hfnd
    have HZ := Lib.hid hzero
    have HLE := Lib.hid hle
    clear hs1 hB2 hb1 hO hge hany hfnd hzero hle HU hrow hL hM hd h25
    obtain ⟨xn, xq, xm, xg, xp⟩ := X
    simp only [sv] at hnw
    go_wp2_with fail
    refine hnw.mono ?_
    rintro e w3 ⟨rfl, hB3⟩
    have hb3 := hb2.trans (hB3.mono hb2.size)
    have hr3 := HROW.out.below hB3
    have hx4 := Bx.new w3 23 #[.int .i64 xn, .int .i64 xq, .int .i64 xm, .int .i64 xg, .int .i64 xp]
    have hb4 := hb3.alloc hb3.size (.cells #[.int .i64 xn, .int .i64 xq, .int .i64 xm, .int .i64 xg, .int .i64 xp] 23)
    have hr4 := hr3.below (al w3 (.cells #[.int .i64 xn, .int .i64 xq, .int .i64 xm, .int .i64 xg, .int .i64 xp] 23))
    clear hnw hB3 hb2 hb3 hr3 HROW
    go_upto_region 7 with fail
    generalize w3.alloc (.cells #[.int .i64 xn, .int .i64 xq, .int .i64 xm, .int .i64 xg, .int .i64 xp] 23) = w4 at *
    generalize w3.heap.size = gx at *
    obtain ⟨ok, hok⟩ : ∃ b, decide (0 < xn) = b := ⟨_, rfl⟩
    rw [hok]
    have HOK := Lib.hid hok
    have HR := Lib.hid hr4
    have HX := Lib.hid hx4
    clear hok hr4 hx4
    go_wp2
    go_loopw [6, 7, 8] (fun f a i wr => ∃ k : Nat, k ≤ M ∧ f = .bool (PS.found ⟨xn, xq, xm, xg, xp⟩ (ss.take k)) ∧ a = .bool ((ss.take k).any PS.took) ∧ i = .int .i64 (k : Int) ∧ Below w4.heap.size w4 wr) (fun _ _ i _ => M - (intOf i).toNat)
    case atStart => exact ⟨0, Nat.zero_le _, rfl, rfl, rfl, Below.refl _ _⟩
    case round =>
      obtain ⟨k, hk, rfl, rfl, rfl, hB⟩ := hrel
      by_cases hlt : k < M
      · have hsl := (HR.out.below hB).1
        rw [hlen] at hsl
        obtain ⟨A', c', hv, _, hA⟩ := hsl
        injection hv with e1 e2 e3
        subst e1 e3
        obtain ⟨b0, o, rfl, _, hcell⟩ := hA (by omega)
        obtain ⟨s, hs⟩ : ∃ x, ss[k]? = some x := ⟨_, List.getElem?_eq_getElem (by omega)⟩
        have hg := hcell k (by omega)
        rw [List.getElem?_map, hs, Option.map_some] at hg
        have hmem := List.mem_of_getElem? hs
        have hna : (ss.take (k + 1)).any PS.took = ((ss.take k).any PS.took || PS.took s) := by
          rw [List.take_add_one, hs]; simp
        have hnf : PS.found ⟨xn, xq, xm, xg, xp⟩ (ss.take (k + 1)) = (PS.found ⟨xn, xq, xm, xg, xp⟩ (ss.take k) || (PS.took s && decide (PS.tk s = ⟨xn, xq, xm, xg, xp⟩))) := by
          rw [PS.found, PS.found, List.take_add_one, hs]; simp
        have hgs := HGE.out s hmem
        have htk := xtake_any s wr (HLE.out s hmem)
        generalize PS.found ⟨xn, xq, xm, xg, xp⟩ (ss.take k) = f at *
        generalize (ss.take k).any PS.took = a at *
        generalize PS.took s = t at *
        generalize PS.tk s = Y at *
        obtain ⟨n, q, m, g, p⟩ := Y
        simp only [sv] at htk
        dsimp only at hgs
        have HNA := Lib.hid hna
        have HNF := Lib.hid hnf
        clear hcell hA hs hna hnf hmem
        go_wp2_with fail
        refine htk.mono ?_
        rintro e wr1 ⟨rfl, hB1⟩
        have hb5 := hB.trans (hB1.mono hB.size)
        have hy5 := Bx.new wr1 23 #[.int .i64 n, .int .i64 q, .int .i64 m, .int .i64 g, .int .i64 p]
        have hb6 := hb5.alloc hb5.size (.cells #[.int .i64 n, .int .i64 q, .int .i64 m, .int .i64 g, .int .i64 p] 23)
        clear hB hB1 hb5 htk hg
        go_upto_region 12 with fail
        generalize wr1.alloc (.cells #[.int .i64 n, .int .i64 q, .int .i64 m, .int .i64 g, .int .i64 p] 23) = wr2 at *
        generalize wr1.heap.size = gy at *
        obtain ⟨⟨d0, d1, d2, d3, d4⟩, _⟩ := hy5.five
        obtain ⟨⟨c0, c1, c2, c3, c4⟩, _⟩ := (HX.out.on hb6).five
        cases t with
        | false =>
          have e1 := HNA.out
          have e2 := HNF.out
          rw [Bool.or_false] at e1
          rw [Bool.false_and, Bool.or_false] at e2
          have E1 := Lib.hid e1
          have E2 := Lib.hid e2
          clear e1 e2
          go_wp2
          go_roundw
          case rel => exact ⟨k + 1, by omega, by rw [E2.out], by rw [E1.out], by go_num, hb6⟩
          case measure => simp [intOf]; omega
        | true =>
          have hdg : decide (xn < n) = false := by simp; omega
          have e1 := HNA.out
          have e2 := HNF.out
          rw [Bool.or_true] at e1
          rw [Bool.true_and] at e2
          have E1 := Lib.hid e1
          have E2 := Lib.hid e2
          clear e1 e2
          cases f with
          | true =>
            go_wp2
            go_roundw
            case rel => exact ⟨k + 1, by omega, by rw [E2.out]; simp, by rw [E1.out], by go_num, hb6⟩
            case measure => simp [intOf]; omega
          | false =>
            by_cases e0 : n = xn
            rotate_left
            · go_wp2
              go_roundw
              case rel => exact ⟨k + 1, by omega, by rw [E2.out]; simp [e0], by rw [E1.out], by go_num, hb6⟩
              case measure => simp [intOf]; omega
            subst e0
            by_cases e1 : q = xq
            rotate_left
            · go_wp2
              go_roundw
              case rel => exact ⟨k + 1, by omega, by rw [E2.out]; simp [e1], by rw [E1.out], by go_num, hb6⟩
              case measure => simp [intOf]; omega
            subst e1
            by_cases e2 : m = xm
            rotate_left
            · go_wp2
              go_roundw
              case rel => exact ⟨k + 1, by omega, by rw [E2.out]; simp [e2], by rw [E1.out], by go_num, hb6⟩
              case measure => simp [intOf]; omega
            subst e2
            by_cases e3 : g = xg
            rotate_left
            · go_wp2
              go_roundw
              case rel => exact ⟨k + 1, by omega, by rw [E2.out]; simp [e3], by rw [E1.out], by go_num, hb6⟩
              case measure => simp [intOf]; omega
            subst e3
            by_cases e4 : p = xp
            rotate_left
            · go_wp2
              go_roundw
              case rel => exact ⟨k + 1, by omega, by rw [E2.out]; simp [e4], by rw [E1.out], by go_num, hb6⟩
              case measure => simp [intOf]; omega
            subst e4
            go_wp2
            go_roundw
            case rel => exact ⟨k + 1, by omega, by rw [E2.out]; simp [], by rw [E1.out], by go_num, hb6⟩
            case measure => simp [intOf]; omega
      · have hkn : k = M := by omega
        subst hkn
        rw [List.take_of_length_le (by omega)]
        have ha := HAN.out
        rw [HOK.out] at ha
        rw [ha]
        have hb5 := hb4.trans (hB.mono hb4.size)
        have hx5 := HX.out.on hB
        clear hB hb4
        obtain ⟨⟨c0, c1, c2, c3, c4⟩, _⟩ := hx5.five
        cases ok with
        | true =>
          have hpos : 0 < xn := of_decide_eq_true HOK.out
          have hf := HF.out hpos
          rw [hf]
          go_wp2
          go_ret
          exact ⟨rfl, hb5⟩
        | false =>
          have hneg : ¬ 0 < xn := of_decide_eq_false HOK.out
          have hz := HZ.out (by omega)
          simp only [PS.zero, PS.S.mk.injEq] at hz
          obtain ⟨rfl, rfl, rfl, rfl, rfl⟩ := hz
          generalize PS.found ⟨0, 0, 0, 0, 0⟩ ss = f
          go_wp2
          go_ret
          exact ⟨rfl, hb5⟩
end Go.Proofs.Ytcojpbckeebohaa
