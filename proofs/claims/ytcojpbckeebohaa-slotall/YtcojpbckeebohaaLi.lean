/-
  Contracts of the document's answers: num, MaySlot, PutSlot.
-/
import Derived.Test.YtcojpbckeebohaaLd
import Derived.Test.YtcojpbckeebohaaKn
namespace Go.Proofs.Ytcojpbckeebohaa
open Go.RowKit Go.Joins

set_option maxHeartbeats 1000000 in
theorem rnum_any (n : Int) (w : World) : Calls Try.prog 19 #[.int .i64 n] w fun e w' => e = .returned (.bool (PS.num n)) ∧ w = w' := by
  by_cases h1 : 0 ≤ n
  · go_enter Try.func19, Try.ntmps19
    go_wp2
    go_ret
    exact ⟨by simp [PS.num, h1], rfl⟩
  · have h2 : decide (0 ≤ n) = false := by simpa using h1
    go_enter Try.func19, Try.ntmps19
    go_wp2
    go_ret
    exact ⟨by simp [PS.num, h2], rfl⟩

theorem may_order (x : PS.S) : PS.may x = (PS.num x.n && decide (1 ≤ x.n) && PS.num x.q && PS.num x.m && PS.num x.g && PS.num x.p && decide (x.p ≤ 64)) := by
  simp only [PS.may, PS.within, List.all_cons, List.all_nil, Bool.and_true, Bool.and_assoc]
  congr 1

set_option maxHeartbeats 4000000 in
theorem rmayS_any (x : PS.S) (w : World) : Calls Try.prog 8 #[.agg (sv x)] w fun e w' => e = .returned (.bool (PS.may x)) ∧ Below w.heap.size w w' := by
  rw [may_order]
  obtain ⟨n, q, m, g, p⟩ := x
  simp only [sv]
  have hB := al w (.cells #[.int .i64 n, .int .i64 q, .int .i64 m, .int .i64 g, .int .i64 p] 23)
  have hx := Bx.new w 23 #[.int .i64 n, .int .i64 q, .int .i64 m, .int .i64 g, .int .i64 p]
  obtain ⟨⟨c0, c1, c2, c3, c4⟩, _⟩ := hx.five
  have hn := rnum_any n
  have hq := rnum_any q
  have hm := rnum_any m
  have hg := rnum_any g
  have hp := rnum_any p
  obtain ⟨bn, en⟩ : ∃ b, PS.num n = b := ⟨_, rfl⟩
  obtain ⟨bq, eq⟩ : ∃ b, PS.num q = b := ⟨_, rfl⟩
  obtain ⟨bm, em⟩ : ∃ b, PS.num m = b := ⟨_, rfl⟩
  obtain ⟨bg, eg⟩ : ∃ b, PS.num g = b := ⟨_, rfl⟩
  obtain ⟨bp, ep⟩ : ∃ b, PS.num p = b := ⟨_, rfl⟩
  rw [en] at hn ⊢
  rw [eq] at hq ⊢
  rw [em] at hm ⊢
  rw [eg] at hg ⊢
  rw [ep] at hp ⊢
  clear en eq em eg ep hx
  go_enter Try.func8, Try.ntmps8
  go_wp2_with fail
  refine (hn _).mono ?_
  rintro e w2 ⟨rfl, rfl⟩
  rcases bn with _ | _
  · go_wp2
    go_ret
    exact ⟨by simp, hB⟩
  rcases Int.lt_or_le n 1 with h1 | h1
  · have hd : decide (1 ≤ n) = false := by simpa using h1
    go_wp2
    go_ret
    exact ⟨by simp [hd], hB⟩
  have hd : decide (1 ≤ n) = true := by simpa using h1
  go_wp2_with fail
  refine (hq _).mono ?_
  rintro e w2 ⟨rfl, rfl⟩
  rcases bq with _ | _
  · go_wp2
    go_ret
    exact ⟨by simp, hB⟩
  go_wp2_with fail
  refine (hm _).mono ?_
  rintro e w2 ⟨rfl, rfl⟩
  rcases bm with _ | _
  · go_wp2
    go_ret
    exact ⟨by simp, hB⟩
  go_wp2_with fail
  refine (hg _).mono ?_
  rintro e w2 ⟨rfl, rfl⟩
  rcases bg with _ | _
  · go_wp2
    go_ret
    exact ⟨by simp, hB⟩
  go_wp2_with fail
  refine (hp _).mono ?_
  rintro e w2 ⟨rfl, rfl⟩
  rcases bp with _ | _
  · go_wp2
    go_ret
    exact ⟨by simp, hB⟩
  go_wp2
  go_ret
  exact ⟨by simp [hd], hB⟩

set_option maxRecDepth 100000 in
set_option maxHeartbeats 8000000 in
theorem rputS_any (x : PS.S) (h : R5 x) (w : World) : Calls Try.prog 10 #[.agg (sv x)] w fun e w' => e = .returned (.string (PS.put x)) ∧ Below w.heap.size w w' := by
  have hmy := rmayS_any x
  obtain ⟨P, hP⟩ : ∃ t, PS.put x = t := ⟨_, rfl⟩
  have hy : PS.may x = true → PB.put 5 x.n (PS.load x.q x.m x.g x.p) = P := fun hm => by rw [← hP, PS.put, if_pos hm]; rfl
  have hn : PS.may x = false → { data := #[] } = P := fun hm => by rw [← hP, PS.put_no hm]
  rw [hP]
  clear hP
  obtain ⟨t, ht⟩ : ∃ t, PS.may x = t := ⟨_, rfl⟩
  rw [ht] at hmy hy hn
  clear ht
  obtain ⟨n, q, m, g, p⟩ := x
  obtain ⟨_, rq, rm, rg, rp⟩ := h
  have hrange : ∀ z ∈ [q, m, g, p], I64 z := by
    intro z hz
    simp at hz
    rcases hz with rfl | rfl | rfl | rfl <;> assumption
  have hl : PlainBits.putS [] 4 [q, m, g, p] = PS.raw q m g p := rfl
  have hlen := PS.raw_length q m g p
  have hs : str (PS.raw q m g p) = PS.load q m g p := rfl
  dsimp only at hy
  obtain ⟨L, hL⟩ : ∃ t, PS.load q m g p = t := ⟨_, rfl⟩
  obtain ⟨R, hR⟩ : ∃ t, PS.raw q m g p = t := ⟨_, rfl⟩
  rw [hL] at hy hs
  rw [hR] at hl hlen hs
  have HR := Lib.hid hrange
  have HL := Lib.hid hl
  have HN := Lib.hid hlen
  have HS := Lib.hid hs
  clear hrange hl hlen hs hL hR rq rm rg rp
  simp only [sv] at *
  have hB := al w (.cells #[.int .i64 n, .int .i64 q, .int .i64 m, .int .i64 g, .int .i64 p] 23)
  have hx0 := Bx.new w 23 #[.int .i64 n, .int .i64 q, .int .i64 m, .int .i64 g, .int .i64 p]
  go_enter Try.func10, Try.ntmps10
  go_wp2_with fail
  refine (hmy _).mono ?_
  rintro e w1 ⟨rfl, hB1⟩
  have hx := hx0.on hB1
  have hb1 := hB.trans (hB1.mono (by simp))
  clear hB hB1 hx0 hmy
  cases t with
  | false =>
    obtain rfl := hn rfl
    go_wp2
    go_ret
    exact ⟨rfl, hb1⟩
  | true =>
    have HP := Lib.hid (hy rfl)
    clear hy hn
    go_upto_region 3 with fail
    refine wp_region_grow Try.checked.mixed (by kernel_rfl) (fun W => Below w1.heap.size w1 W)
      (fun i v W => match i with
        | 0 => v = .pointer (some ⟨w.heap.size, 0, none⟩)
        | 1 => v = .int .i64 n
        | 2 => v = .pointer (some ⟨w.heap.size, 1, none⟩)
        | 3 => v = .int .i64 q
        | 4 => v = .pointer (some ⟨w.heap.size, 2, none⟩)
        | 5 => v = .int .i64 m
        | 6 => v = .pointer (some ⟨w.heap.size, 3, none⟩)
        | 7 => v = .int .i64 g
        | 8 => v = .pointer (some ⟨w.heap.size, 4, none⟩)
        | 9 => v = .int .i64 p
        | 10 => In W v [q, m, g, p]
        | 11 => Tx W v R
        | 12 => v = .string L
        | 13 => v = .agg #[.int .i64 5, .int .i64 n, .string L]
        | 14 => v = .string (PB.put 5 n L)
        | _ => v = .string (PB.put 5 n L)) ?hS ?hR ?start ?each ?fin
    case hS =>
      intro W W' h hb
      exact h.trans (hb.mono h.size)
    case hR =>
      intro j v W W' h hb
      rcases j with _ | _ | _ | _ | _ | _ | _ | _ | _ | _ | _ | _ | _ | _ | _ | j <;> first | exact h | exact Tx.below h hb | exact In.below h hb
    case start => exact (Below.refl _ _).drew
    case each =>
      intro i hi a W hold hp h6 K hK
      rcases i with _ | _ | _ | _ | _ | _ | _ | _ | _ | _ | _ | _ | _ | _ | _ | i
      · have s := hold 1 rfl
        simp [predsOf, Region.binds, slotV] at hp
        refine wpOp_of rfl rfl ?_
        simp at s
        go_simp
        exact hK _ _ (by simp) (Below.refl _ _) rfl
      · simp [predsOf, Region.binds, slotV] at hp
        refine wpOp_of rfl rfl ?_
        obtain ⟨⟨c0, c1, c2, c3, c4⟩, _⟩ := (hx.on h6).five
        go_simp
        exact hK _ _ (by simp) (Below.refl _ _) rfl
      · have s := hold 1 rfl
        simp [predsOf, Region.binds, slotV] at hp
        refine wpOp_of rfl rfl ?_
        simp at s
        go_simp
        exact hK _ _ (by simp) (Below.refl _ _) rfl
      · simp [predsOf, Region.binds, slotV] at hp
        refine wpOp_of rfl rfl ?_
        obtain ⟨⟨c0, c1, c2, c3, c4⟩, _⟩ := (hx.on h6).five
        go_simp
        exact hK _ _ (by simp) (Below.refl _ _) rfl
      · have s := hold 1 rfl
        simp [predsOf, Region.binds, slotV] at hp
        refine wpOp_of rfl rfl ?_
        simp at s
        go_simp
        exact hK _ _ (by simp) (Below.refl _ _) rfl
      · simp [predsOf, Region.binds, slotV] at hp
        refine wpOp_of rfl rfl ?_
        obtain ⟨⟨c0, c1, c2, c3, c4⟩, _⟩ := (hx.on h6).five
        go_simp
        exact hK _ _ (by simp) (Below.refl _ _) rfl
      · have s := hold 1 rfl
        simp [predsOf, Region.binds, slotV] at hp
        refine wpOp_of rfl rfl ?_
        simp at s
        go_simp
        exact hK _ _ (by simp) (Below.refl _ _) rfl
      · simp [predsOf, Region.binds, slotV] at hp
        refine wpOp_of rfl rfl ?_
        obtain ⟨⟨c0, c1, c2, c3, c4⟩, _⟩ := (hx.on h6).five
        go_simp
        exact hK _ _ (by simp) (Below.refl _ _) rfl
      · have s := hold 1 rfl
        simp [predsOf, Region.binds, slotV] at hp
        refine wpOp_of rfl rfl ?_
        simp at s
        go_simp
        exact hK _ _ (by simp) (Below.refl _ _) rfl
      · simp [predsOf, Region.binds, slotV] at hp
        refine wpOp_of rfl rfl ?_
        obtain ⟨⟨c0, c1, c2, c3, c4⟩, _⟩ := (hx.on h6).five
        go_simp
        exact hK _ _ (by simp) (Below.refl _ _) rfl
      · simp [predsOf, Region.binds, slotV] at hp
        refine wpOp_of rfl rfl ?_
        go_simp
        exact hK _ _ (by simp) (al _ _) (In.many W [q, m, g, p] _ rfl HR.out (by simp) _ 4 rfl rfl)
      · simp [predsOf, Region.binds, slotV] at hp
        refine wpOp_of rfl rfl ?_
        go_simp
        refine (rput_any _ _ [] [q, m, g, p] 4 W (Tx.nil _) hp (by decide)).mono ?_
        rintro e W' ⟨v', rfl, hO, hB'⟩
        rw [HL.out] at hO
        exact hK _ _ (by simp) hB' (hO.text (by rw [HN.out]; decide))
      · simp [predsOf, Region.binds, slotV] at hp
        refine wpOp_of rfl rfl ?_
        have hcv := hp.string
        rw [HS.out] at hcv
        go_simp
        exact hK _ _ (by simp) (Below.refl _ _) rfl
      · simp [predsOf, Region.binds, slotV] at hp
        refine wpOp_of rfl rfl ?_
        go_simp
        exact hK _ _ (by simp) (Below.refl _ _) rfl
      · simp [predsOf, Region.binds, slotV] at hp
        refine wpOp_of rfl rfl ?_
        go_simp
        refine (rputB_any 5 n L W).mono ?_
        rintro e W' ⟨rfl, hB'⟩
        exact hK _ _ (by simp) hB' rfl
      · have i0 : i = 0 := by simp at hi; omega
        subst i0
        simp [predsOf, Region.binds, slotV] at hp
        refine wpOp_of rfl rfl ?_
        go_simp
        exact hK _ _ (by simp) (Below.refl _ _) (by simp)
    case fin =>
      intro vs W hRs h6
      have hr := hRs 15 (by decide)
      simp at hr
      simp only [putAll, List.foldl_cons, List.foldl_nil, Act.put, List.setIfInBounds_toArray, List.set_cons_succ, List.set_cons_zero, hr]
      clear hRs hr
      go_wp2
      go_ret
      exact ⟨by rw [HP.out]; rfl, hb1.trans (h6.mono hb1.size)⟩
end Go.Proofs.Ytcojpbckeebohaa
