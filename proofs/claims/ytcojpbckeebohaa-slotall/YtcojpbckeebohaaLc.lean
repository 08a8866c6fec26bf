/-
  Contracts: (whole).may, (whole).text, slot.May, slot.Put.
-/
import Derived.Test.YtcojpbckeebohaaLb
namespace Go.Proofs.Ytcojpbckeebohaa
open Go.RowKit Go.Joins

set_option maxHeartbeats 2000000 in
theorem smay_any (x : PS.S) (h : R5 x) (w : World) : Calls Try.prog 18 #[.agg (sv x)] w fun e w' => e = .returned (.bool (PS.may x)) ∧ Below w.heap.size w w' := by
  obtain ⟨n, q, m, g, p⟩ := x
  obtain ⟨hn, hq, hm, hg, hp⟩ := h
  dsimp only at hn hq hm hg hp
  unfold sv PS.may
  have hx := Bx.new w 44 #[.int .i64 n, .int .i64 q, .int .i64 m, .int .i64 g, .int .i64 p]
  have hB := al w (.cells #[.int .i64 n, .int .i64 q, .int .i64 m, .int .i64 g, .int .i64 p] 44)
  have hI := In.one (w.alloc (.cells #[.int .i64 n, .int .i64 q, .int .i64 m, .int .i64 g, .int .i64 p] 44)) n hn _ rfl
  have hy := hx.alloc (.cells #[.int .i64 n] 3)
  have hB1 := hB.alloc (by simp) (.cells #[.int .i64 n] 3)
  have HI := Lib.hid hI
  have HN := Lib.hid hn
  have HQ := Lib.hid hq
  have HM := Lib.hid hm
  have HG := Lib.hid hg
  have HP := Lib.hid hp
  have h1 : [n].all PS.num = PS.num n := by simp
  dsimp only
  generalize PS.num n = t at *
  have H1 := Lib.hid h1
  generalize ht : PS.within q m g p = u
  have HU := Lib.hid ht
  clear hI hB ht hx hn hq hm hg hp h1
  go_enter Try.func18, Try.ntmps18
  go_wp2_with fail
  refine (numbers_any _ [n] _ (by simpa using HI.out)).mono ?_
  rintro e w1 ⟨rfl, rfl⟩
  rw [H1.out]
  generalize ((w.alloc (.cells #[.int .i64 n, .int .i64 q, .int .i64 m, .int .i64 g, .int .i64 p] 44)).alloc (.cells #[.int .i64 n] 3)) = w1 at *
  obtain ⟨⟨c0, c1, c2, c3, c4⟩, _⟩ := hy.five
  clear HI
  cases t with
  | false =>
    go_wp2
    go_ret
    exact ⟨by simp, hB1⟩
  | true =>
    by_cases h0 : 0 < n
    · go_wp2_with fail
      refine (within_any q m g p HQ.out HM.out HG.out HP.out _).mono ?_
      rintro e w2 ⟨rfl, hB2⟩
      rw [HU.out]
      have hb := hB1.trans (hB2.mono hB1.size)
      clear hB1 hB2
      go_wp2
      go_ret
      exact ⟨by simp [h0], hb⟩
    · have hd : decide (0 < n) = false := by simpa using h0
      go_wp2
      go_ret
      exact ⟨by simp [hd], hB1⟩

set_option maxHeartbeats 4000000 in
theorem stext_any (x : PS.S) (h : R5 x) (w : World) : Calls Try.prog 20 #[.agg (sv x)] w fun e w' => e = .returned (.string (PS.text x)) ∧ Below w.heap.size w w' := by
  obtain ⟨n, q, m, g, p⟩ := x
  obtain ⟨hn, hq, hm, hg, hp⟩ := h
  dsimp only at hn hq hm hg hp
  unfold sv PS.text
  dsimp only
  have hx := Bx.new w 44 #[.int .i64 n, .int .i64 q, .int .i64 m, .int .i64 g, .int .i64 p]
  have hB := al w (.cells #[.int .i64 n, .int .i64 q, .int .i64 m, .int .i64 g, .int .i64 p] 44)
  have hc := load_any q m g p hq hm hg hp
  obtain ⟨L, hL⟩ : ∃ L, PS.load q m g p = L := ⟨_, rfl⟩
  rw [hL] at hc ⊢
  have hc2 := bput_any 5 n L (i64_lit (by decide)) hn
  clear hL
  go_enter Try.func20, Try.ntmps20
  generalize hw0 : w.alloc (.cells #[.int .i64 n, .int .i64 q, .int .i64 m, .int .i64 g, .int .i64 p] 44) = w0 at *
  go_upto_region 1 with fail
  refine wp_region_grow Try.checked.mixed (by kernel_rfl) (fun W => Below w0.heap.size w0 W)
    (fun i v W => match i with
      | 0 => v = .pointer (some ⟨w.heap.size, 0, none⟩)
      | 1 => v = .int .i64 n
      | 2 => v = .pointer (some ⟨w.heap.size, 1, none⟩)
      | 3 => v = .agg #[.int .i64 q, .int .i64 m, .int .i64 g, .int .i64 p]
      | 4 => v = .string L
      | 5 => v = .agg #[.int .i64 5, .int .i64 n, .string L]
      | _ => v = .string (PB.put 5 n L)) ?hS ?hR ?start ?each ?fin
  case hS =>
    intro W W' h hb
    exact h.trans (hb.mono h.size)
  case hR =>
    intro j v W W' h hb
    rcases j with _ | _ | _ | _ | _ | _ | j <;> exact h
  case start => exact (Below.refl _ _).drew
  case each =>
    intro i hi a W hold hp h6 K hK
    obtain ⟨⟨c0, c1, c2, c3, c4⟩, _⟩ := (hx.on h6).five
    rcases i with _ | _ | _ | _ | _ | _ | _ | i
    · have s := hold 1 rfl
      simp [predsOf, Region.binds, slotV] at hp
      refine wpOp_of rfl rfl ?_
      simp at s
      go_simp
      exact hK _ _ (by simp) (Below.refl _ _) rfl
    · simp [predsOf, Region.binds, slotV] at hp
      refine wpOp_of rfl rfl ?_
      go_simp
      exact hK _ _ (by simp) (Below.refl _ _) rfl
    · have s := hold 1 rfl
      simp [predsOf, Region.binds, slotV] at hp
      refine wpOp_of rfl rfl ?_
      simp at s
      go_simp
      exact hK _ _ (by simp) (Below.refl _ _) rfl
    · simp [predsOf, Region.binds, slotV] at hp
      refine wpOp_of rfl rfl ?_
      go_simp
      exact hK _ _ (by simp) (Below.refl _ _) rfl
    · simp [predsOf, Region.binds, slotV] at hp
      refine wpOp_of rfl rfl ?_
      go_simp
      refine (hc W).mono ?_
      rintro e W' ⟨rfl, hB'⟩
      exact hK _ _ (by simp) hB' rfl
    · simp [predsOf, Region.binds, slotV] at hp
      refine wpOp_of rfl rfl ?_
      go_simp
      exact hK _ _ (by simp) (Below.refl _ _) rfl
    · simp [predsOf, Region.binds, slotV] at hp
      refine wpOp_of rfl rfl ?_
      go_simp
      refine (hc2 W).mono ?_
      rintro e W' ⟨rfl, hB'⟩
      exact hK _ _ (by simp) hB' rfl
    · have i0 : i = 0 := by simp at hi; omega
      subst i0
      simp [predsOf, Region.binds, slotV] at hp
      refine wpOp_of rfl rfl ?_
      go_simp
      exact hK _ _ (by simp) (Below.refl _ _) (by simp)
  case fin =>
    intro vs W hRs h6
    have hr := hRs 7 (by decide)
    simp at hr
    simp only [putAll, List.foldl_cons, List.foldl_nil, Act.put, List.setIfInBounds_toArray, List.set_cons_succ, List.set_cons_zero, hr]
    clear hRs hr
    go_wp2
    go_ret
    exact ⟨rfl, hB.trans (h6.mono (by rw [← hw0]; simp))⟩
end Go.Proofs.Ytcojpbckeebohaa
