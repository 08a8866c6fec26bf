/-
  Contracts of the document's answer: MayBlock, PutBlock.
-/
import Derived.Test.YtcojpbckeebohaaKg
namespace Go.Proofs.Ytcojpbckeebohaa
open Go.RowKit Go.Joins

set_option maxHeartbeats 2000000 in
theorem rmayB_any (k g : Int) (s : ByteArray) (w : World) : Calls Try.prog 26 #[.agg #[.int .i64 k, .int .i64 g, .string s]] w fun e w' => e = .returned (.bool (PB.may k g s.size)) ∧ Below w.heap.size w w' := by
  have hB := al w (.cells #[.int .i64 k, .int .i64 g, .string s] 40)
  obtain ⟨b, hb⟩ : ∃ b, PB.may k g s.size = b := ⟨_, rfl⟩
  rw [hb]
  have HB := Lib.hid hb
  clear hb
  by_cases h1 : 1 ≤ k
  · by_cases h2 : k ≤ 5
    · by_cases h3 : 0 ≤ g
      · by_cases h4 : g ≤ 1073741824
        · go_enter Try.func26, Try.ntmps26
          go_wp2
          go_ret
          refine ⟨?_, hB⟩
          rw [← HB.out]
          simp [PB.may, PB.known, h1, h2, h3, h4]
          omega
        · have hd : decide (g ≤ 1073741824) = false := by simpa using h4
          go_enter Try.func26, Try.ntmps26
          go_wp2
          go_ret
          exact ⟨by rw [← HB.out]; simp [PB.may, PB.known, hd], hB⟩
      · have hd : decide (0 ≤ g) = false := by simpa using h3
        go_enter Try.func26, Try.ntmps26
        go_wp2
        go_ret
        exact ⟨by rw [← HB.out]; simp [PB.may, PB.known, hd], hB⟩
    · have hd : decide (k ≤ 5) = false := by simpa using h2
      go_enter Try.func26, Try.ntmps26
      go_wp2
      go_ret
      exact ⟨by rw [← HB.out]; simp [PB.may, PB.known, hd], hB⟩
  · have hd : decide (1 ≤ k) = false := by simpa using h1
    go_enter Try.func26, Try.ntmps26
    go_wp2
    go_ret
    exact ⟨by rw [← HB.out]; simp [PB.may, PB.known, hd], hB⟩

set_option maxHeartbeats 2000000 in
theorem rputB_no (k g : Int) (s : ByteArray) (hm : PB.may k g s.size = false) (w : World) : Calls Try.prog 16 #[.agg #[.int .i64 k, .int .i64 g, .string s]] w fun e w' => e = .returned (.string (PB.put k g s)) ∧ Below w.heap.size w w' := by
  have hB := al w (.cells #[.int .i64 k, .int .i64 g, .string s] 40)
  have hP : PB.put k g s = { data := #[] } := by rw [PB.put, hm]; rfl
  rw [hP]
  clear hP
  go_enter Try.func16, Try.ntmps16
  go_wp2_with fail
  refine (rmayB_any k g s _).mono ?_
  rintro e w1 ⟨rfl, hB1⟩
  rw [hm]
  have hb := hB.trans (hB1.mono (by simp))
  go_wp2
  go_ret
  exact ⟨rfl, hb⟩

set_option maxHeartbeats 4000000 in
theorem rputB_yes (k g : Int) (s : ByteArray) (hm : PB.may k g s.size = true) (w : World) : Calls Try.prog 16 #[.agg #[.int .i64 k, .int .i64 g, .string s]] w fun e w' => e = .returned (.string (PB.put k g s)) ∧ Below w.heap.size w w' := by
  have hB0 := al w (.cells #[.int .i64 k, .int .i64 g, .string s] 40)
  have hx0 := Bx.new w 40 #[.int .i64 k, .int .i64 g, .string s]
  have hP : PB.put k g s = str (PB.full k g (nums s)) := by rw [PB.put, hm]; rfl
  have hms := PB.may_spec.1 hm
  have hs : s.size ≤ 55 := hms.2
  have hk : I64 k := by unfold I64; omega
  have hg : I64 g := by unfold I64; omega
  clear hms
  have hraw := PB.raw_text k g (nums s) (by rw [nums_length]; omega)
  have hl1 := PlainBits.putS_length_le [] 1 [k]
  have hl2 := PlainBits.putS_length_le (PlainBits.putS [] 1 [k]) 4 [g]
  simp only [List.length_cons, List.length_nil] at hl1 hl2
  obtain ⟨PP, hPP⟩ : ∃ x, PB.put k g s = x := ⟨_, rfl⟩
  rw [hPP] at hP ⊢
  have HPut := Lib.hid hP
  clear hP hPP
  go_enter Try.func16, Try.ntmps16
  go_wp2_with fail
  refine (rmayB_any k g s _).mono ?_
  rintro e w0 ⟨rfl, hB1⟩
  rw [hm]
  have hB := hB0.trans (hB1.mono (by simp))
  have hx := hx0.on hB1
  have z0 := hB.size
  clear hB0 hB1 hx0 hm
  go_upto_region 3 with fail
  refine wp_region_grow Try.checked.mixed (by kernel_rfl) (fun W => Below w0.heap.size w0 W)
    (fun i v W => match i with
      | 0 => v = .pointer (some ⟨w.heap.size, 0, none⟩)
      | 1 => v = .int .i64 k
      | 2 => Tx W v (PlainBits.putS [] 1 [k])
      | 3 => v = .pointer (some ⟨w.heap.size, 1, none⟩)
      | 4 => v = .int .i64 g
      | 5 => Tx W v (PlainBits.putS (PlainBits.putS [] 1 [k]) 4 [g])
      | 6 => v = .pointer (some ⟨w.heap.size, 2, none⟩)
      | 7 => v = .string s
      | 8 => Ow W w.heap.size v (PB.raw k g (nums s))
      | _ => Ow W w.heap.size v (PB.raw k g (nums s))) ?hS ?hR ?start ?each ?fin
  case hS =>
    intro W W' h hb
    exact h.trans (hb.mono h.size)
  case hR =>
    intro j v W W' h hb
    rcases j with _ | _ | _ | _ | _ | _ | _ | _ | _ | j <;> first | exact h | exact Tx.below h hb | exact Ow.below h hb
  case start => exact (Below.refl _ _).drew
  case each =>
    intro i hi a W hold hp h6 K hK
    rcases i with _ | _ | _ | _ | _ | _ | _ | _ | _ | i
    · have s0 := hold 1 rfl
      simp [predsOf, Region.binds, slotV] at hp
      refine wpOp_of rfl rfl ?_
      simp at s0
      go_simp
      exact hK _ _ (by simp) (Below.refl _ _) rfl
    · simp [predsOf, Region.binds, slotV] at hp
      refine wpOp_of rfl rfl ?_
      have hc0 := (hx.on h6).cell 0
      simp at hc0
      go_simp
      exact hK _ _ (by simp) (Below.refl _ _) rfl
    · simp [predsOf, Region.binds, slotV] at hp
      refine wpOp_of rfl rfl ?_
      go_simp
      refine (one_any _ [] 1 k hk W (Tx.nil W) (by simp)).mono ?_
      rintro e W' ⟨v', rfl, hO, hB'⟩
      exact hK _ _ (by simp) hB' (hO.text (by omega))
    · have s0 := hold 1 rfl
      simp [predsOf, Region.binds, slotV] at hp
      refine wpOp_of rfl rfl ?_
      simp at s0
      go_simp
      exact hK _ _ (by simp) (Below.refl _ _) rfl
    · simp [predsOf, Region.binds, slotV] at hp
      refine wpOp_of rfl rfl ?_
      have hc1 := (hx.on h6).cell 1
      simp at hc1
      go_simp
      exact hK _ _ (by simp) (Below.refl _ _) rfl
    · simp [predsOf, Region.binds, slotV] at hp
      refine wpOp_of rfl rfl ?_
      go_simp
      refine (one_any _ _ 4 g hg W hp.1 (by omega)).mono ?_
      rintro e W' ⟨v', rfl, hO, hB'⟩
      exact hK _ _ (by simp) hB' (hO.text (by omega))
    · have s0 := hold 1 rfl
      simp [predsOf, Region.binds, slotV] at hp
      refine wpOp_of rfl rfl ?_
      simp at s0
      go_simp
      exact hK _ _ (by simp) (Below.refl _ _) rfl
    · simp [predsOf, Region.binds, slotV] at hp
      refine wpOp_of rfl rfl ?_
      have hc2 := (hx.on h6).cell 2
      simp at hc2
      go_simp
      exact hK _ _ (by simp) (Below.refl _ _) rfl
    · simp [predsOf, Region.binds, slotV] at hp
      refine wpOp_of rfl rfl ?_
      go_simp
      refine (rtext_any _ _ s W hp.1 (by omega)).mono ?_
      rintro e W' ⟨v', rfl, hO, hB'⟩
      rw [hraw] at hO
      exact hK _ _ (by simp) hB' ⟨own_mono hO.1 (by have := h6.size; omega), hO.2⟩
    · have i0 : i = 0 := by simp at hi; omega
      subst i0
      simp [predsOf, Region.binds, slotV] at hp
      refine wpOp_of rfl rfl ?_
      go_simp
      exact hK _ _ (by simp) (Below.refl _ _) hp.1
  case fin =>
    intro vs W hRs h6
    have hr := hRs 9 (by decide)
    simp at hr
    simp only [putAll, List.foldl_cons, List.foldl_nil, Act.put, List.setIfInBounds_toArray, List.set_cons_succ, List.set_cons_zero]
    generalize vs (some 3) = u at *
    clear hRs
    have hbw := hB.trans (h6.mono z0)
    obtain ⟨A, c, rfl⟩ := own_form hr.1
    obtain ⟨v', w', hrun, hO', hB'⟩ := run_append_zeros W w.heap.size 30 _ _ (64 - (6 + s.size)) hr (by omega) (by rw [PB.raw_length, nums_length]; omega) hbw.size
    rw [PB.raw_length, nums_length] at hrun ⊢
    have hlen : ((6 + s.size : Nat) : Int) ≤ 61 := by omega
    have hk64 : (64 : Int) - ((6 + s.size : Nat) : Int) = ((64 - (6 + s.size) : Nat) : Int) := by omega
    rw [← hk64] at hrun
    have hfull : PB.raw k g (nums s) ++ List.replicate (64 - (6 + s.size)) 0 = PB.full k g (nums s) := by rw [PB.full, nums_length]
    rw [hfull] at hO'
    have hstr := (hO'.text (by rw [PB.full_length _ _ _ (by rw [nums_length]; omega)]; decide)).string
    obtain ⟨A', c', rfl⟩ := own_form hO'.1
    have hb2 := hbw.trans hB'
    clear hr hO' hk64 hfull h6 hbw hB hx hB'
    generalize 6 + s.size = L at *
    generalize hF : str (PB.full k g (nums s)) = F at *
    generalize (PB.full k g (nums s)).length = M at *
    clear hF
    go_wp2_with (at_builtin; refine Lib.wpList_append_run _ rfl _ _ _ _ rfl _ _ rfl rfl _ _ hrun ?_)
    go_wp2
    go_ret
    exact ⟨by rw [HPut.out]; rfl, hb2⟩

theorem rputB_any (k g : Int) (s : ByteArray) (w : World) : Calls Try.prog 16 #[.agg #[.int .i64 k, .int .i64 g, .string s]] w fun e w' => e = .returned (.string (PB.put k g s)) ∧ Below w.heap.size w w' := by
  cases hm : PB.may k g s.size with
  | false => exact rputB_no k g s hm w
  | true => exact rputB_yes k g s hm w
end Go.Proofs.Ytcojpbckeebohaa
