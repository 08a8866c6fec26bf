/-
  Contracts: (head).bytes, (whole).text, block.Put.
-/
import Derived.Test.YtcojpbckeebohaaKc
namespace Go.Proofs.Ytcojpbckeebohaa
open Go.RowKit Go.Joins

def I64 (z : Int) : Prop := -9223372036854775808 ≤ z ∧ z ≤ 9223372036854775807

theorem In.one (w : World) (z : Int) (h : I64 z) (g : Nat) (hg : g = w.heap.size) : In (w.alloc (.cells #[.int .i64 z] 3)) (.slice (some ⟨g, 0, none⟩) 1 1) [z] :=
  In.new w _ _ 1 1 _ hg _ rfl rfl (by simpa [I64] using h) (by decide)
theorem Ow.below {w w' : World} {base : Nat} {v : Value} {bs : List Nat} (h : Ow w base v bs) (hb : Below w.heap.size w w') : Ow w' base v bs := by
  refine ⟨⟨h.1.1, ?_⟩, h.2⟩
  rcases h.1.2 with h0 | ⟨g, cap, cur, hv, hg, hh, hr⟩
  · exact .inl h0
  · exact .inr ⟨g, cap, cur, hv, hg, Bx.on (show Bx w g 5 cur from hh) hb, hr⟩

set_option maxHeartbeats 4000000 in
theorem bytes_any (k g : Int) (hk : I64 k) (hg : I64 g) (w : World) : Calls Try.prog 43 #[.agg #[.int .i64 k, .int .i64 g]] w fun e w' => ∃ v, e = .returned v ∧ Tx w' v (PlainBits.putS (PlainBits.putS [] 1 [k]) 4 [g]) ∧ Below w.heap.size w w' := by
  have hB := al w (.cells #[.int .i64 k, .int .i64 g] 64)
  have hx := Bx.new w 64 #[.int .i64 k, .int .i64 g]
  have hl1 := PlainBits.putS_length_le [] 1 [k]
  have hl2 := PlainBits.putS_length_le (PlainBits.putS [] 1 [k]) 4 [g]
  simp only [List.length_cons, List.length_nil] at hl1 hl2
  go_enter Try.func43, Try.ntmps43
  generalize hw0 : w.alloc (.cells #[.int .i64 k, .int .i64 g] 64) = w0 at *
  go_upto_region 1 with fail
  refine wp_region_grow Try.checked.mixed (by kernel_rfl) (fun W => Below w0.heap.size w0 W)
    (fun i v W => match i with
      | 0 => v = .pointer (some ⟨w.heap.size, 0, none⟩)
      | 1 => v = .int .i64 k
      | 2 => In W v [k]
      | 3 => Tx W v (PlainBits.putS [] 1 [k])
      | 4 => v = .pointer (some ⟨w.heap.size, 1, none⟩)
      | 5 => v = .int .i64 g
      | 6 => In W v [g]
      | 7 => Tx W v (PlainBits.putS (PlainBits.putS [] 1 [k]) 4 [g])
      | _ => Tx W v (PlainBits.putS (PlainBits.putS [] 1 [k]) 4 [g])) ?hS ?hR ?start ?each ?fin
  case hS =>
    intro W W' h hb
    exact h.trans (hb.mono h.size)
  case hR =>
    intro j v W W' h hb
    rcases j with _ | _ | _ | _ | _ | _ | _ | _ | j <;> first | exact h | exact Tx.below h hb | exact In.below h hb
  case start => exact (Below.refl _ _).drew
  case each =>
    intro i hi a W hold hp h6 K hK
    rcases i with _ | _ | _ | _ | _ | _ | _ | _ | i
    · have s := hold 1 rfl
      simp [predsOf, Region.binds, slotV] at hp
      refine wpOp_of rfl rfl ?_
      simp at s
      go_simp
      exact hK _ _ (by simp) (Below.refl _ _) rfl
    · simp [predsOf, Region.binds, slotV] at hp
      refine wpOp_of rfl rfl ?_
      have hc0 := (hx.on h6).cell 0
      simp at hc0
      go_simp
      exact hK _ _ (by simp) (Below.refl _ _) rfl
    · simp [predsOf, Region.binds, slotV] at hp
      refine wpOp_of rfl rfl ?_
      go_simp
      exact hK _ _ (by simp) (al _ _) (In.one W k hk _ rfl)
    · simp [predsOf, Region.binds, slotV] at hp
      refine wpOp_of rfl rfl ?_
      go_simp
      refine (put_any _ _ [] [k] 1 W (Tx.nil _) hp (by decide)).mono ?_
      rintro e W' ⟨v', rfl, hO, hB'⟩
      exact hK _ _ (by simp) hB' (hO.text (by omega))
    · have s := hold 1 rfl
      simp [predsOf, Region.binds, slotV] at hp
      refine wpOp_of rfl rfl ?_
      simp at s
      go_simp
      exact hK _ _ (by simp) (Below.refl _ _) rfl
    · simp [predsOf, Region.binds, slotV] at hp
      refine wpOp_of rfl rfl ?_
      have hc1 := (hx.on h6).cell 1
      simp at hc1
      go_simp
      exact hK _ _ (by simp) (Below.refl _ _) rfl
    · simp [predsOf, Region.binds, slotV] at hp
      refine wpOp_of rfl rfl ?_
      go_simp
      exact hK _ _ (by simp) (al _ _) (In.one W g hg _ rfl)
    · simp [predsOf, Region.binds, slotV] at hp
      refine wpOp_of rfl rfl ?_
      go_simp
      refine (put_any _ _ _ [g] 4 W hp.1 hp.2.1 (by omega)).mono ?_
      rintro e W' ⟨v', rfl, hO, hB'⟩
      exact hK _ _ (by simp) hB' (hO.text (by omega))
    · have i0 : i = 0 := by simp at hi; omega
      subst i0
      simp [predsOf, Region.binds, slotV] at hp
      refine wpOp_of rfl rfl ?_
      go_simp
      exact hK _ _ (by simp) (Below.refl _ _) hp.1
  case fin =>
    intro vs W hRs h6
    have hr := hRs 8 (by decide)
    simp at hr
    simp only [putAll, List.foldl_cons, List.foldl_nil, Act.put, List.setIfInBounds_toArray, List.set_cons_succ, List.set_cons_zero]
    generalize vs (some 2) = u at *
    clear hRs
    have HR := Lib.hid hr
    clear hr
    go_wp2
    go_ret
    exact ⟨_, rfl, HR.out, hB.trans (h6.mono (by rw [← hw0]; simp))⟩

set_option maxHeartbeats 4000000 in
theorem wtext_any (k g : Int) (s : ByteArray) (hk : I64 k) (hg : I64 g) (hs : s.size ≤ 55) (w : World) : Calls Try.prog 35 #[.agg #[.int .i64 k, .int .i64 g, .string s]] w fun e w' => e = .returned (.string (str (PB.full k g (nums s)))) ∧ Below w.heap.size w w' := by
  have hB := al w (.cells #[.int .i64 k, .int .i64 g, .string s] 66)
  have hx := Bx.new w 66 #[.int .i64 k, .int .i64 g, .string s]
  have hraw := PB.raw_text k g (nums s) (by rw [nums_length]; omega)
  have hl1 := PlainBits.putS_length_le [] 1 [k]
  have hl2 := PlainBits.putS_length_le (PlainBits.putS [] 1 [k]) 4 [g]
  simp only [List.length_cons, List.length_nil] at hl1 hl2
  go_enter Try.func35, Try.ntmps35
  generalize hw0 : w.alloc (.cells #[.int .i64 k, .int .i64 g, .string s] 66) = w0 at *
  have z0 : w.heap.size ≤ w0.heap.size := by rw [← hw0]; simp
  go_upto_region 1 with fail
  refine wp_region_grow Try.checked.mixed (by kernel_rfl) (fun W => Below w0.heap.size w0 W)
    (fun i v W => match i with
      | 0 => v = .pointer (some ⟨w.heap.size, 0, none⟩)
      | 1 => v = .agg #[.int .i64 k, .int .i64 g]
      | 2 => Tx W v (PlainBits.putS (PlainBits.putS [] 1 [k]) 4 [g])
      | 3 => v = .pointer (some ⟨w.heap.size, 2, none⟩)
      | 4 => v = .string s
      | 5 => Ow W w.heap.size v (PB.raw k g (nums s))
      | _ => Ow W w.heap.size v (PB.raw k g (nums s))) ?hS ?hR ?start ?each ?fin
  case hS =>
    intro W W' h hb
    exact h.trans (hb.mono h.size)
  case hR =>
    intro j v W W' h hb
    rcases j with _ | _ | _ | _ | _ | _ | j <;> first | exact h | exact Tx.below h hb | exact Ow.below h hb
  case start => exact (Below.refl _ _).drew
  case each =>
    intro i hi a W hold hp h6 K hK
    rcases i with _ | _ | _ | _ | _ | _ | i
    · have s := hold 1 rfl
      simp [predsOf, Region.binds, slotV] at hp
      refine wpOp_of rfl rfl ?_
      simp at s
      go_simp
      exact hK _ _ (by simp) (Below.refl _ _) rfl
    · simp [predsOf, Region.binds, slotV] at hp
      refine wpOp_of rfl rfl ?_
      have hc0 := (hx.on h6).cell 0
      have hc1 := (hx.on h6).cell 1
      simp at hc0 hc1
      go_simp
      exact hK _ _ (by simp) (Below.refl _ _) rfl
    · simp [predsOf, Region.binds, slotV] at hp
      refine wpOp_of rfl rfl ?_
      go_simp
      refine (bytes_any k g hk hg W).mono ?_
      rintro e W' ⟨v', rfl, hO, hB'⟩
      exact hK _ _ (by simp) hB' hO
    · have s := hold 1 rfl
      simp [predsOf, Region.binds, slotV] at hp
      refine wpOp_of rfl rfl ?_
      simp at s
      go_simp
      exact hK _ _ (by simp) (Below.refl _ _) rfl
    · simp [predsOf, Region.binds, slotV] at hp
      refine wpOp_of rfl rfl ?_
      have hc2 := (hx.on h6).cell 2
      simp at hc2
      go_simp
      exact hK _ _ (by simp) (Below.refl _ _) rfl
    · simp [predsOf, Region.binds, slotV] at hp
      refine wpOp_of rfl rfl ?_
      go_simp
      refine (text_any _ _ s W hp.1 (by omega)).mono ?_
      rintro e W' ⟨v', rfl, hO, hB'⟩
      rw [hraw] at hO
      exact hK _ _ (by simp) hB' ⟨own_mono hO.1 (by have := h6.size; omega), hO.2⟩
    · have i0 : i = 0 := by simp at hi; omega
      subst i0
      simp [predsOf, Region.binds, slotV] at hp
      refine wpOp_of rfl rfl ?_
      go_simp
      exact hK _ _ (by simp) (Below.refl _ _) hp.1
  case fin =>
    intro vs W hRs h6
    have hr := hRs 6 (by decide)
    simp at hr
    simp only [putAll, List.foldl_cons, List.foldl_nil, Act.put, List.setIfInBounds_toArray, List.set_cons_succ, List.set_cons_zero]
    generalize vs (some 3) = u at *
    clear hRs
    have hbw := hB.trans (h6.mono z0)
    obtain ⟨A, c, rfl⟩ := own_form hr.1
    obtain ⟨v', w', hrun, hO', hB'⟩ := run_append_zeros W w.heap.size 30 _ _ (64 - (6 + s.size)) hr (by omega) (by rw [PB.raw_length, nums_length]; omega) hbw.size
    rw [PB.raw_length, nums_length] at hrun ⊢
    have hlen : ((6 + s.size : Nat) : Int) ≤ 61 := by omega
    have hk64 : (64 : Int) - ((6 + s.size : Nat) : Int) = ((64 - (6 + s.size) : Nat) : Int) := by omega
    rw [← hk64] at hrun
    have hfull : PB.raw k g (nums s) ++ List.replicate (64 - (6 + s.size)) 0 = PB.full k g (nums s) := by rw [PB.full, nums_length]
    rw [hfull] at hO'
    have hstr := (hO'.text (by rw [PB.full_length _ _ _ (by rw [nums_length]; omega)]; decide)).string
    obtain ⟨A', c', rfl⟩ := own_form hO'.1
    have hb2 := hbw.trans hB'
    clear hr hO' hk64 hfull h6 hbw hB hx hB'
    generalize 6 + s.size = L at *
    generalize hF : str (PB.full k g (nums s)) = F at *
    generalize (PB.full k g (nums s)).length = M at *
    have HF := Lib.hid hF
    clear hF
    go_wp2_with (at_builtin; refine Lib.wpList_append_run _ rfl _ _ _ _ rfl _ _ rfl rfl _ _ hrun ?_)
    go_wp2
    go_ret
    exact ⟨by rw [HF.out]; rfl, hb2⟩

set_option maxHeartbeats 2000000 in
theorem bput_any (k g : Int) (s : ByteArray) (hk : I64 k) (hg : I64 g) (w : World) : Calls Try.prog 31 #[.agg #[.int .i64 k, .int .i64 g, .string s]] w fun e w' => e = .returned (.string (PB.put k g s)) ∧ Below w.heap.size w w' := by
  have hB := al w (.cells #[.int .i64 k, .int .i64 g, .string s] 40)
  obtain ⟨p, hp⟩ : ∃ p, PB.put k g s = p := ⟨_, rfl⟩
  rw [hp]
  have HP := Lib.hid hp
  clear hp
  go_enter Try.func31, Try.ntmps31
  go_wp2_with fail
  refine (of_any k g s _).mono ?_
  rintro e w1 ⟨rfl, hB1⟩
  have hb1 := hB.trans (hB1.mono (by simp))
  have hx := Bx.new w1 66 #[.int .i64 k, .int .i64 g, .string s]
  have hb2 := hb1.alloc hb1.size (.cells #[.int .i64 k, .int .i64 g, .string s] 66)
  clear hB hB1
  go_wp2_with fail
  refine (wmay_any k g s _).mono ?_
  rintro e w3 ⟨rfl, hB3⟩
  have hb3 := hb2.trans (hB3.mono hb2.size)
  have hx3 := hx.on hB3
  clear hx hb2 hB3
  obtain ⟨c0, c1, c2, f0, f1, f2⟩ := hx3.three
  cases hm : PB.may k g s.size with
  | false =>
    go_wp2
    go_ret
    exact ⟨by rw [← HP.out, PB.put, hm]; rfl, hb3⟩
  | true =>
    go_wp2_with fail
    refine (wtext_any k g s hk hg (PB.may_spec.1 hm).2 _).mono ?_
    rintro e w4 ⟨rfl, hB4⟩
    have hb4 := hb3.trans (hB4.mono hb3.size)
    go_wp2
    go_ret
    exact ⟨by rw [← HP.out, PB.put, if_pos hm]; rfl, hb4⟩
end Go.Proofs.Ytcojpbckeebohaa
