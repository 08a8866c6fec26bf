/-
  The law BlockBack: its walk.
-/
import Derived.Test.YtjgjhbgadekceaaKg
namespace Go.Proofs.Ytjgjhbgadekceaa
open Go.RowKit Go.Joins

theorem Bx.newG (w : World) (t : TypeId) (cs : Array Value) (g : Nat) (hg : g = w.heap.size) : Bx (w.alloc (.cells cs t)) g t cs := by subst hg; exact Bx.new w t cs
theorem Bx.held {w : World} {g : Nat} {t : TypeId} {a b c : Value} (h : Bx w g t #[a, b, c]) : ∀ W, Below w.heap.size w W → W.cell? ⟨g, 0, none⟩ = some a ∧ W.cell? ⟨g, 1, none⟩ = some b ∧ W.cell? ⟨g, 2, none⟩ = some c := by
  intro W hb
  obtain ⟨h0, h1, h2, _⟩ := (h.on hb).three
  exact ⟨h0, h1, h2⟩

set_option maxHeartbeats 2000000 in
theorem back_big (k j a b : Nat) (s t : ByteArray) (w : World) (hbig : 55 < s.size ∨ 55 < t.size) :
    Calls Try.prog 4 #[.int .u8 (k : Int), .int .u8 (j : Int), .int .u16 (a : Int), .int .u16 (b : Int), .string s, .string t] w fun e w' => e = .returned (.bool true) ∧ Below w.heap.size w w' := by
  by_cases h0 : (55 : Int) < (s.size : Int)
  · go_enter Try.func4, Try.ntmps4
    go_wp2_with fail
    refine (begun_any _).mono ?_
    rintro e w1 ⟨rfl, hb1⟩
    go_wp2
    go_ret
    exact ⟨rfl, hb1⟩
  have h1 : (55 : Int) < (t.size : Int) := by omega
  go_enter Try.func4, Try.ntmps4
  go_wp2_with fail
  refine (begun_any _).mono ?_
  rintro e w1 ⟨rfl, hb1⟩
  go_wp2
  go_ret
  exact ⟨rfl, hb1⟩

set_option maxHeartbeats 1600000 in
theorem back_any (k j a b : Nat) (s t : ByteArray) (w : World) (rk : k < 256) (rj : j < 256) (ra : a < 65536) (rb : b < 65536) (hs : s.size ≤ 55) (ht : t.size ≤ 55) :
    Calls Try.prog 4 #[.int .u8 (k : Int), .int .u8 (j : Int), .int .u16 (a : Int), .int .u16 (b : Int), .string s, .string t] w fun e w' => e = .returned (.bool true) ∧ Below w.heap.size w w' := by
  have g0 : ¬ (55 : Int) < (s.size : Int) := by omega
  have g1 : ¬ (55 : Int) < (t.size : Int) := by omega
  obtain ⟨kx, hKe⟩ : ∃ kx : Int, 1 + (k : Int) % 5 = kx := ⟨_, rfl⟩
  obtain ⟨J, hJe⟩ : ∃ J : Int, 1 + (j : Int) % 5 = J := ⟨_, rfl⟩
  have bK : 1 ≤ kx ∧ kx ≤ 5 := by omega
  have bJ : 1 ≤ J ∧ J ≤ 5 := by omega
  obtain ⟨A, hAe⟩ : ∃ A : Int, (a : Int) = A := ⟨_, rfl⟩
  obtain ⟨B, hBe⟩ : ∃ B : Int, (b : Int) = B := ⟨_, rfl⟩
  have bA : 0 ≤ A ∧ A < 65536 := by omega
  have bB : 0 ≤ B ∧ B < 65536 := by omega
  have rK : I64 kx := by unfold I64; omega
  have rJ : I64 J := by unfold I64; omega
  have rA : I64 A := by unfold I64; omega
  have rB : I64 B := by unfold I64; omega
  have mX : PB.may kx A s.size = true := PB.may_spec.2 (by omega)
  have mY : PB.may J B t.size = true := PB.may_spec.2 (by omega)
  obtain ⟨P, hP⟩ : ∃ P, PB.put kx A s = P := ⟨_, rfl⟩
  obtain ⟨Q, hQ⟩ : ∃ Q, PB.put J B t = Q := ⟨_, rfl⟩
  have sP : P.size = 64 := by rw [← hP]; exact PB.put_size mX
  have sQ : Q.size = 64 := by rw [← hQ]; exact PB.put_size mY
  obtain ⟨p0, p1, p2, p3⟩ := PB.took_of mX hP
  obtain ⟨q0, q1, q2, q3⟩ := PB.took_of mY hQ
  obtain ⟨E, hPQ, hXY⟩ : ∃ E : Bool, (P.toList == Q.toList) = E ∧ (decide (kx = J) && (decide (A = B) && (s.toList == t.toList))) = E := by
    by_cases h : kx = J ∧ A = B ∧ s = t
    · obtain ⟨h1, h2, h3⟩ := h
      refine ⟨true, ?_, ?_⟩
      · rw [← hP, ← hQ, h1, h2, h3]; exact seq_yes _
      · rw [h1, h2, h3, seq_yes]; simp
    · refine ⟨false, seq_no fun e => h (PB.put_inj mX mY (by rw [hP, hQ]; exact e)), ?_⟩
      by_cases h1 : kx = J
      · by_cases h2 : A = B
        · have h3 : s ≠ t := fun e => h ⟨h1, h2, e⟩
          rw [seq_no h3]; simp
        · simp [h2]
      · simp [h1]
  have HP := Lib.hid hP
  have HQ := Lib.hid hQ
  have HPQ := Lib.hid hPQ
  have HXY := Lib.hid hXY
  clear hP hQ hPQ hXY mX mY
  go_enter Try.func4, Try.ntmps4
  go_wp2_with fail
  refine (begun_any _).mono ?_
  rintro e w1 ⟨rfl, hb1⟩
  have z1 := hb1.size
  go_upto_region 6 with fail
  have hx2 := (Bx.new w1 23 #[.int .i64 kx, .int .i64 A, .string s]).alloc (.cells #[.int .i64 J, .int .i64 B, .string t] 23)
  have hy2 := Bx.newG (w1.alloc (.cells #[.int .i64 kx, .int .i64 A, .string s] 23)) 23 #[.int .i64 J, .int .i64 B, .string t] (w1.heap.size + 1) (by simp)
  have hb2 := (hb1.alloc z1 (.cells #[.int .i64 kx, .int .i64 A, .string s] 23)).alloc (by simp; omega) (.cells #[.int .i64 J, .int .i64 B, .string t] 23)
  generalize (w1.alloc (.cells #[.int .i64 kx, .int .i64 A, .string s] 23)).alloc (.cells #[.int .i64 J, .int .i64 B, .string t] 23) = w2 at hx2 hy2 hb2 ⊢
  generalize w1.heap.size + 1 = gy at hy2 ⊢
  generalize w1.heap.size = gx at hx2 ⊢
  clear hb1 z1 g0 g1
  obtain ⟨c0, c1, c2, _⟩ := hx2.three
  go_wp2_with fail
  refine (bput_any kx A s rK rA _).mono ?_
  rintro e w3 ⟨rfl, hB3⟩
  rw [HP.out]
  clear c0 c1 c2
  go_wp2_with fail
  refine (btake_any P _ (by omega)).mono ?_
  rintro e w4 ⟨rfl, hB4⟩
  rw [p0, p1, p2, p3]
  have hx5 := ((hx2.on hB3).on hB4).alloc (.cells #[.int .i64 kx, .int .i64 A, .string s] 23)
  have hy5 := ((hy2.on hB3).on hB4).alloc (.cells #[.int .i64 kx, .int .i64 A, .string s] 23)
  have hu5 := Bx.new w4 23 #[.int .i64 kx, .int .i64 A, .string s]
  have hb4 := (hb2.trans (hB3.mono hb2.size)).trans (hB4.mono (hb2.trans (hB3.mono hb2.size)).size)
  have hb5 := hb4.alloc hb4.size (.cells #[.int .i64 kx, .int .i64 A, .string s] 23)
  clear hx2 hy2 hb2 hB3 hB4 hb4
  go_upto_region 7 with fail
  generalize w4.alloc (.cells #[.int .i64 kx, .int .i64 A, .string s] 23) = w5 at *
  generalize w4.heap.size = gu at *
  obtain ⟨c0, c1, c2, _⟩ := hy5.three
  go_wp2_with fail
  refine (bput_any J B t rJ rB _).mono ?_
  rintro e w6 ⟨rfl, hB6⟩
  rw [HQ.out]
  clear c0 c1 c2
  go_wp2_with fail
  refine (btake_any Q _ (by omega)).mono ?_
  rintro e w7 ⟨rfl, hB7⟩
  rw [q0, q1, q2, q3]
  have hx8 := ((hx5.on hB6).on hB7).alloc (.cells #[.int .i64 J, .int .i64 B, .string t] 23)
  have hy8 := ((hy5.on hB6).on hB7).alloc (.cells #[.int .i64 J, .int .i64 B, .string t] 23)
  have hu8 := ((hu5.on hB6).on hB7).alloc (.cells #[.int .i64 J, .int .i64 B, .string t] 23)
  have hv8 := Bx.new w7 23 #[.int .i64 J, .int .i64 B, .string t]
  have hb7 := (hb5.trans (hB6.mono hb5.size)).trans (hB7.mono (hb5.trans (hB6.mono hb5.size)).size)
  have hb8 := hb7.alloc hb7.size (.cells #[.int .i64 J, .int .i64 B, .string t] 23)
  clear hx5 hy5 hu5 hb5 hB6 hB7 hb7
  go_upto_region 8 with fail
  generalize w7.alloc (.cells #[.int .i64 J, .int .i64 B, .string t] 23) = w8 at *
  generalize w7.heap.size = gv at *
  have hx := hx8.held
  have hy := hy8.held
  have hu := hu8.held
  have hv := hv8.held
  have hP := HP.out
  have hQ := HQ.out
  have hPQ := HPQ.out
  have hXY := HXY.out
  have hP64 : (P.size : Int) = 64 := by omega
  clear hx8 hy8 hu8 hv8 p0 p1 p2 p3 q0 q1 q2 q3 hKe hJe hAe hBe HP HQ HPQ HXY
  refine wp_region_grow Try.checked.mixed (by kernel_rfl) (fun W => Below w8.heap.size w8 W)
    (fun i v W => match i with
      | 0 => v = .bool true
      | 1 => v = .bool true
      | 2 => v = .agg #[.int .i64 kx, .int .i64 A, .string s]
      | 3 => v = .agg #[.int .i64 kx, .int .i64 A, .string s]
      | 4 => v = .bool true
      | 5 => v = .bool true
      | 6 => v = .bool true
      | 7 => v = .bool true
      | 8 => v = .bool true
      | 9 => v = .bool true
      | 10 => v = .agg #[.int .i64 J, .int .i64 B, .string t]
      | 11 => v = .agg #[.int .i64 J, .int .i64 B, .string t]
      | 12 => v = .bool true
      | 13 => v = .bool true
      | 14 => v = .bool true
      | 15 => v = .agg #[.int .i64 kx, .int .i64 A, .string s]
      | 16 => v = .string P
      | 17 => v = .agg #[.int .i64 J, .int .i64 B, .string t]
      | 18 => v = .string Q
      | 19 => v = .bool E
      | 20 => v = .agg #[.int .i64 kx, .int .i64 A, .string s]
      | 21 => v = .agg #[.int .i64 J, .int .i64 B, .string t]
      | 22 => v = .bool E
      | 23 => v = .bool true
      | 24 => v = .bool true
      | 25 => v = .bool true
      | 26 => v = .agg #[.int .i64 kx, .int .i64 A, .string s]
      | 27 => v = .string P
      | 28 => v = .int .i64 64
      | 29 => v = .bool true
      | 30 => v = .bool true
      | _ => v = .bool true) ?hS ?hR ?start ?each ?fin
  case hS =>
    intro W W' h hb
    exact h.trans (hb.mono h.size)
  case hR =>
    intro j v W W' h hb
    rcases j with _ | _ | _ | _ | _ | _ | _ | _ | _ | _ | _ | _ | _ | _ | _ | _ | _ | _ | _ | _ | _ | _ | _ | _ | _ | _ | _ | _ | _ | _ | _ | j <;> first | exact h
  case start => exact (Below.refl _ _).drew
  case each =>
    intro i hi a W hold hp h6 K hK
    rcases i with _ | _ | _ | _ | _ | _ | _ | _ | _ | _ | _ | _ | _ | _ | _ | _ | _ | _ | _ | _ | _ | _ | _ | _ | _ | _ | _ | _ | _ | _ | _ | i
    · have s0 := hold 16 rfl
      simp [predsOf, Region.binds, slotV] at hp
      refine wpOp_of rfl rfl ?_
      simp at s0
      go_simp
      exact hK _ _ (by simp) (Below.refl _ _) rfl
    · simp [predsOf, Region.binds, slotV] at hp
      refine wpOp_of rfl rfl ?_
      go_simp
      exact hK _ _ (by simp) (Below.refl _ _) (by simp)
    · have s0 := hold 15 rfl
      simp [predsOf, Region.binds, slotV] at hp
      have hg := slot_bool (x := a.tmps[58]?) (b := true) (by simp [hp])
      refine wpOp_of rfl (by simp [Region.wanted, yielded, hg]) ?_
      simp at s0
      obtain ⟨q0, q1, q2⟩ := hu W h6
      go_simp
      exact hK _ _ (by simp) (Below.refl _ _) rfl
    · have s0 := hold 13 rfl
      simp [predsOf, Region.binds, slotV] at hp
      have hg := slot_bool (x := a.tmps[58]?) (b := true) (by simp [hp])
      refine wpOp_of rfl (by simp [Region.wanted, yielded, hg]) ?_
      simp at s0
      obtain ⟨q0, q1, q2⟩ := hx W h6
      go_simp
      exact hK _ _ (by simp) (Below.refl _ _) rfl
    · simp [predsOf, Region.binds, slotV] at hp
      have hg := slot_bool (x := a.tmps[58]?) (b := true) (by simp [hp])
      refine wpOp_of rfl (by simp [Region.wanted, yielded, hg]) ?_
      go_simp
      exact hK _ _ (by simp) (Below.refl _ _) (by simp)
    · simp [predsOf, Region.binds, slotV] at hp
      refine wpOp_of rfl rfl ?_
      go_simp
      exact hK _ _ (by simp) (Below.refl _ _) (by simp)
    · simp [predsOf, Region.binds, slotV] at hp
      refine wpOp_of rfl rfl ?_
      go_simp
      exact hK _ _ (by simp) (Below.refl _ _) (by simp)
    · have s0 := hold 18 rfl
      simp [predsOf, Region.binds, slotV] at hp
      have hg := slot_bool (x := a.tmps[63]?) (b := true) (by simp [hp])
      refine wpOp_of rfl (by simp [Region.wanted, yielded, hg]) ?_
      simp at s0
      go_simp
      exact hK _ _ (by simp) (Below.refl _ _) rfl
    · simp [predsOf, Region.binds, slotV] at hp
      refine wpOp_of rfl rfl ?_
      go_simp
      exact hK _ _ (by simp) (Below.refl _ _) (by simp)
    · simp [predsOf, Region.binds, slotV] at hp
      refine wpOp_of rfl rfl ?_
      go_simp
      exact hK _ _ (by simp) (Below.refl _ _) (by simp)
    · have s0 := hold 17 rfl
      simp [predsOf, Region.binds, slotV] at hp
      have hg := slot_bool (x := a.tmps[66]?) (b := true) (by simp [hp])
      refine wpOp_of rfl (by simp [Region.wanted, yielded, hg]) ?_
      simp at s0
      obtain ⟨q0, q1, q2⟩ := hv W h6
      go_simp
      exact hK _ _ (by simp) (Below.refl _ _) rfl
    · have s0 := hold 14 rfl
      simp [predsOf, Region.binds, slotV] at hp
      have hg := slot_bool (x := a.tmps[66]?) (b := true) (by simp [hp])
      refine wpOp_of rfl (by simp [Region.wanted, yielded, hg]) ?_
      simp at s0
      obtain ⟨q0, q1, q2⟩ := hy W h6
      go_simp
      exact hK _ _ (by simp) (Below.refl _ _) rfl
    · simp [predsOf, Region.binds, slotV] at hp
      have hg := slot_bool (x := a.tmps[66]?) (b := true) (by simp [hp])
      refine wpOp_of rfl (by simp [Region.wanted, yielded, hg]) ?_
      go_simp
      exact hK _ _ (by simp) (Below.refl _ _) (by simp)
    · simp [predsOf, Region.binds, slotV] at hp
      refine wpOp_of rfl rfl ?_
      go_simp
      exact hK _ _ (by simp) (Below.refl _ _) (by simp)
    · simp [predsOf, Region.binds, slotV] at hp
      refine wpOp_of rfl rfl ?_
      go_simp
      exact hK _ _ (by simp) (Below.refl _ _) (by simp)
    · have s0 := hold 13 rfl
      simp [predsOf, Region.binds, slotV] at hp
      have hg := slot_bool (x := a.tmps[71]?) (b := true) (by simp [hp])
      refine wpOp_of rfl (by simp [Region.wanted, yielded, hg]) ?_
      simp at s0
      obtain ⟨q0, q1, q2⟩ := hx W h6
      go_simp
      exact hK _ _ (by simp) (Below.refl _ _) rfl
    · simp [predsOf, Region.binds, slotV] at hp
      have hg := slot_bool (x := a.tmps[71]?) (b := true) (by simp [hp])
      refine wpOp_of rfl (by simp [Region.wanted, yielded, hg]) ?_
      go_simp
      refine (bput_any kx A s rK rA W).mono ?_
      rintro e W' ⟨rfl, hB'⟩
      rw [hP]
      exact hK _ _ (by simp) hB' rfl
    · have s0 := hold 14 rfl
      simp [predsOf, Region.binds, slotV] at hp
      have hg := slot_bool (x := a.tmps[71]?) (b := true) (by simp [hp])
      refine wpOp_of rfl (by simp [Region.wanted, yielded, hg]) ?_
      simp at s0
      obtain ⟨q0, q1, q2⟩ := hy W h6
      go_simp
      exact hK _ _ (by simp) (Below.refl _ _) rfl
    · simp [predsOf, Region.binds, slotV] at hp
      have hg := slot_bool (x := a.tmps[71]?) (b := true) (by simp [hp])
      refine wpOp_of rfl (by simp [Region.wanted, yielded, hg]) ?_
      go_simp
      refine (bput_any J B t rJ rB W).mono ?_
      rintro e W' ⟨rfl, hB'⟩
      rw [hQ]
      exact hK _ _ (by simp) hB' rfl
    · simp [predsOf, Region.binds, slotV] at hp
      have hg := slot_bool (x := a.tmps[71]?) (b := true) (by simp [hp])
      refine wpOp_of rfl (by simp [Region.wanted, yielded, hg]) ?_
      go_simp
      exact hK _ _ (by simp) (Below.refl _ _) (by simp [hPQ])
    · have s0 := hold 13 rfl
      simp [predsOf, Region.binds, slotV] at hp
      have hg := slot_bool (x := a.tmps[71]?) (b := true) (by simp [hp])
      refine wpOp_of rfl (by simp [Region.wanted, yielded, hg]) ?_
      simp at s0
      obtain ⟨q0, q1, q2⟩ := hx W h6
      go_simp
      exact hK _ _ (by simp) (Below.refl _ _) rfl
    · have s0 := hold 14 rfl
      simp [predsOf, Region.binds, slotV] at hp
      have hg := slot_bool (x := a.tmps[71]?) (b := true) (by simp [hp])
      refine wpOp_of rfl (by simp [Region.wanted, yielded, hg]) ?_
      simp at s0
      obtain ⟨q0, q1, q2⟩ := hy W h6
      go_simp
      exact hK _ _ (by simp) (Below.refl _ _) rfl
    · simp [predsOf, Region.binds, slotV] at hp
      have hg := slot_bool (x := a.tmps[71]?) (b := true) (by simp [hp])
      refine wpOp_of rfl (by simp [Region.wanted, yielded, hg]) ?_
      go_simp
      by_cases e1 : kx = J
      · by_cases e2 : A = B
        · by_cases e3 : s.toList = t.toList
          · rw [if_pos e1, if_pos e2, if_pos e3]
            go_simp
            exact hK _ _ (by simp) (Below.refl _ _) (by rw [← hXY]; simp [e1, e2, e3])
          · rw [if_pos e1, if_pos e2, if_neg e3]
            go_simp
            exact hK _ _ (by simp) (Below.refl _ _) (by rw [← hXY]; simp [e3])
        · rw [if_pos e1, if_neg e2]
          go_simp
          exact hK _ _ (by simp) (Below.refl _ _) (by rw [← hXY]; simp [e2])
      · rw [if_neg e1]
        go_simp
        exact hK _ _ (by simp) (Below.refl _ _) (by rw [← hXY]; simp [e1])
    · simp [predsOf, Region.binds, slotV] at hp
      have hg := slot_bool (x := a.tmps[71]?) (b := true) (by simp [hp])
      refine wpOp_of rfl (by simp [Region.wanted, yielded, hg]) ?_
      go_simp
      exact hK _ _ (by simp) (Below.refl _ _) (by simp)
    · simp [predsOf, Region.binds, slotV] at hp
      refine wpOp_of rfl rfl ?_
      go_simp
      exact hK _ _ (by simp) (Below.refl _ _) (by simp)
    · simp [predsOf, Region.binds, slotV] at hp
      refine wpOp_of rfl rfl ?_
      go_simp
      exact hK _ _ (by simp) (Below.refl _ _) (by simp)
    · have s0 := hold 13 rfl
      simp [predsOf, Region.binds, slotV] at hp
      have hg := slot_bool (x := a.tmps[82]?) (b := true) (by simp [hp])
      refine wpOp_of rfl (by simp [Region.wanted, yielded, hg]) ?_
      simp at s0
      obtain ⟨q0, q1, q2⟩ := hx W h6
      go_simp
      exact hK _ _ (by simp) (Below.refl _ _) rfl
    · simp [predsOf, Region.binds, slotV] at hp
      have hg := slot_bool (x := a.tmps[82]?) (b := true) (by simp [hp])
      refine wpOp_of rfl (by simp [Region.wanted, yielded, hg]) ?_
      go_simp
      refine (bput_any kx A s rK rA W).mono ?_
      rintro e W' ⟨rfl, hB'⟩
      rw [hP]
      exact hK _ _ (by simp) hB' rfl
    · simp [predsOf, Region.binds, slotV] at hp
      have hg := slot_bool (x := a.tmps[82]?) (b := true) (by simp [hp])
      refine wpOp_of rfl (by simp [Region.wanted, yielded, hg]) ?_
      go_simp
      exact hK _ _ (by simp) (Below.refl _ _) (by simp [hP64])
    · simp [predsOf, Region.binds, slotV] at hp
      have hg := slot_bool (x := a.tmps[82]?) (b := true) (by simp [hp])
      refine wpOp_of rfl (by simp [Region.wanted, yielded, hg]) ?_
      go_simp
      exact hK _ _ (by simp) (Below.refl _ _) (by simp)
    · simp [predsOf, Region.binds, slotV] at hp
      refine wpOp_of rfl rfl ?_
      go_simp
      exact hK _ _ (by simp) (Below.refl _ _) (by simp)
    · have i0 : i = 0 := by simp at hi; omega
      subst i0
      simp [predsOf, Region.binds, slotV] at hp
      refine wpOp_of rfl rfl ?_
      go_simp
      exact hK _ _ (by simp) (Below.refl _ _) (by simp)
  case fin =>
    intro vs W hRs h6
    have hr := hRs 31 (by decide)
    simp at hr
    simp only [putAll, List.foldl_cons, List.foldl_nil, Act.put, List.setIfInBounds_toArray, List.set_cons_succ, List.set_cons_zero, hr]
    clear hRs hr hx hy hu hv
    go_wp2
    go_ret
    exact ⟨rfl, hb8.trans (h6.mono hb8.size)⟩
end Go.Proofs.Ytjgjhbgadekceaa
