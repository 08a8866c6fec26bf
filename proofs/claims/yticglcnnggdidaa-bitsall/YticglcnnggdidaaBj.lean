/-
  The law BitsAll: its walk.
-/
import Derived.Test.YticglcnnggdidaaBi
import Derived.Test.YticglcnnggdidaaBg
import Derived.RegionTactic
import Derived.ChangeAlike
import Derived.Deep.QuietTactic
import Derived.BigQuiet
import Derived.Deep.DeepCutAuto
namespace Go.Proofs.Yticglcnnggdidaa
open Go.RowKit Go.Joins

theorem In.newt (w : World) (t : TypeId) (cs : Array Value) (fr : Nat × Nat) (n c g : Nat) (hg : g = w.heap.size) (zs : List Int) (hc : cs.toList = zs.map iv) (hn : zs.length = n) (hb : ∀ z ∈ zs, -9223372036854775808 ≤ z ∧ z ≤ 9223372036854775807) (hm : n ≤ 65536) : In (w.alloc (.cells cs t fr)) (.slice (some ⟨g, 0, none⟩) n c) zs := by
  subst hn
  refine ⟨?_, hb, hm⟩
  rw [← hc]
  refine Sl.new w cs t fr _ c g hg ?_
  rw [← Array.length_toList, hc, List.length_map]
theorem In.cell {w : World} {g n c : Nat} {zs : List Int} (h : In w (.slice (some ⟨g, 0, none⟩) n c) zs) {j : Nat} {m : Int} (hj : zs[j]? = some m) : w.cell? ⟨g, j, none⟩ = some (.int .i64 m) := by
  obtain ⟨A', c', hv, _, hA⟩ := h.1
  injection hv with e1 e2 e3
  have hlt : j < zs.length := (List.getElem?_eq_some_iff.1 hj).1
  obtain ⟨b, o, hA1, _, hc⟩ := hA (by omega)
  rw [← e1] at hA1
  injection hA1 with hA1
  injection hA1 with h1 h2
  subst h1 h2
  have := hc j (by omega)
  rw [Nat.zero_add, List.getElem?_map, hj] at this
  exact this

set_option maxHeartbeats 4000000 in
theorem all_big (l0 l1 l2 n : Int) (k : Nat) (s : ByteArray) (A B : Option Addr) (nb cb nf cf : Nat) (w : World) (hbig : 300 < s.size ∨ 20 < nb ∨ 5 < nf) :
    Calls Try.prog 3 #[.agg #[.int .i64 l0, .int .i64 l1, .int .i64 l2], .int .i64 n, .int .u8 (k : Int), .string s, .slice A nb cb, .slice B nf cf] w fun e w' => e = .returned (.bool true) ∧ Below w.heap.size w w' := by
  have hb0 := (Below.refl w.heap.size w).alloc (Nat.le_refl _) (.cells #[.int .i64 l0, .int .i64 l1, .int .i64 l2] 22)
  by_cases h0 : (300 : Int) < (s.size : Int)
  · go_enter Try.func3, Try.ntmps3
    go_wp2_with fail
    refine (begun_any _).mono ?_
    rintro e w1 ⟨rfl, hb1⟩
    go_wp2
    go_ret
    exact ⟨rfl, hb0.trans (hb1.mono (by simp))⟩
  by_cases h1 : (20 : Int) < (nb : Int)
  · go_enter Try.func3, Try.ntmps3
    go_wp2_with fail
    refine (begun_any _).mono ?_
    rintro e w1 ⟨rfl, hb1⟩
    go_wp2
    go_ret
    exact ⟨rfl, hb0.trans (hb1.mono (by simp))⟩
  have h2 : (5 : Int) < (nf : Int) := by omega
  go_enter Try.func3, Try.ntmps3
  go_wp2_with fail
  refine (begun_any _).mono ?_
  rintro e w1 ⟨rfl, hb1⟩
  go_wp2
  go_ret
  exact ⟨rfl, hb0.trans (hb1.mono (by simp))⟩

set_option maxRecDepth 100000 in
set_option maxHeartbeats 8000000 in
theorem all_any (l0 l1 l2 n : Int) (k : Nat) (s : ByteArray) (A B : Option Addr) (nb cb nf cf : Nat) (tb tf : List Nat) (w : World)
    (r0 : -9223372036854775808 ≤ l0 ∧ l0 ≤ 9223372036854775807) (r1 : -9223372036854775808 ≤ l1 ∧ l1 ≤ 9223372036854775807) (r2 : -9223372036854775808 ≤ l2 ∧ l2 ≤ 9223372036854775807)
    (rn : -9223372036854775808 ≤ n ∧ n ≤ 9223372036854775807) (hk : k < 256) (hs : s.size ≤ 300) (xb : Tx w (.slice A nb cb) tb) (xf : Tx w (.slice B nf cf) tf) (eb : tb.length = nb) (ef : tf.length = nf) (hcb : nb ≤ cb) (h20 : nb ≤ 20) (h5 : nf ≤ 5) :
    Calls Try.prog 3 #[.agg #[.int .i64 l0, .int .i64 l1, .int .i64 l2], .int .i64 n, .int .u8 (k : Int), .string s, .slice A nb cb, .slice B nf cf] w fun e w' => e = .returned (.bool true) ∧ Below w.heap.size w w' := by
  have g0 : ¬ (300 : Int) < (s.size : Int) := by omega
  have g1 : ¬ (20 : Int) < (nb : Int) := by omega
  have g2 : ¬ (5 : Int) < (nf : Int) := by omega
  have hb0 := (Below.refl w.heap.size w).alloc (Nat.le_refl _) (.cells #[.int .i64 l0, .int .i64 l1, .int .i64 l2] 22)
  have xl0 := In.newt w 22 #[.int .i64 l0, .int .i64 l1, .int .i64 l2] (0, 0) 3 3 w.heap.size rfl [l0, l1, l2] rfl rfl (by simp; omega) (by decide)
  go_enter Try.func3, Try.ntmps3
  go_wp2_with fail
  refine (begun_any _).mono ?_
  rintro e w1 ⟨rfl, hb1⟩
  have hb0w := al w (.cells #[.int .i64 l0, .int .i64 l1, .int .i64 l2] 22)
  have hbw1 := hb0.trans (hb1.mono (by simp))
  have xl1 := xl0.below hb1
  have z1 := hbw1.size
  have xn2 := In.newt w1 3 #[.int .i64 n, .int .i64 ((k : Int) % 6), .int .i64 4] (0, 0) 3 3 w1.heap.size rfl [n, ((k : Int) % 6), 4] rfl rfl (by simp; omega) (by decide)
  have xl2 := xl1.below (al w1 (.cells #[.int .i64 n, .int .i64 ((k : Int) % 6), .int .i64 4] 3))
  have hbw2 := hbw1.alloc z1 (.cells #[.int .i64 n, .int .i64 ((k : Int) % 6), .int .i64 4] 3)
  replace xf := (xf.below hb0w).below hb1
  replace xb := (xb.below hb0w).below hb1
  replace xf := xf.below (al w1 (.cells #[.int .i64 n, .int .i64 ((k : Int) % 6), .int .i64 4] 3))
  replace xb := xb.below (al w1 (.cells #[.int .i64 n, .int .i64 ((k : Int) % 6), .int .i64 4] 3))
  clear xl0 xl1 hb0 hb0w hb1 hbw1
  go_wp2
  generalize hw2 : w1.alloc (.cells #[.int .i64 n, .int .i64 ((k : Int) % 6), .int .i64 4] 3) = w2 at xn2 xl2 hbw2 xf xb ⊢
  clear hw2
  have ls3 : [l0, l1, l2].length = 3 := rfl
  generalize [l0, l1, l2] = ls at xl2 ls3
  have ns3 : [n, (k : Int) % 6, 4].length = 3 := rfl
  generalize [n, (k : Int) % 6, 4] = ns at xn2 ns3
  have lf : tf.length ≤ 65536 := by omega
  have HXF := Lib.hid xf
  have HXB := Lib.hid xb
  have HXL := Lib.hid xl2
  have HXN := Lib.hid xn2
  have HEF := Lib.hid ef
  clear xf xb xl2 xn2 ef eb
  have z2 := hbw2.size
  go_loopw [14] (fun ii wr => ∃ j : Nat, j ≤ 3 ∧ ii = .int .i64 (j : Int) ∧ Below w2.heap.size w2 wr) (fun i _ => 3 - (intOf i).toNat)
  case atStart => exact ⟨0, by omega, rfl, Below.refl _ _⟩
  case round =>
    obtain ⟨j, hj, rfl, hBj⟩ := hrel
    by_cases hlt : j < 3
    · obtain ⟨m, hm⟩ : ∃ m, ns[j]? = some m := ⟨_, List.getElem?_eq_getElem (by omega)⟩
      have hcell : ∀ W, Below w2.heap.size w2 W → W.cell? ⟨w1.heap.size, j, none⟩ = some (.int .i64 m) := fun W h => (HXN.out.below h).cell hm
      have HM := Lib.hid hm
      clear hm
      have hc := hcell wr hBj
      have HC := Lib.hid hcell
      clear hcell
      obtain ⟨x, hx⟩ : ∃ x, PlainBits.takeN tb m = x := ⟨_, rfl⟩
      obtain ⟨q, hq⟩ : ∃ q, PlainBits.can tb.length m = q := ⟨_, rfl⟩
      have HQ := Lib.hid hq
      have HX := Lib.hid hx
      clear hq hx
      go_wp2_with fail
      refine (take_any _ tb m wr (HXB.out.below hBj)).mono ?_
      rintro e wr1 ⟨rfl, rfl⟩
      rw [HX.out, HQ.out]
      go_wp2_with fail
      refine (rtake_any _ tb m wr (HXB.out.below hBj)).mono ?_
      rintro e wr1 ⟨rfl, rfl⟩
      rw [HX.out, HQ.out]
      clear hc
      go_upto_region 11 with fail
      have hcell := HC.out
      have xf := HXF.out
      have xl := HXL.out
      refine wp_region_grow Try.checked.mixed (by kernel_rfl) (fun W => Below w2.heap.size w2 W)
        (fun i v W => match i with
          | 0 => v = .slice B nf cf
          | 1 => v = .slice (some ⟨w1.heap.size, 0, none⟩) 3 3
          | 2 => v = .int .i64 (j : Int)
          | 3 => v = .pointer (some ⟨w1.heap.size, j, none⟩)
          | 4 => v = .int .i64 m
          | 5 => v = .slice (some ⟨w.heap.size, 0, none⟩) 3 3
          | 6 => Tx W v (PlainBits.putS tf m ls)
          | 7 => v = .string (str (PlainBits.putS tf m ls))
          | 8 => v = .slice B nf cf
          | 9 => v = .slice (some ⟨w1.heap.size, 0, none⟩) 3 3
          | 10 => v = .int .i64 (j : Int)
          | 11 => v = .pointer (some ⟨w1.heap.size, j, none⟩)
          | 12 => v = .int .i64 m
          | 13 => v = .slice (some ⟨w.heap.size, 0, none⟩) 3 3
          | 14 => Tx W v (PlainBits.putS tf m ls)
          | 15 => v = .string (str (PlainBits.putS tf m ls))
          | 16 => v = .bool false
          | 17 => v = .bool false
          | 18 => v = .slice B nf cf
          | 19 => v = .slice (some ⟨w1.heap.size, 0, none⟩) 3 3
          | 20 => v = .int .i64 (j : Int)
          | 21 => v = .pointer (some ⟨w1.heap.size, j, none⟩)
          | 22 => v = .int .i64 m
          | 23 => Tx W v (PlainBits.putS tf m [])
          | 24 => v = .string (str (PlainBits.putS tf m []))
          | 25 => v = .slice B nf cf
          | 26 => v = .string (str tf)
          | 27 => v = .bool false
          | 28 => v = .bool false
          | 29 => v = .bool false
          | 30 => v = .int .i64 (x : Int)
          | 31 => v = .int .i64 (x : Int)
          | 32 => v = .bool false
          | 33 => v = .bool false
          | 34 => v = .bool false
          | 35 => v = .bool q
          | 36 => v = .bool q
          | 37 => v = .bool false
          | _ => v = .bool false) ?hS ?hR ?start ?each ?fin
      case hS =>
        intro W W' h hb
        exact h.trans (hb.mono h.size)
      case hR =>
        intro j v W W' h hb
        rcases j with _ | _ | _ | _ | _ | _ | _ | _ | _ | _ | _ | _ | _ | _ | _ | _ | _ | _ | _ | _ | _ | _ | _ | _ | _ | _ | _ | _ | _ | _ | _ | _ | _ | _ | _ | _ | _ | _ | j <;> first | exact h | exact Tx.below h hb
      case start => exact hBj.drew
      case each =>
        intro i hi a W hold hp h6 K hK
        rcases i with _ | _ | _ | _ | _ | _ | _ | _ | _ | _ | _ | _ | _ | _ | _ | _ | _ | _ | _ | _ | _ | _ | _ | _ | _ | _ | _ | _ | _ | _ | _ | _ | _ | _ | _ | _ | _ | _ | i
        · have s := hold 5 rfl
          simp [predsOf, Region.binds, slotV] at hp
          refine wpOp_of rfl rfl ?_
          simp at s
          go_simp
          exact hK _ _ (by simp) (Below.refl _ _) rfl
        · have s := hold 13 rfl
          simp [predsOf, Region.binds, slotV] at hp
          refine wpOp_of rfl rfl ?_
          simp at s
          go_simp
          exact hK _ _ (by simp) (Below.refl _ _) rfl
        · have s := hold 14 rfl
          simp [predsOf, Region.binds, slotV] at hp
          refine wpOp_of rfl rfl ?_
          simp at s
          go_simp
          exact hK _ _ (by simp) (Below.refl _ _) rfl
        · simp [predsOf, Region.binds, slotV] at hp
          refine wpOp_of rfl rfl ?_
          go_simp
          exact hK _ _ (by simp) (Below.refl _ _) rfl
        · simp [predsOf, Region.binds, slotV] at hp
          refine wpOp_of rfl rfl ?_
          have hc := hcell W h6
          go_simp
          exact hK _ _ (by simp) (Below.refl _ _) rfl
        · have s := hold 6 rfl
          simp [predsOf, Region.binds, slotV] at hp
          refine wpOp_of rfl rfl ?_
          simp at s
          go_simp
          exact hK _ _ (by simp) (Below.refl _ _) rfl
        · simp [predsOf, Region.binds, slotV] at hp
          refine wpOp_of rfl rfl ?_
          go_simp
          refine (put_any _ _ tf ls m W (xf.below h6) (xl.below h6) lf).mono ?_
          rintro e W' ⟨v', rfl, hO, hB⟩
          exact hK _ _ (by simp) hB (hO.text (by have := PlainBits.putS_length_le tf m ls; simp only [ls3] at this; omega))
        · simp [predsOf, Region.binds, slotV] at hp
          refine wpOp_of rfl rfl ?_
          have hs := hp.string
          go_simp
          exact hK _ _ (by simp) (Below.refl _ _) rfl
        · have s := hold 5 rfl
          simp [predsOf, Region.binds, slotV] at hp
          refine wpOp_of rfl rfl ?_
          simp at s
          go_simp
          exact hK _ _ (by simp) (Below.refl _ _) rfl
        · have s := hold 13 rfl
          simp [predsOf, Region.binds, slotV] at hp
          refine wpOp_of rfl rfl ?_
          simp at s
          go_simp
          exact hK _ _ (by simp) (Below.refl _ _) rfl
        · have s := hold 14 rfl
          simp [predsOf, Region.binds, slotV] at hp
          refine wpOp_of rfl rfl ?_
          simp at s
          go_simp
          exact hK _ _ (by simp) (Below.refl _ _) rfl
        · simp [predsOf, Region.binds, slotV] at hp
          refine wpOp_of rfl rfl ?_
          go_simp
          exact hK _ _ (by simp) (Below.refl _ _) rfl
        · simp [predsOf, Region.binds, slotV] at hp
          refine wpOp_of rfl rfl ?_
          have hc := hcell W h6
          go_simp
          exact hK _ _ (by simp) (Below.refl _ _) rfl
        · have s := hold 6 rfl
          simp [predsOf, Region.binds, slotV] at hp
          refine wpOp_of rfl rfl ?_
          simp at s
          go_simp
          exact hK _ _ (by simp) (Below.refl _ _) rfl
        · simp [predsOf, Region.binds, slotV] at hp
          refine wpOp_of rfl rfl ?_
          go_simp
          refine (rput_any _ _ tf ls m W (xf.below h6) (xl.below h6) lf).mono ?_
          rintro e W' ⟨v', rfl, hO, hB⟩
          exact hK _ _ (by simp) hB (hO.text (by have := PlainBits.putS_length_le tf m ls; simp only [ls3] at this; omega))
        · simp [predsOf, Region.binds, slotV] at hp
          refine wpOp_of rfl rfl ?_
          have hs := hp.string
          go_simp
          exact hK _ _ (by simp) (Below.refl _ _) rfl
        · simp [predsOf, Region.binds, slotV] at hp
          refine wpOp_of rfl rfl ?_
          go_simp
          exact hK _ _ (by simp) (Below.refl _ _) (by simp)
        · simp [predsOf, Region.binds, slotV] at hp
          refine wpOp_of rfl rfl ?_
          go_simp
          exact hK _ _ (by simp) (Below.refl _ _) (by simp)
        · have s := hold 5 rfl
          simp [predsOf, Region.binds, slotV] at hp
          have hg := slot_bool (x := a.tmps[84]?) (b := false) (by simp [hp])
          refine wpOp_of rfl (by simp [Region.wanted, yielded, hg]) ?_
          simp at s
          go_simp
          exact hK _ _ (by simp) (Below.refl _ _) rfl
        · have s := hold 13 rfl
          simp [predsOf, Region.binds, slotV] at hp
          have hg := slot_bool (x := a.tmps[84]?) (b := false) (by simp [hp])
          refine wpOp_of rfl (by simp [Region.wanted, yielded, hg]) ?_
          simp at s
          go_simp
          exact hK _ _ (by simp) (Below.refl _ _) rfl
        · have s := hold 14 rfl
          simp [predsOf, Region.binds, slotV] at hp
          have hg := slot_bool (x := a.tmps[84]?) (b := false) (by simp [hp])
          refine wpOp_of rfl (by simp [Region.wanted, yielded, hg]) ?_
          simp at s
          go_simp
          exact hK _ _ (by simp) (Below.refl _ _) rfl
        · simp [predsOf, Region.binds, slotV] at hp
          have hg := slot_bool (x := a.tmps[84]?) (b := false) (by simp [hp])
          refine wpOp_of rfl (by simp [Region.wanted, yielded, hg]) ?_
          go_simp
          exact hK _ _ (by simp) (Below.refl _ _) rfl
        · simp [predsOf, Region.binds, slotV] at hp
          have hg := slot_bool (x := a.tmps[84]?) (b := false) (by simp [hp])
          refine wpOp_of rfl (by simp [Region.wanted, yielded, hg]) ?_
          have hc := hcell W h6
          go_simp
          exact hK _ _ (by simp) (Below.refl _ _) rfl
        · simp [predsOf, Region.binds, slotV] at hp
          have hg := slot_bool (x := a.tmps[84]?) (b := false) (by simp [hp])
          refine wpOp_of rfl (by simp [Region.wanted, yielded, hg]) ?_
          go_simp
          refine (put_any _ _ tf [] m W (xf.below h6) (In.nil _) lf).mono ?_
          rintro e W' ⟨v', rfl, hO, hB⟩
          exact hK _ _ (by simp) hB (hO.text (by have := PlainBits.putS_length_le tf m []; simp only [List.length_nil] at this; omega))
        · simp [predsOf, Region.binds, slotV] at hp
          have hg := slot_bool (x := a.tmps[84]?) (b := false) (by simp [hp])
          refine wpOp_of rfl (by simp [Region.wanted, yielded, hg]) ?_
          have hs := hp.1.string
          go_simp
          exact hK _ _ (by simp) (Below.refl _ _) rfl
        · have s := hold 5 rfl
          simp [predsOf, Region.binds, slotV] at hp
          have hg := slot_bool (x := a.tmps[84]?) (b := false) (by simp [hp])
          refine wpOp_of rfl (by simp [Region.wanted, yielded, hg]) ?_
          simp at s
          go_simp
          exact hK _ _ (by simp) (Below.refl _ _) rfl
        · simp [predsOf, Region.binds, slotV] at hp
          have hg := slot_bool (x := a.tmps[84]?) (b := false) (by simp [hp])
          refine wpOp_of rfl (by simp [Region.wanted, yielded, hg]) ?_
          have hs := (xf.below h6).string
          go_simp
          exact hK _ _ (by simp) (Below.refl _ _) rfl
        · simp [predsOf, Region.binds, slotV] at hp
          have hg := slot_bool (x := a.tmps[84]?) (b := false) (by simp [hp])
          refine wpOp_of rfl (by simp [Region.wanted, yielded, hg]) ?_
          go_simp
          exact hK _ _ (by simp) (Below.refl _ _) (by simp [PlainBits.putS_none])
        · simp [predsOf, Region.binds, slotV] at hp
          refine wpOp_of rfl rfl ?_
          go_simp
          exact hK _ _ (by simp) (Below.refl _ _) (by simp)
        · simp [predsOf, Region.binds, slotV] at hp
          refine wpOp_of rfl rfl ?_
          go_simp
          exact hK _ _ (by simp) (Below.refl _ _) (by simp)
        · have s := hold 15 rfl
          simp [predsOf, Region.binds, slotV] at hp
          have hg := slot_bool (x := a.tmps[96]?) (b := false) (by simp [hp])
          refine wpOp_of rfl (by simp [Region.wanted, yielded, hg]) ?_
          simp at s
          go_simp
          exact hK _ _ (by simp) (Below.refl _ _) rfl
        · have s := hold 17 rfl
          simp [predsOf, Region.binds, slotV] at hp
          have hg := slot_bool (x := a.tmps[96]?) (b := false) (by simp [hp])
          refine wpOp_of rfl (by simp [Region.wanted, yielded, hg]) ?_
          simp at s
          go_simp
          exact hK _ _ (by simp) (Below.refl _ _) rfl
        · simp [predsOf, Region.binds, slotV] at hp
          have hg := slot_bool (x := a.tmps[96]?) (b := false) (by simp [hp])
          refine wpOp_of rfl (by simp [Region.wanted, yielded, hg]) ?_
          go_simp
          exact hK _ _ (by simp) (Below.refl _ _) (by simp)
        · simp [predsOf, Region.binds, slotV] at hp
          refine wpOp_of rfl rfl ?_
          go_simp
          exact hK _ _ (by simp) (Below.refl _ _) (by simp)
        · simp [predsOf, Region.binds, slotV] at hp
          refine wpOp_of rfl rfl ?_
          go_simp
          exact hK _ _ (by simp) (Below.refl _ _) (by simp)
        · have s := hold 16 rfl
          simp [predsOf, Region.binds, slotV] at hp
          have hg := slot_bool (x := a.tmps[101]?) (b := false) (by simp [hp])
          refine wpOp_of rfl (by simp [Region.wanted, yielded, hg]) ?_
          simp at s
          go_simp
          exact hK _ _ (by simp) (Below.refl _ _) rfl
        · have s := hold 18 rfl
          simp [predsOf, Region.binds, slotV] at hp
          have hg := slot_bool (x := a.tmps[101]?) (b := false) (by simp [hp])
          refine wpOp_of rfl (by simp [Region.wanted, yielded, hg]) ?_
          simp at s
          go_simp
          exact hK _ _ (by simp) (Below.refl _ _) rfl
        · simp [predsOf, Region.binds, slotV] at hp
          have hg := slot_bool (x := a.tmps[101]?) (b := false) (by simp [hp])
          refine wpOp_of rfl (by simp [Region.wanted, yielded, hg]) ?_
          go_simp
          exact hK _ _ (by simp) (Below.refl _ _) (by simp)
        · have i0 : i = 0 := by simp at hi; omega
          subst i0
          simp [predsOf, Region.binds, slotV] at hp
          refine wpOp_of rfl rfl ?_
          go_simp
          exact hK _ _ (by simp) (Below.refl _ _) (by simp)
      case fin =>
        intro vs W hRs h6
        have hr := hRs 38 (by decide)
        simp at hr
        simp only [putAll, List.foldl_cons, List.foldl_nil, Act.put, List.setIfInBounds_toArray, List.set_cons_succ, List.set_cons_zero, hr]
        clear hRs hr hcell xf xl
        go_wp2
        go_roundw
        case rel => exact ⟨j + 1, by omega, by go_num, h6⟩
        case measure => simp [intOf]; omega
    · have hj3 : j = 3 := by omega
      subst hj3
      have hcpb : Cp (.slice A nb cb) := ⟨_, _, _, rfl, hcb⟩
      obtain ⟨p, hp⟩ : ∃ p, str (PlainBits.takeT tb) = p := ⟨_, rfl⟩
      obtain ⟨x, hx⟩ : ∃ x, PlainBits.takeL tb = x := ⟨_, rfl⟩
      obtain ⟨q, hq⟩ : ∃ q, PlainBits.hasT tb = q := ⟨_, rfl⟩
      have HQ := Lib.hid hq
      have HX := Lib.hid hx
      have HP := Lib.hid hp
      clear hq hx hp
      go_wp2_with fail
      refine (takeText_any _ tb wr (HXB.out.below hBj) hcpb).mono ?_
      rintro e wr1 ⟨rfl, rfl⟩
      rw [HX.out, HQ.out, HP.out]
      go_wp2_with fail
      refine (rtakeText_any _ tb wr (HXB.out.below hBj) hcpb).mono ?_
      rintro e wr1 ⟨rfl, rfl⟩
      rw [HX.out, HQ.out, HP.out]
      go_upto_region 15 with fail
      have xf := HXF.out
      have lts : (PlainBits.textS tf (nums s)).length ≤ 1048576 := by
        have := HEF.out
        unfold PlainBits.textS
        split
        · simp [nums_length]; omega
        · omega
      refine wp_region_grow Try.checked.mixed (by kernel_rfl) (fun W => Below w2.heap.size w2 W)
        (fun i v W => match i with
          | 0 => v = .slice B nf cf
          | 1 => v = .string s
          | 2 => Tx W v (PlainBits.textS tf (nums s))
          | 3 => v = .string (str (PlainBits.textS tf (nums s)))
          | 4 => v = .slice B nf cf
          | 5 => v = .string s
          | 6 => Tx W v (PlainBits.textS tf (nums s))
          | 7 => v = .string (str (PlainBits.textS tf (nums s)))
          | 8 => v = .bool true
          | 9 => v = .bool true
          | 10 => v = .string p
          | 11 => v = .string p
          | 12 => v = .bool true
          | 13 => v = .bool true
          | 14 => v = .bool true
          | 15 => v = .int .i64 (x : Int)
          | 16 => v = .int .i64 (x : Int)
          | 17 => v = .bool true
          | 18 => v = .bool true
          | 19 => v = .bool true
          | 20 => v = .bool q
          | 21 => v = .bool q
          | 22 => v = .bool true
          | 23 => v = .bool true
          | _ => v = .bool true) ?hS ?hR ?start ?each ?fin
      case hS =>
        intro W W' h hb
        exact h.trans (hb.mono h.size)
      case hR =>
        intro j v W W' h hb
        rcases j with _ | _ | _ | _ | _ | _ | _ | _ | _ | _ | _ | _ | _ | _ | _ | _ | _ | _ | _ | _ | _ | _ | _ | _ | j <;> first | exact h | exact Tx.below h hb
      case start => exact hBj.drew
      case each =>
        intro i hi a W hold hp h6 K hK
        rcases i with _ | _ | _ | _ | _ | _ | _ | _ | _ | _ | _ | _ | _ | _ | _ | _ | _ | _ | _ | _ | _ | _ | _ | _ | i
        · have s := hold 5 rfl
          simp [predsOf, Region.binds, slotV] at hp
          refine wpOp_of rfl rfl ?_
          simp at s
          go_simp
          exact hK _ _ (by simp) (Below.refl _ _) rfl
        · have s := hold 3 rfl
          simp [predsOf, Region.binds, slotV] at hp
          refine wpOp_of rfl rfl ?_
          simp at s
          go_simp
          exact hK _ _ (by simp) (Below.refl _ _) rfl
        · simp [predsOf, Region.binds, slotV] at hp
          refine wpOp_of rfl rfl ?_
          go_simp
          refine (text_any _ tf s W (xf.below h6) lf).mono ?_
          rintro e W' ⟨v', rfl, hO, hB⟩
          exact hK _ _ (by simp) hB (hO.text lts)
        · simp [predsOf, Region.binds, slotV] at hp
          refine wpOp_of rfl rfl ?_
          have hs := hp.string
          go_simp
          exact hK _ _ (by simp) (Below.refl _ _) rfl
        · have s := hold 5 rfl
          simp [predsOf, Region.binds, slotV] at hp
          refine wpOp_of rfl rfl ?_
          simp at s
          go_simp
          exact hK _ _ (by simp) (Below.refl _ _) rfl
        · have s := hold 3 rfl
          simp [predsOf, Region.binds, slotV] at hp
          refine wpOp_of rfl rfl ?_
          simp at s
          go_simp
          exact hK _ _ (by simp) (Below.refl _ _) rfl
        · simp [predsOf, Region.binds, slotV] at hp
          refine wpOp_of rfl rfl ?_
          go_simp
          refine (rtext_any _ tf s W (xf.below h6) lf).mono ?_
          rintro e W' ⟨v', rfl, hO, hB⟩
          exact hK _ _ (by simp) hB (hO.text lts)
        · simp [predsOf, Region.binds, slotV] at hp
          refine wpOp_of rfl rfl ?_
          have hs := hp.string
          go_simp
          exact hK _ _ (by simp) (Below.refl _ _) rfl
        · simp [predsOf, Region.binds, slotV] at hp
          refine wpOp_of rfl rfl ?_
          go_simp
          exact hK _ _ (by simp) (Below.refl _ _) (by simp)
        · simp [predsOf, Region.binds, slotV] at hp
          refine wpOp_of rfl rfl ?_
          go_simp
          exact hK _ _ (by simp) (Below.refl _ _) (by simp)
        · have s := hold 19 rfl
          simp [predsOf, Region.binds, slotV] at hp
          have hg := slot_bool (x := a.tmps[127]?) (b := true) (by simp [hp])
          refine wpOp_of rfl (by simp [Region.wanted, yielded, hg]) ?_
          simp at s
          go_simp
          exact hK _ _ (by simp) (Below.refl _ _) rfl
        · have s := hold 22 rfl
          simp [predsOf, Region.binds, slotV] at hp
          have hg := slot_bool (x := a.tmps[127]?) (b := true) (by simp [hp])
          refine wpOp_of rfl (by simp [Region.wanted, yielded, hg]) ?_
          simp at s
          go_simp
          exact hK _ _ (by simp) (Below.refl _ _) rfl
        · simp [predsOf, Region.binds, slotV] at hp
          have hg := slot_bool (x := a.tmps[127]?) (b := true) (by simp [hp])
          refine wpOp_of rfl (by simp [Region.wanted, yielded, hg]) ?_
          go_simp
          exact hK _ _ (by simp) (Below.refl _ _) (by simp)
        · simp [predsOf, Region.binds, slotV] at hp
          refine wpOp_of rfl rfl ?_
          go_simp
          exact hK _ _ (by simp) (Below.refl _ _) (by simp)
        · simp [predsOf, Region.binds, slotV] at hp
          refine wpOp_of rfl rfl ?_
          go_simp
          exact hK _ _ (by simp) (Below.refl _ _) (by simp)
        · have s := hold 20 rfl
          simp [predsOf, Region.binds, slotV] at hp
          have hg := slot_bool (x := a.tmps[132]?) (b := true) (by simp [hp])
          refine wpOp_of rfl (by simp [Region.wanted, yielded, hg]) ?_
          simp at s
          go_simp
          exact hK _ _ (by simp) (Below.refl _ _) rfl
        · have s := hold 23 rfl
          simp [predsOf, Region.binds, slotV] at hp
          have hg := slot_bool (x := a.tmps[132]?) (b := true) (by simp [hp])
          refine wpOp_of rfl (by simp [Region.wanted, yielded, hg]) ?_
          simp at s
          go_simp
          exact hK _ _ (by simp) (Below.refl _ _) rfl
        · simp [predsOf, Region.binds, slotV] at hp
          have hg := slot_bool (x := a.tmps[132]?) (b := true) (by simp [hp])
          refine wpOp_of rfl (by simp [Region.wanted, yielded, hg]) ?_
          go_simp
          exact hK _ _ (by simp) (Below.refl _ _) (by simp)
        · simp [predsOf, Region.binds, slotV] at hp
          refine wpOp_of rfl rfl ?_
          go_simp
          exact hK _ _ (by simp) (Below.refl _ _) (by simp)
        · simp [predsOf, Region.binds, slotV] at hp
          refine wpOp_of rfl rfl ?_
          go_simp
          exact hK _ _ (by simp) (Below.refl _ _) (by simp)
        · have s := hold 21 rfl
          simp [predsOf, Region.binds, slotV] at hp
          have hg := slot_bool (x := a.tmps[137]?) (b := true) (by simp [hp])
          refine wpOp_of rfl (by simp [Region.wanted, yielded, hg]) ?_
          simp at s
          go_simp
          exact hK _ _ (by simp) (Below.refl _ _) rfl
        · have s := hold 24 rfl
          simp [predsOf, Region.binds, slotV] at hp
          have hg := slot_bool (x := a.tmps[137]?) (b := true) (by simp [hp])
          refine wpOp_of rfl (by simp [Region.wanted, yielded, hg]) ?_
          simp at s
          go_simp
          exact hK _ _ (by simp) (Below.refl _ _) rfl
        · simp [predsOf, Region.binds, slotV] at hp
          have hg := slot_bool (x := a.tmps[137]?) (b := true) (by simp [hp])
          refine wpOp_of rfl (by simp [Region.wanted, yielded, hg]) ?_
          go_simp
          exact hK _ _ (by simp) (Below.refl _ _) (by simp)
        · simp [predsOf, Region.binds, slotV] at hp
          refine wpOp_of rfl rfl ?_
          go_simp
          exact hK _ _ (by simp) (Below.refl _ _) (by simp)
        · have i0 : i = 0 := by simp at hi; omega
          subst i0
          simp [predsOf, Region.binds, slotV] at hp
          refine wpOp_of rfl rfl ?_
          go_simp
          exact hK _ _ (by simp) (Below.refl _ _) (by simp)
      case fin =>
        intro vs W hRs h6
        have hr := hRs 24 (by decide)
        simp at hr
        simp only [putAll, List.foldl_cons, List.foldl_nil, Act.put, List.setIfInBounds_toArray, List.set_cons_succ, List.set_cons_zero, hr]
        clear hRs hr xf
        go_wp2
        go_ret
        exact ⟨rfl, hbw2.trans (h6.mono z2)⟩
end Go.Proofs.Yticglcnnggdidaa
