/-
  The law CrcPieces: its walk.
-/
import Derived.Test.YtoablohigdkbkaaDoorCh
import Derived.Test.YtoablohigdkbkaaDoorRg
import Derived.RegionTactic
import Derived.ChangeAlike
import Derived.Deep.QuietTactic
import Derived.BigQuiet
import Derived.Deep.DeepCutAuto
namespace Go.Proofs.YtoablohigdkbkaaDoor
open Go.RowKit Go.Joins

/-- A piece of a text. -/
theorem Tx.piece {w : World} {A : Option Addr} {n c l h : Nat} {bs : List Nat} (x : Tx w (.slice A n c) bs) (l0 : bs.length = n) (hlh : l ≤ h) (hh : h ≤ n) (hnc : n ≤ c) : Tx w (sliced A l h c 1) ((bs.drop l).take (h - l)) := by
  obtain ⟨⟨A', c', hv, hl, hA⟩, hb, hm⟩ := x
  injection hv with e1 e2 e3
  subst e1 e3
  have hlen : ((bs.drop l).take (h - l)).length = h - l := by simp; omega
  refine ⟨⟨if c = l then A else A.map (·.add (l * 1)), c - l, by rw [hlen]; rfl, by simp, fun hn => ?_⟩, fun b hb' => hb b (List.mem_of_mem_drop (List.mem_of_mem_take hb')), by rw [hlen]; omega⟩
  rw [hlen] at hn
  obtain ⟨b, o, rfl, hbs, hc⟩ := hA (by omega)
  refine ⟨b, o + l, ?_, hbs, fun j hj => ?_⟩
  · rw [if_neg (by omega)]
    simp [Addr.add_lit]
  · rw [hlen] at hj
    have := hc (l + j) (by omega)
    rw [← Nat.add_assoc] at this
    rw [this]
    have h1 : j < h - l := by omega
    simp [h1]

theorem sub_h {A : Option Addr} {n c p : Nat} {bs : List Nat} (l0 : bs.length = n) (hp : p ≤ n) (hnc : n ≤ c) : ∃ u, (∀ W, (Instr.slice 22 (.slice A n c) none (some (.int .i64 (p : Int))) none).run Tryd.prog W = .ok u W) ∧ ∀ W, Tx W (.slice A n c) bs → Tx W u (bs.take p) := by
  refine ⟨sliced A 0 p c 1, fun W => ?_, fun W h => by simpa using h.piece l0 (Nat.zero_le p) hp hnc⟩
  rw [run_slice_h W 22 A n c (by kernel_rfl) .i64 (p : Int) (by omega) (by omega)]
  kernel_rfl
theorem sub_lh {A : Option Addr} {n c p q : Nat} {bs : List Nat} (l0 : bs.length = n) (hpq : p ≤ q) (hq : q ≤ n) (hnc : n ≤ c) : ∃ u, (∀ W, (Instr.slice 22 (.slice A n c) (some (.int .i64 (p : Int))) (some (.int .i64 (q : Int))) none).run Tryd.prog W = .ok u W) ∧ ∀ W, Tx W (.slice A n c) bs → Tx W u ((bs.drop p).take (q - p)) := by
  refine ⟨sliced A p q c 1, fun W => ?_, fun W h => h.piece l0 hpq hq hnc⟩
  rw [run_slice_lh W 22 A n c (by kernel_rfl) .i64 .i64 (p : Int) (q : Int) (by omega) (by omega) (by omega)]
  kernel_rfl
theorem sub_l {A : Option Addr} {n c p : Nat} {bs : List Nat} (l0 : bs.length = n) (hp : p ≤ n) (hnc : n ≤ c) : ∃ u, (∀ W, (Instr.slice 22 (.slice A n c) (some (.int .i64 (p : Int))) none none).run Tryd.prog W = .ok u W) ∧ ∀ W, Tx W (.slice A n c) bs → Tx W u (bs.drop p) := by
  refine ⟨sliced A p n c 1, fun W => ?_, fun W h => by
    have := h.piece l0 hp (Nat.le_refl n) hnc
    rwa [List.take_of_length_le (by simp; omega)] at this⟩
  rw [run_slice_l W 22 A n c (by kernel_rfl) .i64 (p : Int) (by omega) (by omega)]
  kernel_rfl

theorem Tx.form {w : World} {v : Value} {bs : List Nat} (h : Tx w v bs) : ∃ A m c, v = .slice A m c := by
  obtain ⟨⟨A, c, hv, _⟩, _⟩ := h
  exact ⟨A, _, c, hv⟩

theorem slot_bool {x : Option Value} {b : Bool} (h : x.getD undef = .bool b) : x = some (.bool b) := by
  cases x with
  | none => cases h
  | some v => exact congrArg some h

set_option maxHeartbeats 4000000 in
theorem pieces_out (A : Option Addr) (n c i k : Nat) (w : World) (hT : Tab w) (hout : 200 < n) :
    Calls Tryd.prog 7 #[.slice A n c, .int .u8 (i : Int), .int .u8 (k : Int)] w fun e w' => e = .returned (.bool true) ∧ Below w.heap.size w w' := by
  have h0 : (200 : Int) < (n : Int) := by omega
  go_enter Tryd.func7, Tryd.ntmps7
  go_wp2_with fail
  refine (begun_any _ hT).mono ?_
  rintro e w0 ⟨rfl, hb0⟩
  go_wp2
  go_ret
  exact ⟨rfl, hb0⟩

set_option maxHeartbeats 4000000 in
theorem pieces_any (A : Option Addr) (n c i k : Nat) (bs : List Nat) (w : World) (hT : Tab w) (x0 : Tx w (.slice A n c) bs) (l0 : bs.length = n) (hnc : n ≤ c) (hn2 : n ≤ 200) (hi : i < 256) (hk : k < 256) :
    Calls Tryd.prog 7 #[.slice A n c, .int .u8 (i : Int), .int .u8 (k : Int)] w fun e w' => e = .returned (.bool true) ∧ Below w.heap.size w w' := by
  have g0 : ¬ (200 : Int) < (n : Int) := by omega
  have g1 : ((n : Int) + 1 == 0) = false := by rw [beq_eq_false_iff_ne]; omega
  go_enter Tryd.func7, Tryd.ntmps7
  go_wp2_with fail
  refine (begun_any _ hT).mono ?_
  rintro e w1 ⟨rfl, hb1⟩
  replace hT := hT.below hb1
  replace x0 := x0.below hb1
  have z1 := hb1.size
  have ei : ((i : Int) % ((n : Int) + 1)) = ((i % (n + 1) : Nat) : Int) := by simp
  have ek : ((k : Int) % ((n : Int) + 1)) = ((k % (n + 1) : Nat) : Int) := by simp
  have li : i % (n + 1) ≤ n := Nat.le_of_lt_succ (Nat.mod_lt i (Nat.succ_pos n))
  have lk : k % (n + 1) ≤ n := Nat.le_of_lt_succ (Nat.mod_lt k (Nat.succ_pos n))
  go_upto_region 5 with fail
  go_cut [7, 8] (fun s t wx => s = .int .i64 ((i % (n + 1) : Nat) : Int) ∧ t = .int .i64 ((k % (n + 1) : Nat) : Int) ∧ wx = w1.drew)
  case first =>
    go_region
    all_goals go_wp2_with fail
    all_goals go_meet
    all_goals exact ⟨by rw [← ei], by rw [← ek], rfl⟩
  case rest =>
    obtain ⟨rfl, rfl, rfl⟩ := hcut
    generalize i % (n + 1) = x at li
    generalize k % (n + 1) = y at lk
    clear ei ek
    go_upto_region 6 with fail
    go_cut [7, 8] (fun s t wx => ∃ p q : Nat, p ≤ q ∧ q ≤ n ∧ s = .int .i64 (p : Int) ∧ t = .int .i64 (q : Int) ∧ wx = w1.drew)
    case first =>
      rcases Nat.lt_trichotomy x y with h | h | h
      · go_wp2_with fail
        go_meet
        exact ⟨x, y, by omega, lk, rfl, rfl, rfl⟩
      · subst h
        go_wp2_with fail
        all_goals go_meet
        all_goals exact ⟨x, x, by omega, lk, rfl, rfl, rfl⟩
      · go_wp2_with fail
        go_meet
        exact ⟨y, x, by omega, li, rfl, rfl, rfl⟩
    case rest =>
      obtain ⟨p, q, hpq, hqn, rfl, rfl, rfl⟩ := hcut
      obtain ⟨u1, r1, y1⟩ := sub_h (A := A) (c := c) (p := p) l0 (by omega) hnc
      obtain ⟨u2, r2, y2⟩ := sub_lh (A := A) (c := c) (p := p) (q := q) l0 hpq hqn hnc
      obtain ⟨u3, r3, y3⟩ := sub_l (A := A) (c := c) (p := q) l0 hqn hnc
      obtain ⟨u4, r4, y4⟩ := sub_l (A := A) (c := c) (p := p) l0 (by omega) hnc
      have e1 : PlainCrc.sum [bs.take p, (bs.drop p).take (q - p), bs.drop q].flatten = PlainCrc.sum bs := by
        congr 1
        simp only [List.flatten_cons, List.flatten_nil, List.append_nil]
        have : bs.drop q = (bs.drop p).drop (q - p) := by rw [List.drop_drop]; congr 1; omega
        rw [this, List.take_append_drop, List.take_append_drop]
      have e2 : PlainCrc.sum [[], bs.take p, [], bs.drop p].flatten = PlainCrc.sum bs := by
        congr 1
        simp
      go_upto_region 7 with fail
      refine wp_region_grow Tryd.checked.mixed (by kernel_rfl) (fun W => Tab W ∧ Tx W (.slice A n c) bs ∧ Below w.heap.size w W)
        (fun i v W => match i with
          | 0 => v = .slice A n c
          | 1 => v = .int .i64 (p : Int)
          | 2 => Tx W v (bs.take p)
          | 3 => v = .slice A n c
          | 4 => v = .int .i64 (p : Int)
          | 5 => v = .int .i64 (q : Int)
          | 6 => Tx W v ((bs.drop p).take (q - p))
          | 7 => v = .slice A n c
          | 8 => v = .int .i64 (q : Int)
          | 9 => Tx W v (bs.drop q)
          | 10 => Ls W v [bs.take p, (bs.drop p).take (q - p), bs.drop q]
          | 11 => v = .int .u32 ((PlainCrc.sum bs : Nat) : Int)
          | 12 => v = .slice A n c
          | 13 => Ls W v [bs]
          | 14 => v = .int .u32 ((PlainCrc.sum bs : Nat) : Int)
          | 15 => v = .bool true
          | 16 => v = .bool true
          | 17 => v = .slice A n c
          | 18 => v = .int .i64 (p : Int)
          | 19 => Tx W v (bs.take p)
          | 20 => v = .slice A n c
          | 21 => v = .int .i64 (p : Int)
          | 22 => Tx W v (bs.drop p)
          | 23 => Ls W v [[], bs.take p, [], bs.drop p]
          | 24 => v = .int .u32 ((PlainCrc.sum bs : Nat) : Int)
          | 25 => v = .slice A n c
          | 26 => Ls W v [bs]
          | 27 => v = .int .u32 ((PlainCrc.sum bs : Nat) : Int)
          | 28 => v = .bool true
          | 29 => v = .bool true
          | _ => v = .bool true) ?hS ?hR ?start ?each ?fin
      case hS =>
        rintro W W' ⟨h1, h2, h6⟩ hb
        exact ⟨h1.below hb, h2.below hb, h6.trans (hb.mono h6.size)⟩
      case hR =>
        intro j v W W' h hb
        rcases j with _ | _ | _ | _ | _ | _ | _ | _ | _ | _ | _ | _ | _ | _ | _ | _ | _ | _ | _ | _ | _ | _ | _ | _ | _ | _ | _ | _ | _ | _ | j <;> first | exact h | exact Ls.below h hb | exact Tx.below h hb
      case start => exact ⟨hT, x0, hb1.drew.drew⟩
      case each =>
        intro i hi a W hold hp ⟨h1, h2, h6⟩ K hK
        rcases i with _ | _ | _ | _ | _ | _ | _ | _ | _ | _ | _ | _ | _ | _ | _ | _ | _ | _ | _ | _ | _ | _ | _ | _ | _ | _ | _ | _ | _ | _ | i
        · have s := hold 0 rfl
          refine wpOp_of rfl rfl ?_
          simp at s
          go_simp
          exact hK _ _ (by simp) (Below.refl _ _) rfl
        · have s := hold 7 rfl
          refine wpOp_of rfl rfl ?_
          simp at s
          go_simp
          exact hK _ _ (by simp) (Below.refl _ _) rfl
        · simp [predsOf, Region.binds, slotV] at hp
          refine wpOp_of rfl rfl ?_
          have hrun := r1
          go_simp
          exact hK _ _ (by simp) (Below.refl _ _) (y1 _ h2)
        · have s := hold 0 rfl
          refine wpOp_of rfl rfl ?_
          simp at s
          go_simp
          exact hK _ _ (by simp) (Below.refl _ _) rfl
        · have s := hold 7 rfl
          refine wpOp_of rfl rfl ?_
          simp at s
          go_simp
          exact hK _ _ (by simp) (Below.refl _ _) rfl
        · have s := hold 8 rfl
          refine wpOp_of rfl rfl ?_
          simp at s
          go_simp
          exact hK _ _ (by simp) (Below.refl _ _) rfl
        · simp [predsOf, Region.binds, slotV] at hp
          refine wpOp_of rfl rfl ?_
          have hrun := r2
          go_simp
          exact hK _ _ (by simp) (Below.refl _ _) (y2 _ h2)
        · have s := hold 0 rfl
          refine wpOp_of rfl rfl ?_
          simp at s
          go_simp
          exact hK _ _ (by simp) (Below.refl _ _) rfl
        · have s := hold 8 rfl
          refine wpOp_of rfl rfl ?_
          simp at s
          go_simp
          exact hK _ _ (by simp) (Below.refl _ _) rfl
        · simp [predsOf, Region.binds, slotV] at hp
          refine wpOp_of rfl rfl ?_
          have hrun := r3
          go_simp
          exact hK _ _ (by simp) (Below.refl _ _) (y3 _ h2)
        · simp [predsOf, Region.binds, slotV] at hp
          refine wpOp_of rfl rfl ?_
          obtain ⟨q1, q2, q3⟩ := hp
          obtain ⟨B1, m1, d1, f1⟩ := q1.form
          obtain ⟨B2, m2, d2, f2⟩ := q2.form
          obtain ⟨B3, m3, d3, f3⟩ := q3.form
          rw [f1] at q1
          rw [f2] at q2
          rw [f3] at q3
          go_simp
          exact hK _ _ (by simp) (al _ _) (Ls.new3 rfl q1 q2 q3)
        · simp [predsOf, Region.binds, slotV] at hp
          refine wpOp_of rfl rfl ?_
          go_simp
          refine (sum_any _ _ _ h1 hp).mono ?_
          rintro e W' ⟨rfl, rfl⟩
          exact hK _ _ (by simp) (Below.refl _ _) (congrArg (fun s : Nat => Value.int .u32 (s : Int)) e1)
        · have s := hold 0 rfl
          refine wpOp_of rfl rfl ?_
          simp at s
          go_simp
          exact hK _ _ (by simp) (Below.refl _ _) rfl
        · simp [predsOf, Region.binds, slotV] at hp
          refine wpOp_of rfl rfl ?_
          go_simp
          exact hK _ _ (by simp) (al _ _) (Ls.new1 rfl h2)
        · simp [predsOf, Region.binds, slotV] at hp
          refine wpOp_of rfl rfl ?_
          go_simp
          refine (sum_any _ _ _ h1 hp.1).mono ?_
          rintro e W' ⟨rfl, rfl⟩
          exact hK _ _ (by simp) (Below.refl _ _) (by simp)
        · simp [predsOf, Region.binds, slotV] at hp
          refine wpOp_of rfl rfl ?_
          go_simp
          exact hK _ _ (by simp) (Below.refl _ _) (by simp)
        · simp [predsOf, Region.binds, slotV] at hp
          refine wpOp_of rfl rfl ?_
          go_simp
          exact hK _ _ (by simp) (Below.refl _ _) (by simp)
        · have s := hold 0 rfl
          simp [predsOf, Region.binds, slotV] at hp
          have hg := slot_bool hp
          refine wpOp_of rfl (by simp [Region.wanted, yielded, hg]) ?_
          simp at s
          go_simp
          exact hK _ _ (by simp) (Below.refl _ _) rfl
        · have s := hold 7 rfl
          simp [predsOf, Region.binds, slotV] at hp
          have hg := slot_bool hp
          refine wpOp_of rfl (by simp [Region.wanted, yielded, hg]) ?_
          simp at s
          go_simp
          exact hK _ _ (by simp) (Below.refl _ _) rfl
        · simp [predsOf, Region.binds, slotV] at hp
          have hg := slot_bool (x := a.tmps[48]?) (b := true) (by simp [hp])
          refine wpOp_of rfl (by simp [Region.wanted, yielded, hg]) ?_
          have hrun := r1
          go_simp
          exact hK _ _ (by simp) (Below.refl _ _) (y1 _ h2)
        · have s := hold 0 rfl
          simp [predsOf, Region.binds, slotV] at hp
          have hg := slot_bool hp
          refine wpOp_of rfl (by simp [Region.wanted, yielded, hg]) ?_
          simp at s
          go_simp
          exact hK _ _ (by simp) (Below.refl _ _) rfl
        · have s := hold 7 rfl
          simp [predsOf, Region.binds, slotV] at hp
          have hg := slot_bool hp
          refine wpOp_of rfl (by simp [Region.wanted, yielded, hg]) ?_
          simp at s
          go_simp
          exact hK _ _ (by simp) (Below.refl _ _) rfl
        · simp [predsOf, Region.binds, slotV] at hp
          have hg := slot_bool (x := a.tmps[48]?) (b := true) (by simp [hp])
          refine wpOp_of rfl (by simp [Region.wanted, yielded, hg]) ?_
          have hrun := r4
          go_simp
          exact hK _ _ (by simp) (Below.refl _ _) (y4 _ h2)
        · simp [predsOf, Region.binds, slotV] at hp
          have hg := slot_bool (x := a.tmps[48]?) (b := true) (by simp [hp])
          refine wpOp_of rfl (by simp [Region.wanted, yielded, hg]) ?_
          obtain ⟨q1, q2, _⟩ := hp
          obtain ⟨B1, m1, d1, f1⟩ := q1.form
          obtain ⟨B2, m2, d2, f2⟩ := q2.form
          rw [f1] at q1
          rw [f2] at q2
          go_simp
          exact hK _ _ (by simp) (al _ _) (Ls.new4 rfl (Tx.nil _) q1 (Tx.nil _) q2)
        · simp [predsOf, Region.binds, slotV] at hp
          have hg := slot_bool (x := a.tmps[48]?) (b := true) (by simp [hp])
          refine wpOp_of rfl (by simp [Region.wanted, yielded, hg]) ?_
          go_simp
          refine (sum_any _ _ _ h1 hp.1).mono ?_
          rintro e W' ⟨rfl, rfl⟩
          exact hK _ _ (by simp) (Below.refl _ _) (congrArg (fun s : Nat => Value.int .u32 (s : Int)) e2)
        · have s := hold 0 rfl
          simp [predsOf, Region.binds, slotV] at hp
          have hg := slot_bool hp
          refine wpOp_of rfl (by simp [Region.wanted, yielded, hg]) ?_
          simp at s
          go_simp
          exact hK _ _ (by simp) (Below.refl _ _) rfl
        · simp [predsOf, Region.binds, slotV] at hp
          have hg := slot_bool (x := a.tmps[48]?) (b := true) (by simp [hp])
          refine wpOp_of rfl (by simp [Region.wanted, yielded, hg]) ?_
          go_simp
          exact hK _ _ (by simp) (al _ _) (Ls.new1 rfl h2)
        · simp [predsOf, Region.binds, slotV] at hp
          have hg := slot_bool (x := a.tmps[48]?) (b := true) (by simp [hp])
          refine wpOp_of rfl (by simp [Region.wanted, yielded, hg]) ?_
          go_simp
          refine (sum_any _ _ _ h1 hp.1).mono ?_
          rintro e W' ⟨rfl, rfl⟩
          exact hK _ _ (by simp) (Below.refl _ _) (by simp)
        · simp [predsOf, Region.binds, slotV] at hp
          have hg := slot_bool (x := a.tmps[48]?) (b := true) (by simp [hp])
          refine wpOp_of rfl (by simp [Region.wanted, yielded, hg]) ?_
          go_simp
          exact hK _ _ (by simp) (Below.refl _ _) (by simp)
        · simp [predsOf, Region.binds, slotV] at hp
          refine wpOp_of rfl rfl ?_
          go_simp
          exact hK _ _ (by simp) (Below.refl _ _) (by simp)
        · have i0 : i = 0 := by simp at hi; omega
          subst i0
          simp [predsOf, Region.binds, slotV] at hp
          refine wpOp_of rfl rfl ?_
          go_simp
          exact hK _ _ (by simp) (Below.refl _ _) rfl
      case fin =>
        intro vs W hRs ⟨_, _, h6⟩
        have hr := hRs 30 (by decide)
        simp at hr
        simp only [putAll, List.foldl_cons, List.foldl_nil, Act.put, List.setIfInBounds_toArray, List.set_cons_succ, List.set_cons_zero, hr]
        go_wp2
        go_ret
        exact ⟨rfl, h6⟩
end Go.Proofs.YtoablohigdkbkaaDoor
