/-
  Contracts: glacismade.Made, (Picks).Num, (Picks).Path.
-/
import Derived.Test.YtdnobplhfbgbaaaGreatDoorMRg
import Derived.Test.YtdnobplhfbgbaaaGreatDoorMNb
namespace Go.Proofs.YtdnobplhfbgbaaaGreatDoor
open Go.RowKit Go.Joins

theorem slot_bool {x : Option Value} {b : Bool} (h : x.getD undef = .bool b) : x = some (.bool b) := by
  cases x with
  | none => cases h
  | some v => exact congrArg some h

/-- A choice below m out of numbers, and where the next one is. -/
def numV (bs : List Nat) (ix m : Nat) : Nat := if bs.length ≤ ix then 0 else bs.getD ix 0 % m
def nextV (bs : List Nat) (ix : Nat) : Nat := if bs.length ≤ ix then ix else ix + 1
theorem numV_lt (bs : List Nat) (ix m : Nat) (h : 0 < m) : numV bs ix m < m := by
  unfold numV
  split
  · exact h
  · exact Nat.mod_lt _ h
theorem nextV_le {bs : List Nat} {ix : Nat} (h : ix ≤ bs.length) : nextV bs ix ≤ bs.length := by
  unfold nextV
  split <;> omega
/-- Nothing that was there is another, but block g. -/
def Nx (g : Nat) (w w' : World) : Prop := w.heap.size ≤ w'.heap.size ∧ ∀ k, k < w.heap.size → k ≠ g → w'.heap[k]? = w.heap[k]?
theorem Bx.nx {w w' : World} {g k : Nat} {t : TypeId} {cs : Array Value} (h : Bx w k t cs) (hn : Nx g w w') (hk : k ≠ g) : Bx w' k t cs := (hn.2 k h.lt hk).trans h

theorem Nx.trans {g : Nat} {a b c : World} (h : Nx g a b) (k : Nx g b c) : Nx g a c := ⟨Nat.le_trans h.1 k.1, fun j hj hne => (k.2 j (Nat.lt_of_lt_of_le hj h.1) hne).trans (h.2 j hj hne)⟩
theorem Nx.of {g : Nat} {a b : World} (h : Below a.heap.size a b) : Nx g a b := ⟨h.size, fun j hj _ => h.block j hj⟩

theorem made_any (A : Option Addr) (n c : Nat) (w : World) : Calls Tryz.prog 20 #[.slice A n c] w fun e w' => ∃ g, e = .returned (.pointer (some ⟨g, 0, none⟩)) ∧ w.heap.size ≤ g ∧ Bx w' g 92 #[.slice A n c, .int .i64 0] ∧ Below w.heap.size w w' := by
  go_enter Tryz.func20, Tryz.ntmps20
  go_wp2
  go_ret
  exact ⟨_, rfl, Nat.le_refl _, Bx.new w 92 _, al w _⟩

set_option maxHeartbeats 4000000 in
theorem num_any (w0 : World) (A : Option Addr) (n c : Nat) (bs : List Nat) (hv : Tx w0 (.slice A n c) bs) (hn : bs.length = n) (g ix m : Nat) (mz : Int) (hmz : mz = (m : Int)) (w : World) (hb : Below w0.heap.size w0 w) (hg : w0.heap.size ≤ g) (hx : Bx w g 92 #[.slice A n c, .int .i64 (ix : Int)]) (hi : ix ≤ n) (h1 : 1 ≤ m) (hm : m ≤ 65536) :
    Calls Tryz.prog 23 #[.pointer (some ⟨g, 0, none⟩), .int .i64 mz] w fun e w' => e = .returned (.int .i64 ((numV bs ix m : Nat) : Int)) ∧ Bx w' g 92 #[.slice A n c, .int .i64 ((nextV bs ix : Nat) : Int)] ∧ Nx g w w' ∧ Below w0.heap.size w0 w' := by
  subst hmz
  have hnl := hv.2.2
  rw [hn] at hnl
  by_cases hge : n ≤ ix
  · have hge' : bs.length ≤ ix := by omega
    have hd : (n : Int) ≤ (ix : Int) := by omega
    have E1 : numV bs ix m = 0 := by simp [numV, hge']
    have E2 : nextV bs ix = ix := by simp [nextV, hge']
    rw [E1, E2]
    clear E1 E2 hv hge hge' hn
    go_enter Tryz.func23, Tryz.ntmps23
    go_upto_region 1 with fail
    refine wp_region_grow Tryz.checked.mixed (by kernel_rfl) (fun W => Below w.heap.size w W)
      (fun i v W => match i with
        | 0 => v = .pointer (some ⟨g, 0, none⟩)
        | 1 => v = .pointer (some ⟨g, 0, none⟩)
        | 2 => v = .pointer (some ⟨g, 1, none⟩)
        | 3 => v = .int .i64 (ix : Int)
        | 4 => v = .pointer (some ⟨g, 0, none⟩)
        | 5 => v = .pointer (some ⟨g, 0, none⟩)
        | 6 => v = .pointer (some ⟨g, 0, none⟩)
        | 7 => v = .slice A n c
        | 8 => v = .int .i64 (n : Int)
        | 9 => v = .bool true
        | 10 => v = .bool true
        | 11 => True
        | 12 => True
        | _ => v = .bool true) ?hS ?hR ?start ?each ?fin
    case hS =>
      intro W W' h hb
      exact h.trans (hb.mono h.size)
    case hR =>
      intro j v W W' h hb
      rcases j with _ | _ | _ | _ | _ | _ | _ | _ | _ | _ | _ | _ | _ | j <;> first | exact h | trivial
    case start => exact (Below.refl _ _).drew
    case each =>
      intro i hi a W hold hp h6 K hK
      rcases i with _ | _ | _ | _ | _ | _ | _ | _ | _ | _ | _ | _ | _ | i
      · have s0 := hold 0 rfl
        simp [predsOf, Region.binds, slotV] at hp
        refine wpOp_of rfl rfl ?_
        simp at s0
        go_simp
        exact hK _ _ (by simp) (Below.refl _ _) rfl
      · simp [predsOf, Region.binds, slotV] at hp
        refine wpOp_of rfl rfl ?_
        go_simp
        exact hK _ _ (by simp) (Below.refl _ _) (by simp)
      · simp [predsOf, Region.binds, slotV] at hp
        refine wpOp_of rfl rfl ?_
        go_simp
        exact hK _ _ (by simp) (Below.refl _ _) (by simp)
      · simp [predsOf, Region.binds, slotV] at hp
        refine wpOp_of rfl rfl ?_
        have hc0 := (hx.on h6).cell 0
        have hc1 := (hx.on h6).cell 1
        simp at hc0 hc1
        go_simp
        exact hK _ _ (by simp) (Below.refl _ _) rfl
      · have s0 := hold 0 rfl
        simp [predsOf, Region.binds, slotV] at hp
        refine wpOp_of rfl rfl ?_
        simp at s0
        go_simp
        exact hK _ _ (by simp) (Below.refl _ _) rfl
      · simp [predsOf, Region.binds, slotV] at hp
        refine wpOp_of rfl rfl ?_
        go_simp
        exact hK _ _ (by simp) (Below.refl _ _) (by simp)
      · simp [predsOf, Region.binds, slotV] at hp
        refine wpOp_of rfl rfl ?_
        go_simp
        exact hK _ _ (by simp) (Below.refl _ _) (by simp)
      · simp [predsOf, Region.binds, slotV] at hp
        refine wpOp_of rfl rfl ?_
        have hc0 := (hx.on h6).cell 0
        have hc1 := (hx.on h6).cell 1
        simp at hc0 hc1
        go_simp
        exact hK _ _ (by simp) (Below.refl _ _) rfl
      · simp [predsOf, Region.binds, slotV] at hp
        refine wpOp_of rfl rfl ?_
        go_simp
        exact hK _ _ (by simp) (Below.refl _ _) (by simp)
      · simp [predsOf, Region.binds, slotV] at hp
        refine wpOp_of rfl rfl ?_
        go_simp
        exact hK _ _ (by simp) (Below.refl _ _) (by simp)
      · simp [predsOf, Region.binds, slotV] at hp
        refine wpOp_of rfl rfl ?_
        go_simp
        exact hK _ _ (by simp) (Below.refl _ _) (by simp)
      · simp [predsOf, Region.binds, slotV] at hp
        have hg := slot_bool (x := a.tmps[15]?) (b := true) (by simp [hp])
        refine wpOp_off rfl (by simp [Region.wanted, yielded, hg]) ?_
        exact hK undef W (by simp) (Below.refl _ _) trivial
      · simp [predsOf, Region.binds, slotV] at hp
        have hg := slot_bool (x := a.tmps[15]?) (b := true) (by simp [hp])
        refine wpOp_off rfl (by simp [Region.wanted, yielded, hg]) ?_
        exact hK undef W (by simp) (Below.refl _ _) trivial
      · have i0 : i = 0 := by simp at hi; omega
        subst i0
        simp [predsOf, Region.binds, slotV] at hp
        refine wpOp_of rfl rfl ?_
        go_simp
        exact hK _ _ (by simp) (Below.refl _ _) (by simp)
    case fin =>
      intro vs W hRs h6
      have hr := hRs 13 (by decide)
      simp at hr
      simp only [putAll, List.foldl_cons, List.foldl_nil, Act.put, List.setIfInBounds_toArray, List.set_cons_succ, List.set_cons_zero, hr]
      clear hRs hr
      go_wp2
      go_ret
      exact ⟨rfl, hx.on h6, ⟨h6.size, fun k hk _ => h6.block k hk⟩, hb.trans (h6.mono hb.size)⟩
  · have hge' : ¬ bs.length ≤ ix := by omega
    have hd : ¬ (n : Int) ≤ (ix : Int) := by omega
    have hm1 : ¬ (m : Int) < 1 := by omega
    obtain ⟨x, hxe⟩ : ∃ x, bs[ix]? = some x := ⟨_, List.getElem?_eq_getElem (by omega)⟩
    obtain ⟨r, hre⟩ : ∃ r, x % m = r := ⟨_, rfl⟩
    have E1 : numV bs ix m = r := by simp [numV, hge', List.getD, hxe, hre]
    have E2 : nextV bs ix = ix + 1 := by simp [nextV, hge']
    rw [E1, E2]
    have hx256 : x < 256 := hv.2.1 x (List.mem_of_getElem? hxe)
    obtain ⟨A', c', hvv, hzz, hA⟩ := hv.1
    injection hvv with e1 e2 e3
    subst e1 e3
    obtain ⟨vb, vo, rfl, hzy, hzx⟩ := hA (by omega)
    clear hzz hzy hzx
    have hcell0 : ∀ W, Below w0.heap.size w0 W → W.cell? ⟨vb, vo + ix, none⟩ = some (.int .u8 (x : Int)) := by
      intro W hW
      obtain ⟨A', c', hvv, _, hA⟩ := (hv.below hW).1
      injection hvv with e1 e2 e3
      subst e3
      obtain ⟨b, o, hA1, _, hcc⟩ := hA (by omega)
      rw [← e1] at hA1
      injection hA1 with hA1
      injection hA1 with h1 h2
      subst h1 h2
      have := hcc ix (by omega)
      rw [List.getElem?_map, hxe] at this
      exact this
    have HC := Lib.hid hcell0
    have hrl : r ≤ x := by rw [← hre]; exact Nat.mod_le _ _
    have hrt : Int.tmod (x : Int) (m : Int) = (r : Int) := by rw [← hre]; exact rfl
    have hrm : (x : Int) % (m : Int) = (r : Int) := by rw [← hre]; exact rfl
    have hwr : IntKind.i64.wrap (r : Int) = r := by rw [IntKind.wrap_i64]; omega
    have hwx : IntKind.i64.wrap (x : Int) = x := by rw [IntKind.wrap_i64]; omega
    have hwi : IntKind.i64.wrap (ix : Int) = ix := by rw [IntKind.wrap_i64]; omega
    have hm0 : ¬ m = 0 := by omega
    have hil : ix < n := by omega
    have HRT := Lib.hid hrt
    have HRM := Lib.hid hrm
    clear E1 E2 hv hn hA hge' hxe hcell0 e2 hrt hrm hre
    go_enter Tryz.func23, Tryz.ntmps23
    go_upto_region 1 with fail
    refine wp_region_grow Tryz.checked.mixed (by kernel_rfl) (fun W => Below w.heap.size w W)
      (fun i v W => match i with
        | 0 => v = .pointer (some ⟨g, 0, none⟩)
        | 1 => v = .pointer (some ⟨g, 0, none⟩)
        | 2 => v = .pointer (some ⟨g, 1, none⟩)
        | 3 => v = .int .i64 (ix : Int)
        | 4 => v = .pointer (some ⟨g, 0, none⟩)
        | 5 => v = .pointer (some ⟨g, 0, none⟩)
        | 6 => v = .pointer (some ⟨g, 0, none⟩)
        | 7 => v = .slice (some ⟨vb, vo, none⟩) n c
        | 8 => v = .int .i64 (n : Int)
        | 9 => v = .bool false
        | 10 => v = .bool false
        | 11 => v = .int .i64 (m : Int)
        | 12 => v = .bool false
        | _ => v = .bool false) ?hS ?hR ?start ?each ?fin
    case hS =>
      intro W W' h hb
      exact h.trans (hb.mono h.size)
    case hR =>
      intro j v W W' h hb
      rcases j with _ | _ | _ | _ | _ | _ | _ | _ | _ | _ | _ | _ | _ | j <;> first | exact h
    case start => exact (Below.refl _ _).drew
    case each =>
      intro i hi a W hold hp h6 K hK
      rcases i with _ | _ | _ | _ | _ | _ | _ | _ | _ | _ | _ | _ | _ | i
      · have s0 := hold 0 rfl
        simp [predsOf, Region.binds, slotV] at hp
        refine wpOp_of rfl rfl ?_
        simp at s0
        go_simp
        exact hK _ _ (by simp) (Below.refl _ _) rfl
      · simp [predsOf, Region.binds, slotV] at hp
        refine wpOp_of rfl rfl ?_
        go_simp
        exact hK _ _ (by simp) (Below.refl _ _) (by simp)
      · simp [predsOf, Region.binds, slotV] at hp
        refine wpOp_of rfl rfl ?_
        go_simp
        exact hK _ _ (by simp) (Below.refl _ _) (by simp)
      · simp [predsOf, Region.binds, slotV] at hp
        refine wpOp_of rfl rfl ?_
        have hc0 := (hx.on h6).cell 0
        have hc1 := (hx.on h6).cell 1
        simp at hc0 hc1
        go_simp
        exact hK _ _ (by simp) (Below.refl _ _) rfl
      · have s0 := hold 0 rfl
        simp [predsOf, Region.binds, slotV] at hp
        refine wpOp_of rfl rfl ?_
        simp at s0
        go_simp
        exact hK _ _ (by simp) (Below.refl _ _) rfl
      · simp [predsOf, Region.binds, slotV] at hp
        refine wpOp_of rfl rfl ?_
        go_simp
        exact hK _ _ (by simp) (Below.refl _ _) (by simp)
      · simp [predsOf, Region.binds, slotV] at hp
        refine wpOp_of rfl rfl ?_
        go_simp
        exact hK _ _ (by simp) (Below.refl _ _) (by simp)
      · simp [predsOf, Region.binds, slotV] at hp
        refine wpOp_of rfl rfl ?_
        have hc0 := (hx.on h6).cell 0
        have hc1 := (hx.on h6).cell 1
        simp at hc0 hc1
        go_simp
        exact hK _ _ (by simp) (Below.refl _ _) rfl
      · simp [predsOf, Region.binds, slotV] at hp
        refine wpOp_of rfl rfl ?_
        go_simp
        exact hK _ _ (by simp) (Below.refl _ _) (by simp)
      · simp [predsOf, Region.binds, slotV] at hp
        refine wpOp_of rfl rfl ?_
        go_simp
        exact hK _ _ (by simp) (Below.refl _ _) (by simp)
      · simp [predsOf, Region.binds, slotV] at hp
        refine wpOp_of rfl rfl ?_
        go_simp
        exact hK _ _ (by simp) (Below.refl _ _) (by simp)
      · have s0 := hold 1 rfl
        simp [predsOf, Region.binds, slotV] at hp
        have hg := slot_bool (x := a.tmps[15]?) (b := false) (by simp [hp])
        refine wpOp_of rfl (by simp [Region.wanted, yielded, hg]) ?_
        simp at s0
        go_simp
        exact hK _ _ (by simp) (Below.refl _ _) rfl
      · simp [predsOf, Region.binds, slotV] at hp
        have hg := slot_bool (x := a.tmps[15]?) (b := false) (by simp [hp])
        refine wpOp_of rfl (by simp [Region.wanted, yielded, hg]) ?_
        go_simp
        exact hK _ _ (by simp) (Below.refl _ _) (by simp)
      · have i0 : i = 0 := by simp at hi; omega
        subst i0
        simp [predsOf, Region.binds, slotV] at hp
        refine wpOp_of rfl rfl ?_
        go_simp
        exact hK _ _ (by simp) (Below.refl _ _) (by simp)
    case fin =>
      intro vs w1 hRs hB1
      have hr := hRs 13 (by decide)
      simp at hr
      simp only [putAll, List.foldl_cons, List.foldl_nil, Act.put, List.setIfInBounds_toArray, List.set_cons_succ, List.set_cons_zero, hr]
      clear hRs hr
      have hx1 := hx.on hB1
      obtain ⟨c0, c1, f0, f1⟩ := hx1.two
      have hb1 := hb.trans (hB1.mono hb.size)
      go_upto_region 4 with fail
      have hx2 := hx1.set 1 (.int .i64 ((ix : Int) + 1))
      have hbs := hb1.setCell (p := ⟨g, 1, none⟩) hg (.int .i64 ((ix : Int) + 1))
      have z2 : (w1.setCell ⟨g, 1, none⟩ (.int .i64 ((ix : Int) + 1))).heap.size = w1.heap.size := by simp
      have nx : Nx g w (w1.setCell ⟨g, 1, none⟩ (.int .i64 ((ix : Int) + 1))) := ⟨by rw [z2]; exact hB1.size, fun k hk hkg => (Below.heap_setCell w1 ⟨g, 1, none⟩ _ k hkg).trans (hB1.block k hk)⟩
      generalize w1.setCell ⟨g, 1, none⟩ (.int .i64 ((ix : Int) + 1)) = w2 at *
      have hx2' : Bx w2 g 92 #[.slice (some ⟨vb, vo, none⟩) n c, .int .i64 ((ix : Int) + 1)] := hx2
      have hcell : ∀ W, Below w2.heap.size w2 W → W.cell? ⟨vb, vo + ix, none⟩ = some (.int .u8 (x : Int)) := fun W h => HC.out W (hbs.trans (h.mono hbs.size))
      clear c0 c1 f0 f1 hx hx1 hx2 hB1 hb hb1 z2
      refine wp_region_grow Tryz.checked.mixed (by kernel_rfl) (fun W => Below w2.heap.size w2 W)
        (fun i v W => match i with
          | 0 => v = .pointer (some ⟨g, 0, none⟩)
          | 1 => v = .pointer (some ⟨g, 0, none⟩)
          | 2 => v = .pointer (some ⟨g, 0, none⟩)
          | 3 => v = .slice (some ⟨vb, vo, none⟩) n c
          | 4 => v = .pointer (some ⟨g, 0, none⟩)
          | 5 => v = .pointer (some ⟨g, 0, none⟩)
          | 6 => v = .pointer (some ⟨g, 1, none⟩)
          | 7 => v = .int .i64 ((ix : Int) + 1)
          | 8 => v = .int .i64 (ix : Int)
          | 9 => v = .pointer (some ⟨vb, vo + ix, none⟩)
          | 10 => v = .int .u8 (x : Int)
          | 11 => v = .int .i64 (x : Int)
          | 12 => v = .int .i64 (m : Int)
          | 13 => v = .int .i64 (r : Int)
          | _ => v = .int .i64 (r : Int)) ?hS ?hR ?start ?each ?fin
      case hS =>
        intro W W' h hb
        exact h.trans (hb.mono h.size)
      case hR =>
        intro j v W W' h hb
        rcases j with _ | _ | _ | _ | _ | _ | _ | _ | _ | _ | _ | _ | _ | _ | j <;> first | exact h
      case start => exact (Below.refl _ _).drew
      case each =>
        intro i hi a W hold hp h6 K hK
        rcases i with _ | _ | _ | _ | _ | _ | _ | _ | _ | _ | _ | _ | _ | _ | i
        · have s0 := hold 0 rfl
          simp [predsOf, Region.binds, slotV] at hp
          refine wpOp_of rfl rfl ?_
          simp at s0
          go_simp
          exact hK _ _ (by simp) (Below.refl _ _) rfl
        · simp [predsOf, Region.binds, slotV] at hp
          refine wpOp_of rfl rfl ?_
          go_simp
          exact hK _ _ (by simp) (Below.refl _ _) (by simp)
        · simp [predsOf, Region.binds, slotV] at hp
          refine wpOp_of rfl rfl ?_
          go_simp
          exact hK _ _ (by simp) (Below.refl _ _) (by simp)
        · simp [predsOf, Region.binds, slotV] at hp
          refine wpOp_of rfl rfl ?_
          have hc0 := (hx2'.on h6).cell 0
          have hc1 := (hx2'.on h6).cell 1
          simp at hc0 hc1
          go_simp
          exact hK _ _ (by simp) (Below.refl _ _) rfl
        · have s0 := hold 0 rfl
          simp [predsOf, Region.binds, slotV] at hp
          refine wpOp_of rfl rfl ?_
          simp at s0
          go_simp
          exact hK _ _ (by simp) (Below.refl _ _) rfl
        · simp [predsOf, Region.binds, slotV] at hp
          refine wpOp_of rfl rfl ?_
          go_simp
          exact hK _ _ (by simp) (Below.refl _ _) (by simp)
        · simp [predsOf, Region.binds, slotV] at hp
          refine wpOp_of rfl rfl ?_
          go_simp
          exact hK _ _ (by simp) (Below.refl _ _) (by simp)
        · simp [predsOf, Region.binds, slotV] at hp
          refine wpOp_of rfl rfl ?_
          have hc0 := (hx2'.on h6).cell 0
          have hc1 := (hx2'.on h6).cell 1
          simp at hc0 hc1
          go_simp
          exact hK _ _ (by simp) (Below.refl _ _) rfl
        · simp [predsOf, Region.binds, slotV] at hp
          refine wpOp_of rfl rfl ?_
          go_simp
          exact hK _ _ (by simp) (Below.refl _ _) (by simp)
        · simp [predsOf, Region.binds, slotV] at hp
          refine wpOp_of rfl rfl ?_
          go_simp
          exact hK _ _ (by simp) (Below.refl _ _) rfl
        · simp [predsOf, Region.binds, slotV] at hp
          refine wpOp_of rfl rfl ?_
          have hc := hcell W h6
          go_simp
          exact hK _ _ (by simp) (Below.refl _ _) rfl
        · simp [predsOf, Region.binds, slotV] at hp
          refine wpOp_of rfl rfl ?_
          go_simp
          exact hK _ _ (by simp) (Below.refl _ _) (by simp)
        · have s0 := hold 1 rfl
          simp [predsOf, Region.binds, slotV] at hp
          refine wpOp_of rfl rfl ?_
          simp at s0
          go_simp
          exact hK _ _ (by simp) (Below.refl _ _) rfl
        · simp [predsOf, Region.binds, slotV] at hp
          refine wpOp_of rfl rfl ?_
          have hrt := HRT.out
          have hrm := HRM.out
          go_simp
          exact hK _ _ (by simp) (Below.refl _ _) (by simp)
        · have i0 : i = 0 := by simp at hi; omega
          subst i0
          simp [predsOf, Region.binds, slotV] at hp
          refine wpOp_of rfl rfl ?_
          go_simp
          exact hK _ _ (by simp) (Below.refl _ _) (by simp)
      case fin =>
        intro vs W hRs h6
        have hr := hRs 14 (by decide)
        simp at hr
        simp only [putAll, List.foldl_cons, List.foldl_nil, Act.put, List.setIfInBounds_toArray, List.set_cons_succ, List.set_cons_zero, hr]
        clear hRs hr hcell
        go_wp2
        go_ret
        refine ⟨by simp, hx2'.on h6, ⟨Nat.le_trans nx.1 h6.size, fun k hk hkg => ?_⟩, hbs.trans (h6.mono hbs.size)⟩
        exact (h6.block k (Nat.lt_of_lt_of_le hk nx.1)).trans (nx.2 k hk hkg)

/-- The ways that there are. -/
def lots15 : List ByteArray := [{ data := #[47, 97] }, { data := #[47, 98] }, { data := #[47, 99] }, { data := #[47, 97, 47, 98] }, { data := #[47, 97, 47, 99] }, { data := #[47, 98, 47, 97] }, { data := #[47, 97, 47, 98, 47, 99] }, { data := #[47, 100] }, { data := #[47, 98, 47, 99, 47, 100] }, { data := #[47] }, { data := #[97] }, { data := #[47, 97, 47, 47, 98] }, { data := #[47, 116, 111, 111, 108, 111, 110, 103] }, { data := #[47, 126, 49] }, { data := #[47, 120, 32, 121] }]
theorem lots15_size : ∀ s ∈ lots15, s.size ≤ 8 := by decide
theorem lots15_at {j : Nat} {x : ByteArray} (h : lots15[j]? = some x) : (#[.string { data := #[47, 97] }, .string { data := #[47, 98] }, .string { data := #[47, 99] }, .string { data := #[47, 97, 47, 98] }, .string { data := #[47, 97, 47, 99] }, .string { data := #[47, 98, 47, 97] }, .string { data := #[47, 97, 47, 98, 47, 99] }, .string { data := #[47, 100] }, .string { data := #[47, 98, 47, 99, 47, 100] }, .string { data := #[47] }, .string { data := #[97] }, .string { data := #[47, 97, 47, 47, 98] }, .string { data := #[47, 116, 111, 111, 108, 111, 110, 103] }, .string { data := #[47, 126, 49] }, .string { data := #[47, 120, 32, 121] }] : Array Value)[j]? = some (.string x) := by
  have e : (#[.string { data := #[47, 97] }, .string { data := #[47, 98] }, .string { data := #[47, 99] }, .string { data := #[47, 97, 47, 98] }, .string { data := #[47, 97, 47, 99] }, .string { data := #[47, 98, 47, 97] }, .string { data := #[47, 97, 47, 98, 47, 99] }, .string { data := #[47, 100] }, .string { data := #[47, 98, 47, 99, 47, 100] }, .string { data := #[47] }, .string { data := #[97] }, .string { data := #[47, 97, 47, 47, 98] }, .string { data := #[47, 116, 111, 111, 108, 111, 110, 103] }, .string { data := #[47, 126, 49] }, .string { data := #[47, 120, 32, 121] }] : Array Value) = (lots15.map Value.string).toArray := rfl
  rw [e, List.getElem?_toArray, List.getElem?_map, h, Option.map_some]

set_option maxHeartbeats 4000000 in
theorem mpath_any (w0 : World) (A : Option Addr) (n c : Nat) (bs : List Nat) (hv : Tx w0 (.slice A n c) bs) (hn : bs.length = n) (g ix : Nat) (w : World) (hb : Below w0.heap.size w0 w) (hg : w0.heap.size ≤ g) (hx : Bx w g 92 #[.slice A n c, .int .i64 (ix : Int)]) (hi : ix ≤ n) :
    Calls Tryz.prog 22 #[.pointer (some ⟨g, 0, none⟩)] w fun e w' => ∃ (s : ByteArray) (j : Nat), e = .returned (.string s) ∧ s.size ≤ 8 ∧ j ≤ n ∧ Bx w' g 92 #[.slice A n c, .int .i64 (j : Int)] ∧ Nx g w w' ∧ Below w0.heap.size w0 w' := by
  have hgl := hx.lt
  have hx0 := hx.alloc (.cells #[.string { data := #[47, 97] }, .string { data := #[47, 98] }, .string { data := #[47, 99] }, .string { data := #[47, 97, 47, 98] }, .string { data := #[47, 97, 47, 99] }, .string { data := #[47, 98, 47, 97] }, .string { data := #[47, 97, 47, 98, 47, 99] }, .string { data := #[47, 100] }, .string { data := #[47, 98, 47, 99, 47, 100] }, .string { data := #[47] }, .string { data := #[97] }, .string { data := #[47, 97, 47, 47, 98] }, .string { data := #[47, 116, 111, 111, 108, 111, 110, 103] }, .string { data := #[47, 126, 49] }, .string { data := #[47, 120, 32, 121] }] 9)
  have hy0 := Bx.new w 9 #[.string { data := #[47, 97] }, .string { data := #[47, 98] }, .string { data := #[47, 99] }, .string { data := #[47, 97, 47, 98] }, .string { data := #[47, 97, 47, 99] }, .string { data := #[47, 98, 47, 97] }, .string { data := #[47, 97, 47, 98, 47, 99] }, .string { data := #[47, 100] }, .string { data := #[47, 98, 47, 99, 47, 100] }, .string { data := #[47] }, .string { data := #[97] }, .string { data := #[47, 97, 47, 47, 98] }, .string { data := #[47, 116, 111, 111, 108, 111, 110, 103] }, .string { data := #[47, 126, 49] }, .string { data := #[47, 120, 32, 121] }]
  have hb0 := hb.alloc hb.size (.cells #[.string { data := #[47, 97] }, .string { data := #[47, 98] }, .string { data := #[47, 99] }, .string { data := #[47, 97, 47, 98] }, .string { data := #[47, 97, 47, 99] }, .string { data := #[47, 98, 47, 97] }, .string { data := #[47, 97, 47, 98, 47, 99] }, .string { data := #[47, 100] }, .string { data := #[47, 98, 47, 99, 47, 100] }, .string { data := #[47] }, .string { data := #[97] }, .string { data := #[47, 97, 47, 47, 98] }, .string { data := #[47, 116, 111, 111, 108, 111, 110, 103] }, .string { data := #[47, 126, 49] }, .string { data := #[47, 120, 32, 121] }] 9)
  have hne : w.heap.size ≠ g := by omega
  obtain ⟨i1, e1⟩ : ∃ i, nextV bs ix = i := ⟨_, rfl⟩
  have l1 : i1 ≤ n := by rw [← e1, ← hn]; exact nextV_le (by omega)
  obtain ⟨a1, f1⟩ : ∃ a, numV bs ix 15 = a := ⟨_, rfl⟩
  have r1 : a1 < 15 := by rw [← f1]; exact numV_lt _ _ _ (by decide)
  obtain ⟨L, hL⟩ : ∃ L, lots15[a1]? = some L := ⟨_, List.getElem?_eq_getElem (show a1 < lots15.length from r1)⟩
  have hLs := lots15_size L (List.mem_of_getElem? hL)
  generalize hwa : w.alloc (.cells #[.string { data := #[47, 97] }, .string { data := #[47, 98] }, .string { data := #[47, 99] }, .string { data := #[47, 97, 47, 98] }, .string { data := #[47, 97, 47, 99] }, .string { data := #[47, 98, 47, 97] }, .string { data := #[47, 97, 47, 98, 47, 99] }, .string { data := #[47, 100] }, .string { data := #[47, 98, 47, 99, 47, 100] }, .string { data := #[47] }, .string { data := #[97] }, .string { data := #[47, 97, 47, 47, 98] }, .string { data := #[47, 116, 111, 111, 108, 111, 110, 103] }, .string { data := #[47, 126, 49] }, .string { data := #[47, 120, 32, 121] }] 9) = wa at hx0 hy0 hb0
  have hnum := num_any w0 A n c bs hv hn g ix 15 15 rfl wa hb0 hg hx0 hi (by decide) (by decide)
  rw [e1, f1] at hnum
  have hrow := lots15_at hL
  have HY := Lib.hid hy0
  have HR := Lib.hid hrow
  clear hx hb hx0 hb0 e1 f1 hL hrow hy0
  subst hwa
  go_enter Tryz.func22, Tryz.ntmps22
  go_wp2_with fail
  refine hnum.mono ?_
  rintro e w1 ⟨rfl, hx1, hn1, hb1⟩
  have hg1 := ((HY.out.nx hn1 hne).cell a1).trans HR.out
  have hnx := Nx.trans (g := g) (Nx.of (al w _)) hn1
  clear hnum hn1 HY HR
  go_wp2
  go_ret
  exact ⟨L, i1, rfl, hLs, l1, hx1, hnx, hb1⟩
end Go.Proofs.YtdnobplhfbgbaaaGreatDoor
