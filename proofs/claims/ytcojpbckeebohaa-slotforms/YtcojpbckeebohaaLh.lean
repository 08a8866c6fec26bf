/-
  The law SlotForms: its walk.
-/
import Derived.Test.YtcojpbckeebohaaLg
import Derived.Test.YtcojpbckeebohaaKn
namespace Go.Proofs.Ytcojpbckeebohaa
open Go.RowKit Go.Joins

/-- The cells of a row of slots. -/
def scs (l : List PS.S) : Array Value := (l.flatMap fun x => (sv x).toList).toArray
theorem scs_at (l : List PS.S) (j : Nat) (x : PS.S) (h : l[j]? = some x) :
    (scs l)[j * 5]? = some (.int .i64 x.n) ∧ (scs l)[j * 5 + 1]? = some (.int .i64 x.q) ∧ (scs l)[j * 5 + 2]? = some (.int .i64 x.m) ∧ (scs l)[j * 5 + 3]? = some (.int .i64 x.g) ∧ (scs l)[j * 5 + 4]? = some (.int .i64 x.p) := by
  simp only [scs, List.getElem?_toArray]
  induction l generalizing j with
  | nil => simp at h
  | cons y l ih =>
    cases j with
    | zero =>
      simp at h
      subst h
      exact ⟨rfl, rfl, rfl, rfl, rfl⟩
    | succ j =>
      have := ih j (by simpa using h)
      have e : (y :: l).flatMap (fun x => (sv x).toList) = .int .i64 y.n :: .int .i64 y.q :: .int .i64 y.m :: .int .i64 y.g :: .int .i64 y.p :: l.flatMap (fun x => (sv x).toList) := by simp [sv]
      rw [e, show (j + 1) * 5 = j * 5 + 1 + 1 + 1 + 1 + 1 by omega]
      exact this
/-- Element j of a row of slots. -/
theorem Bx.elem {w : World} {h : Nat} {l : List PS.S} (hb : Bx w h 23 (scs l)) {j : Nat} {n q m g p : Int} (hj : l[j]? = some ⟨n, q, m, g, p⟩) :
    w.cell? ⟨h, j * 5, none⟩ = some (.int .i64 n) ∧ w.cell? ⟨h, j * 5 + 1, none⟩ = some (.int .i64 q) ∧ w.cell? ⟨h, j * 5 + 2, none⟩ = some (.int .i64 m) ∧ w.cell? ⟨h, j * 5 + 3, none⟩ = some (.int .i64 g) ∧ w.cell? ⟨h, j * 5 + 4, none⟩ = some (.int .i64 p) := by
  obtain ⟨h0, h1, h2, h3, h4⟩ := scs_at l j _ hj
  exact ⟨(hb.cell _).trans h0, (hb.cell _).trans h1, (hb.cell _).trans h2, (hb.cell _).trans h3, (hb.cell _).trans h4⟩
theorem Bx.newAt (w : World) (t : TypeId) (cs : Array Value) (g : Nat) (hg : g = w.heap.size) : Bx (w.alloc (.cells cs t)) g t cs := by subst hg; exact Bx.new w t cs

def goods : List PS.S := [⟨1, 0, 0, 0, 0⟩, ⟨1073741824, 1073741824, 5, 2, 64⟩]
def bads : List PS.S := [⟨0, 0, 0, 0, 0⟩, ⟨-1, 0, 0, 0, 0⟩, ⟨1, 0, 0, 0, 65⟩, ⟨1, -1, 0, 0, 0⟩, ⟨1, 0, 1073741825, 0, 0⟩, ⟨1, 0, 0, -1, 0⟩, ⟨1, 0, 0, 0, -1⟩]
theorem goods_may : ∀ x ∈ goods, PS.may x = true := by decide
theorem bads_may : ∀ x ∈ bads, PS.may x = false := by decide
theorem bads_r5 : ∀ x ∈ bads, R5 x := by
  intro x hx
  simp [bads] at hx
  rcases hx with rfl | rfl | rfl | rfl | rfl | rfl | rfl <;> exact r5_lit (by decide)

def junk : ByteArray := { data := #[106, 117, 110, 107] }
theorem junk_no : PS.took junk = false := PS.took_size (by decide)
theorem noughts_no : PS.took (noughts 64) = false := by decide +kernel
theorem sum_no : PS.took (PB.put 4 1 (noughts 16)) = false := by decide +kernel
theorem step_later {b x : PS.S} {s : ByteArray} (h : PS.may x = true) (hs : PS.put x = s) : PS.step b s = if b.n < x.n then x else b := by
  rw [PS.step, (PS.took_of h hs).2]

def sA : PS.S := ⟨2, 7, 0, 0, 0⟩
def sB : PS.S := ⟨3, 8, 0, 0, 0⟩
def sC : PS.S := ⟨3, 9, 0, 0, 0⟩
theorem mA : PS.may sA = true := by decide
theorem mB : PS.may sB = true := by decide
theorem mC : PS.may sC = true := by decide
theorem new1 : PS.newest [PS.put sA, PS.put sB] = sB := by
  rw [PS.newest, List.foldl_cons, List.foldl_cons, List.foldl_nil, step_later mA rfl, step_later mB rfl]; decide
theorem new2 : PS.newest [PS.put sB, PS.put sA, PS.put sC] = sB := by
  rw [PS.newest, List.foldl_cons, List.foldl_cons, List.foldl_cons, List.foldl_nil, step_later mB rfl, step_later mA rfl, step_later mC rfl]; decide
theorem new3 : PS.newest [PS.put sA, junk] = sA := by
  rw [PS.newest, List.foldl_cons, List.foldl_cons, List.foldl_nil, step_later mA rfl, PS.step_no (by decide) junk_no]; decide
theorem new4 : PS.newest [junk, noughts 64] = PS.zero := by
  rw [PS.newest, List.foldl_cons, List.foldl_cons, List.foldl_nil, PS.step_no (Int.le_refl _) junk_no, PS.step_no (Int.le_refl _) noughts_no]

theorem Ss.lits (W : World) (ss : List ByteArray) (cs : Array Value) (n : Nat) (hc : cs.toList = ss.map Value.string) (hn : ss.length = n) (h : ∀ s ∈ ss, s.size ≤ 64) (hm : n ≤ 65536) : Ss (W.alloc (.cells cs 9)) (.slice (some ⟨W.heap.size, 0, none⟩) n n) ss :=
  Ss.new W cs (0, 0) n n _ rfl ss hc hn (fun s hs => by have := h s hs; omega) hm

set_option maxRecDepth 100000 in
set_option maxHeartbeats 8000000 in
theorem forms_any (w : World) : Calls Try.prog 5 #[] w fun e w' => e = .returned (.bool true) ∧ Below w.heap.size w w' := by
  go_enter Try.func5, Try.ntmps5
  go_wp2_with fail
  refine (begun_any _).mono ?_
  rintro e w1 ⟨rfl, hb1⟩
  have z1 := hb1.size
  go_upto_region 5 with fail
  have hxg := (Bx.newAt w1 23 (scs goods) w1.heap.size rfl).alloc (.cells (scs bads) 23)
  have hxb := Bx.newAt (w1.alloc (.cells (scs goods) 23)) 23 (scs bads) (w1.heap.size + 1) (by simp)
  have hb2 := (hb1.alloc z1 (.cells (scs goods) 23)).alloc (by simp; omega) (.cells (scs bads) 23)
  change Code.wp _ _ _ _ ((w1.alloc (.cells (scs goods) 23)).alloc (.cells (scs bads) 23))
  generalize ((w1.alloc (.cells (scs goods) 23)).alloc (.cells (scs bads) 23)) = w2 at hxg hxb hb2 ⊢
  generalize w1.heap.size + 1 = bd at hxg hxb ⊢
  generalize w1.heap.size = gd at hxg hxb ⊢
  have HG := Lib.hid hxg
  have HX := Lib.hid hxb
  have z2 := hb2.size
  clear hb1 z1 hxg hxb
  go_wp2
  go_loopw [3] (fun ii wr => ∃ j : Nat, j ≤ 2 ∧ ii = .int .i64 (j : Int) ∧ Below w2.heap.size w2 wr) (fun i _ => 2 - (intOf i).toNat)
  case atStart => exact ⟨0, by omega, rfl, Below.refl _ _⟩
  case round =>
    obtain ⟨j, hj, rfl, hBj⟩ := hrel
    by_cases hlt : j < 2
    · obtain ⟨⟨n, q, m, g, p⟩, hel0⟩ : ∃ x, goods[j]? = some x := ⟨_, List.getElem?_eq_getElem (show j < goods.length from hlt)⟩
      have em := goods_may _ (List.mem_of_getElem? hel0)
      have hel : ∀ W, Below w2.heap.size w2 W → W.cell? ⟨gd, j * 5, none⟩ = some (.int .i64 n) ∧ W.cell? ⟨gd, j * 5 + 1, none⟩ = some (.int .i64 q) ∧ W.cell? ⟨gd, j * 5 + 2, none⟩ = some (.int .i64 m) ∧ W.cell? ⟨gd, j * 5 + 3, none⟩ = some (.int .i64 g) ∧ W.cell? ⟨gd, j * 5 + 4, none⟩ = some (.int .i64 p) := fun W h => (HG.out.on h).elem hel0
      clear hel0
      have hpu := xput_any _ (R5.may em)
      have hmy := xmay_any _ (R5.may em)
      rw [em] at hmy
      obtain ⟨P, hP⟩ : ∃ P, PS.put ⟨n, q, m, g, p⟩ = P := ⟨_, rfl⟩
      have ps := PS.put_size em
      obtain ⟨t0, t1⟩ := PS.took_of em hP
      rw [hP] at hpu ps
      have htk := fun W => xtake_any P W (by omega)
      rw [t0, t1] at htk
      simp only [sv] at hpu hmy htk
      obtain ⟨q0, q1, q2, q3, q4⟩ := hel wr hBj
      have HEL := Lib.hid hel
      clear hel hP em t0 t1 ps
      go_wp2_with fail
      refine (hpu _).mono ?_
      rintro e wr1 ⟨rfl, hB1⟩
      clear q0 q1 q2 q3 q4
      have hb3 := hBj.trans (hB1.mono hBj.size)
      clear hB1
      go_wp2_with fail
      refine (htk _).mono ?_
      rintro e wr2 ⟨rfl, hB2⟩
      have hb4 := hb3.trans (hB2.mono hb3.size)
      have hb5 := hb4.alloc hb4.size (.cells #[.int .i64 n, .int .i64 q, .int .i64 m, .int .i64 g, .int .i64 p] 23)
      have hxy := Bx.new wr2 23 #[.int .i64 n, .int .i64 q, .int .i64 m, .int .i64 g, .int .i64 p]
      clear hB2 hb3 hb4
      go_upto_region 9 with fail
      generalize wr2.alloc (.cells #[.int .i64 n, .int .i64 q, .int .i64 m, .int .i64 g, .int .i64 p] 23) = wy at *
      have hex : ∀ W, Below wy.heap.size wy W → W.cell? ⟨wr2.heap.size, 0, none⟩ = some (.int .i64 n) ∧ W.cell? ⟨wr2.heap.size, 1, none⟩ = some (.int .i64 q) ∧ W.cell? ⟨wr2.heap.size, 2, none⟩ = some (.int .i64 m) ∧ W.cell? ⟨wr2.heap.size, 3, none⟩ = some (.int .i64 g) ∧ W.cell? ⟨wr2.heap.size, 4, none⟩ = some (.int .i64 p) := fun W h => (hxy.on h).five.1
      have hel : ∀ W, Below wy.heap.size wy W → W.cell? ⟨gd, j * 5, none⟩ = some (.int .i64 n) ∧ W.cell? ⟨gd, j * 5 + 1, none⟩ = some (.int .i64 q) ∧ W.cell? ⟨gd, j * 5 + 2, none⟩ = some (.int .i64 m) ∧ W.cell? ⟨gd, j * 5 + 3, none⟩ = some (.int .i64 g) ∧ W.cell? ⟨gd, j * 5 + 4, none⟩ = some (.int .i64 p) := fun W h => HEL.out W (hb5.trans (h.mono hb5.size))
      refine wp_region_grow Try.checked.mixed (by kernel_rfl) (fun W => Below wy.heap.size wy W)
        (fun i v W => match i with
          | 0 => v = .slice (some ⟨gd, 0, none⟩) 2 2
          | 1 => v = .int .i64 (j : Int)
          | 2 => v = .pointer (some ⟨gd, j * 5, none⟩)
          | 3 => v = .agg #[.int .i64 n, .int .i64 q, .int .i64 m, .int .i64 g, .int .i64 p]
          | 4 => v = .bool true
          | 5 => v = .bool false
          | 6 => v = .bool false
          | 7 => v = .bool true
          | 8 => v = .bool false
          | 9 => v = .bool false
          | 10 => v = .bool false
          | 11 => v = .agg #[.int .i64 n, .int .i64 q, .int .i64 m, .int .i64 g, .int .i64 p]
          | 12 => v = .slice (some ⟨gd, 0, none⟩) 2 2
          | 13 => v = .int .i64 (j : Int)
          | 14 => v = .pointer (some ⟨gd, j * 5, none⟩)
          | 15 => v = .agg #[.int .i64 n, .int .i64 q, .int .i64 m, .int .i64 g, .int .i64 p]
          | 16 => v = .bool false
          | _ => v = .bool false) ?hS ?hR ?start ?each ?fin
      case hS =>
        intro W W' h hb
        exact h.trans (hb.mono h.size)
      case hR =>
        intro j v W W' h hb
        rcases j with _ | _ | _ | _ | _ | _ | _ | _ | _ | _ | _ | _ | _ | _ | _ | _ | _ | j <;> first | exact h
      case start => exact (Below.refl _ _).drew
      case each =>
        intro i hi a W hold hp h6 K hK
        rcases i with _ | _ | _ | _ | _ | _ | _ | _ | _ | _ | _ | _ | _ | _ | _ | _ | _ | i
        · have s := hold 1 rfl
          simp [predsOf, Region.binds, slotV] at hp
          refine wpOp_of rfl rfl ?_
          simp at s
          go_simp
          exact hK _ _ (by simp) (Below.refl _ _) rfl
        · have s := hold 3 rfl
          simp [predsOf, Region.binds, slotV] at hp
          refine wpOp_of rfl rfl ?_
          simp at s
          go_simp
          exact hK _ _ (by simp) (Below.refl _ _) rfl
        · simp [predsOf, Region.binds, slotV] at hp
          refine wpOp_of rfl rfl ?_
          go_simp
          exact hK _ _ (by simp) (Below.refl _ _) rfl
        · simp [predsOf, Region.binds, slotV] at hp
          refine wpOp_of rfl rfl ?_
          obtain ⟨q0, q1, q2, q3, q4⟩ := hel W h6
          go_simp
          exact hK _ _ (by simp) (Below.refl _ _) rfl
        · simp [predsOf, Region.binds, slotV] at hp
          refine wpOp_of rfl rfl ?_
          go_simp
          refine (hmy W).mono ?_
          rintro e W' ⟨rfl, hB'⟩
          exact hK _ _ (by simp) hB' rfl
        · simp [predsOf, Region.binds, slotV] at hp
          refine wpOp_of rfl rfl ?_
          go_simp
          exact hK _ _ (by simp) (Below.refl _ _) (by simp)
        · simp [predsOf, Region.binds, slotV] at hp
          refine wpOp_of rfl rfl ?_
          go_simp
          exact hK _ _ (by simp) (Below.refl _ _) (by simp)
        · have s := hold 5 rfl
          simp [predsOf, Region.binds, slotV] at hp
          have hg := slot_bool (x := a.tmps[54]?) (b := false) (by simp [hp])
          refine wpOp_of rfl (by simp [Region.wanted, yielded, hg]) ?_
          simp at s
          go_simp
          exact hK _ _ (by simp) (Below.refl _ _) rfl
        · simp [predsOf, Region.binds, slotV] at hp
          have hg := slot_bool (x := a.tmps[54]?) (b := false) (by simp [hp])
          refine wpOp_of rfl (by simp [Region.wanted, yielded, hg]) ?_
          go_simp
          exact hK _ _ (by simp) (Below.refl _ _) (by simp)
        · simp [predsOf, Region.binds, slotV] at hp
          refine wpOp_of rfl rfl ?_
          go_simp
          exact hK _ _ (by simp) (Below.refl _ _) (by simp)
        · simp [predsOf, Region.binds, slotV] at hp
          refine wpOp_of rfl rfl ?_
          go_simp
          exact hK _ _ (by simp) (Below.refl _ _) (by simp)
        · have s := hold 4 rfl
          simp [predsOf, Region.binds, slotV] at hp
          have hg := slot_bool (x := a.tmps[58]?) (b := false) (by simp [hp])
          refine wpOp_of rfl (by simp [Region.wanted, yielded, hg]) ?_
          simp at s
          obtain ⟨q0, q1, q2, q3, q4⟩ := hex W h6
          go_simp
          exact hK _ _ (by simp) (Below.refl _ _) rfl
        · have s := hold 1 rfl
          simp [predsOf, Region.binds, slotV] at hp
          have hg := slot_bool (x := a.tmps[58]?) (b := false) (by simp [hp])
          refine wpOp_of rfl (by simp [Region.wanted, yielded, hg]) ?_
          simp at s
          go_simp
          exact hK _ _ (by simp) (Below.refl _ _) rfl
        · have s := hold 3 rfl
          simp [predsOf, Region.binds, slotV] at hp
          have hg := slot_bool (x := a.tmps[58]?) (b := false) (by simp [hp])
          refine wpOp_of rfl (by simp [Region.wanted, yielded, hg]) ?_
          simp at s
          go_simp
          exact hK _ _ (by simp) (Below.refl _ _) rfl
        · simp [predsOf, Region.binds, slotV] at hp
          have hg := slot_bool (x := a.tmps[58]?) (b := false) (by simp [hp])
          refine wpOp_of rfl (by simp [Region.wanted, yielded, hg]) ?_
          go_simp
          exact hK _ _ (by simp) (Below.refl _ _) rfl
        · simp [predsOf, Region.binds, slotV] at hp
          have hg := slot_bool (x := a.tmps[58]?) (b := false) (by simp [hp])
          refine wpOp_of rfl (by simp [Region.wanted, yielded, hg]) ?_
          obtain ⟨q0, q1, q2, q3, q4⟩ := hel W h6
          go_simp
          exact hK _ _ (by simp) (Below.refl _ _) rfl
        · simp [predsOf, Region.binds, slotV] at hp
          have hg := slot_bool (x := a.tmps[58]?) (b := false) (by simp [hp])
          refine wpOp_of rfl (by simp [Region.wanted, yielded, hg]) ?_
          go_simp
          exact hK _ _ (by simp) (Below.refl _ _) (by simp)
        · have i0 : i = 0 := by simp at hi; omega
          subst i0
          simp [predsOf, Region.binds, slotV] at hp
          refine wpOp_of rfl rfl ?_
          go_simp
          exact hK _ _ (by simp) (Below.refl _ _) (by simp)
      case fin =>
        intro vs W hRs h6
        have hr := hRs 17 (by decide)
        simp at hr
        simp only [putAll, List.foldl_cons, List.foldl_nil, Act.put, List.setIfInBounds_toArray, List.set_cons_succ, List.set_cons_zero, hr]
        clear hRs hr hel hex
        go_wp2
        go_roundw
        case rel => exact ⟨j + 1, by omega, by go_num, hb5.trans (h6.mono hb5.size)⟩
        case measure => simp [intOf]; omega
    · have hj3 : j = 2 := by omega
      subst hj3
      rw [show (((2 : Nat)) : Int) = 2 from rfl]
      go_wp2
      go_loopw [6] (fun ii wr => ∃ j : Nat, j ≤ 7 ∧ ii = .int .i64 (j : Int) ∧ Below w2.heap.size w2 wr) (fun i _ => 7 - (intOf i).toNat)
      case atStart => exact ⟨0, by omega, rfl, hBj⟩
      case round =>
        clear hBj
        obtain ⟨j, hj, rfl, hBj⟩ := hrel
        by_cases hlt : j < 7
        · obtain ⟨⟨n, q, m, g, p⟩, hel0⟩ : ∃ x, bads[j]? = some x := ⟨_, List.getElem?_eq_getElem (show j < bads.length from hlt)⟩
          have em := bads_may _ (List.mem_of_getElem? hel0)
          have er := bads_r5 _ (List.mem_of_getElem? hel0)
          have hel : ∀ W, Below w2.heap.size w2 W → W.cell? ⟨bd, j * 5, none⟩ = some (.int .i64 n) ∧ W.cell? ⟨bd, j * 5 + 1, none⟩ = some (.int .i64 q) ∧ W.cell? ⟨bd, j * 5 + 2, none⟩ = some (.int .i64 m) ∧ W.cell? ⟨bd, j * 5 + 3, none⟩ = some (.int .i64 g) ∧ W.cell? ⟨bd, j * 5 + 4, none⟩ = some (.int .i64 p) := fun W h => (HX.out.on h).elem hel0
          clear hel0
          have hpu := xput_any _ er
          have hmy := xmay_any _ er
          rw [em] at hmy
          rw [PS.put_no em] at hpu
          simp only [sv] at hpu hmy
          obtain ⟨q0, q1, q2, q3, q4⟩ := hel wr hBj
          have HEL := Lib.hid hel
          clear hel em er
          go_wp2_with fail
          refine (hmy _).mono ?_
          rintro e wr1 ⟨rfl, hB1⟩
          clear q0 q1 q2 q3 q4
          have hb3 := hBj.trans (hB1.mono hBj.size)
          clear hB1
          obtain ⟨q0, q1, q2, q3, q4⟩ := HEL.out wr1 hb3
          go_wp2_with fail
          refine (hpu _).mono ?_
          rintro e wr2 ⟨rfl, hB2⟩
          have hb4 := hb3.trans (hB2.mono hb3.size)
          clear hB2 hb3 q0 q1 q2 q3 q4
          go_wp2
          go_roundw
          case rel => exact ⟨j + 1, by omega, by go_num, hb4⟩
          case measure => simp [intOf]; omega
        · have hj6 : j = 7 := by omega
          subst hj6
          rw [show (((7 : Nat)) : Int) = 7 from rfl]
          have hb3 := hb2.trans (hBj.mono z2)
          clear hBj hb2 HG HX z2
          have hpA := xput_any sA (R5.may mA)
          have hpB := xput_any sB (R5.may mB)
          have hpC := xput_any sC (R5.may mC)
          have n1 := new1
          have n2 := new2
          have n3 := new3
          have n4 := new4
          have za := PS.put_le sA
          have zb := PS.put_le sB
          have zc := PS.put_le sC
          obtain ⟨a, ha⟩ : ∃ a, PS.put sA = a := ⟨_, rfl⟩
          obtain ⟨b, hb⟩ : ∃ a, PS.put sB = a := ⟨_, rfl⟩
          obtain ⟨c, hc⟩ : ∃ a, PS.put sC = a := ⟨_, rfl⟩
          rw [ha] at hpA n1 n2 n3 za
          rw [hb] at hpB n1 n2 zb
          rw [hc] at hpC n2 zc
          clear ha hb hc
          have r1 := fun W => xnewest_any _ _ _ (Ss.lits W [a, b] #[.string a, .string b] 2 rfl rfl (by simp; omega) (by decide))
          have r2 := fun W => xnewest_any _ _ _ (Ss.lits W [b, a, c] #[.string b, .string a, .string c] 3 rfl rfl (by simp; omega) (by decide))
          have r3 := fun W => xnewest_any _ _ _ (Ss.lits W [a, junk] #[.string a, .string { data := #[106, 117, 110, 107] }] 2 rfl rfl (by simp; exact ⟨za, by decide⟩) (by decide))
          have hns : (noughts 64).size = 64 := noughts_size 64
          have hmk := makeN 64 (by decide)
          have hcv := noughts_conv 64 (by decide)
          have hmk2 := makeN 16 (by decide)
          have hcv2 := noughts_conv 16 (by decide)
          rw [show (((64 : Nat) : Int)) = 64 from rfl] at hmk
          rw [show (((16 : Nat) : Int)) = 16 from rfl] at hmk2
          have hpb := rputB_any 4 1 (noughts 16)
          have hsz : (PB.put 4 1 (noughts 16)).size = 64 := PB.put_size (by rw [noughts_size]; decide)
          have hsn := sum_no
          obtain ⟨O, hO⟩ : ∃ O, noughts 64 = O := ⟨_, rfl⟩
          obtain ⟨O2, hO2⟩ : ∃ O, noughts 16 = O := ⟨_, rfl⟩
          rw [hO] at hcv n4 hns
          rw [hO2] at hcv2 hpb hsz hsn
          obtain ⟨S, hS⟩ : ∃ S, PB.put 4 1 O2 = S := ⟨_, rfl⟩
          rw [hS] at hpb hsz hsn
          have r4 := fun W => xnewest_any _ _ _ (Ss.lits W [junk, O] #[.string { data := #[106, 117, 110, 107] }, .string O] 2 rfl rfl (by simp; exact ⟨by decide, by omega⟩) (by decide))
          have hts := fun W => xtake_any S W (by omega)
          rw [PS.took_no hsn, hsn] at hts
          rw [n1] at r1
          rw [n2] at r2
          rw [n3] at r3
          rw [n4] at r4
          simp only [sv, sA, sB, sC, PS.zero] at hpA hpB hpC r1 r2 r3 r4 hts
          clear n1 n2 n3 n4 za zb zc hns hsz hsn hO hO2 hS
          go_wp2_with fail
          refine (hpA _).mono ?_
          rintro e w4 ⟨rfl, hB4⟩
          have hb4 := hb3.trans (hB4.mono hb3.size)
          clear hb3 hB4
          go_wp2_with fail
          refine (hpB _).mono ?_
          rintro e w5 ⟨rfl, hB5⟩
          have hb5 := hb4.trans (hB5.mono hb4.size)
          clear hb4 hB5
          go_wp2_with fail
          refine (hpC _).mono ?_
          rintro e w6 ⟨rfl, hB6⟩
          have hb6 := (hb5.trans (hB6.mono hb5.size)).alloc (hb5.trans (hB6.mono hb5.size)).size (.cells #[.string a, .string b] 9)
          clear hb5 hB6
          go_wp2_with fail
          refine (r1 _).mono ?_
          rintro e w7 ⟨rfl, hB7⟩
          have hb7 := hb6.trans (hB7.mono hb6.size)
          have hx7 := Bx.new w7 23 #[.int .i64 3, .int .i64 8, .int .i64 0, .int .i64 0, .int .i64 0]
          have hb8 := hb7.alloc hb7.size (.cells #[.int .i64 3, .int .i64 8, .int .i64 0, .int .i64 0, .int .i64 0] 23)
          clear hb6 hB7 hb7
          go_upto_region 18 with fail
          generalize w7.alloc (.cells #[.int .i64 3, .int .i64 8, .int .i64 0, .int .i64 0, .int .i64 0] 23) = w8 at *
          have hx8 := hx7.alloc (.cells #[.string b, .string a, .string c] 9)
          have hb9 := hb8.alloc hb8.size (.cells #[.string b, .string a, .string c] 9)
          go_wp2_with fail
          refine (r2 _).mono ?_
          rintro e w9 ⟨rfl, hB9⟩
          have hb10 := hb9.trans (hB9.mono hb9.size)
          have hx9 := (hx8.on hB9).alloc (.cells #[.int .i64 3, .int .i64 8, .int .i64 0, .int .i64 0, .int .i64 0] 23)
          have hy9 := Bx.new w9 23 #[.int .i64 3, .int .i64 8, .int .i64 0, .int .i64 0, .int .i64 0]
          have hb11 := hb10.alloc hb10.size (.cells #[.int .i64 3, .int .i64 8, .int .i64 0, .int .i64 0, .int .i64 0] 23)
          clear hx7 hx8 hb8 hb9 hB9 hb10
          go_upto_region 19 with fail
          generalize w9.alloc (.cells #[.int .i64 3, .int .i64 8, .int .i64 0, .int .i64 0, .int .i64 0] 23) = w10 at *
          have hx10 := hx9.alloc (.cells #[.string a, .string { data := #[106, 117, 110, 107] }] 9)
          have hy10 := hy9.alloc (.cells #[.string a, .string { data := #[106, 117, 110, 107] }] 9)
          have hb12 := hb11.alloc hb11.size (.cells #[.string a, .string { data := #[106, 117, 110, 107] }] 9)
          go_wp2_with fail
          refine (r3 _).mono ?_
          rintro e w11 ⟨rfl, hB11⟩
          have hb13 := hb12.trans (hB11.mono hb12.size)
          have hx11 := (hx10.on hB11).alloc (.cells #[.int .i64 2, .int .i64 7, .int .i64 0, .int .i64 0, .int .i64 0] 23)
          have hy11 := (hy10.on hB11).alloc (.cells #[.int .i64 2, .int .i64 7, .int .i64 0, .int .i64 0, .int .i64 0] 23)
          have hz11 := Bx.new w11 23 #[.int .i64 2, .int .i64 7, .int .i64 0, .int .i64 0, .int .i64 0]
          have hb14 := hb13.alloc hb13.size (.cells #[.int .i64 2, .int .i64 7, .int .i64 0, .int .i64 0, .int .i64 0] 23)
          clear hx9 hy9 hx10 hy10 hb11 hb12 hB11 hb13
          go_upto_region 20 with fail
          generalize w11.alloc (.cells #[.int .i64 2, .int .i64 7, .int .i64 0, .int .i64 0, .int .i64 0] 23) = w12 at *
          have hx12 := (hx11.alloc (.cells (zeroCellsN 64) 5)).alloc (.cells #[.string { data := #[106, 117, 110, 107] }, .string O] 9)
          have hy12 := (hy11.alloc (.cells (zeroCellsN 64) 5)).alloc (.cells #[.string { data := #[106, 117, 110, 107] }, .string O] 9)
          have hz12 := (hz11.alloc (.cells (zeroCellsN 64) 5)).alloc (.cells #[.string { data := #[106, 117, 110, 107] }, .string O] 9)
          have hb15 := hb14.alloc hb14.size (.cells (zeroCellsN 64) 5)
          have hb16 := hb15.alloc hb15.size (.cells #[.string { data := #[106, 117, 110, 107] }, .string O] 9)
          have r4' := r4 (w12.alloc (.cells (zeroCellsN 64) 5))
          simp only [World.size_alloc] at r4'
          go_wp2_with fail
          refine r4'.mono ?_
          rintro e w13 ⟨rfl, hB13⟩
          replace hB13 : Below ((w12.alloc (.cells (zeroCellsN 64) 5)).alloc (.cells #[.string { data := #[106, 117, 110, 107] }, .string O] 9)).heap.size ((w12.alloc (.cells (zeroCellsN 64) 5)).alloc (.cells #[.string { data := #[106, 117, 110, 107] }, .string O] 9)) w13 := by simp only [World.size_alloc]; exact hB13
          have hb17 := hb16.trans (hB13.mono hb16.size)
          have hx13 := (hx12.on hB13).alloc (.cells #[.int .i64 0, .int .i64 0, .int .i64 0, .int .i64 0, .int .i64 0] 23)
          have hy13 := (hy12.on hB13).alloc (.cells #[.int .i64 0, .int .i64 0, .int .i64 0, .int .i64 0, .int .i64 0] 23)
          have hz13 := (hz12.on hB13).alloc (.cells #[.int .i64 0, .int .i64 0, .int .i64 0, .int .i64 0, .int .i64 0] 23)
          have hb18 := hb17.alloc hb17.size (.cells #[.int .i64 0, .int .i64 0, .int .i64 0, .int .i64 0, .int .i64 0] 23)
          clear hx11 hy11 hz11 hx12 hy12 hz12 hb14 hb15 hb16 hb17 hB13 r4'
          go_upto_region 21 with fail
          generalize w13.alloc (.cells #[.int .i64 0, .int .i64 0, .int .i64 0, .int .i64 0, .int .i64 0] 23) = w14 at *
          have hx14 := hx13.alloc (.cells (zeroCellsN 16) 5)
          have hy14 := hy13.alloc (.cells (zeroCellsN 16) 5)
          have hz14 := hz13.alloc (.cells (zeroCellsN 16) 5)
          have hb19 := hb18.alloc hb18.size (.cells (zeroCellsN 16) 5)
          go_wp2_with fail
          refine (hpb _).mono ?_
          rintro e w15 ⟨rfl, hB15⟩
          have hx15 := hx14.on hB15
          have hy15 := hy14.on hB15
          have hz15 := hz14.on hB15
          have hb20 := hb19.trans (hB15.mono hb19.size)
          clear hx13 hy13 hz13 hx14 hy14 hz14 hb18 hb19 hB15
          go_wp2_with fail
          refine (hts _).mono ?_
          rintro e w16 ⟨rfl, hB16⟩
          have hx16 := (hx15.on hB16).alloc (.cells #[.int .i64 0, .int .i64 0, .int .i64 0, .int .i64 0, .int .i64 0] 23)
          have hy16 := (hy15.on hB16).alloc (.cells #[.int .i64 0, .int .i64 0, .int .i64 0, .int .i64 0, .int .i64 0] 23)
          have hz16 := (hz15.on hB16).alloc (.cells #[.int .i64 0, .int .i64 0, .int .i64 0, .int .i64 0, .int .i64 0] 23)
          have hb21 := hb20.trans (hB16.mono hb20.size)
          have hb22 := hb21.alloc hb21.size (.cells #[.int .i64 0, .int .i64 0, .int .i64 0, .int .i64 0, .int .i64 0] 23)
          clear hx15 hy15 hz15 hb20 hb21 hB16
          go_upto_region 22 with fail
          generalize w16.alloc (.cells #[.int .i64 0, .int .i64 0, .int .i64 0, .int .i64 0, .int .i64 0] 23) = w17 at *
          obtain ⟨⟨c0, c1, c2, c3, c4⟩, _⟩ := hx16.five
          obtain ⟨⟨d0, d1, d2, d3, d4⟩, _⟩ := hy16.five
          obtain ⟨⟨e0, e1, e2, e3, e4⟩, _⟩ := hz16.five
          go_wp2
          go_ret
          exact ⟨rfl, hb22⟩
end Go.Proofs.Ytcojpbckeebohaa
