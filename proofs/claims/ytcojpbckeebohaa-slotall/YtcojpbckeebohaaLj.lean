/-
  The document's reader: contract of its Num; what four numbers in a row are.
-/
import Derived.Test.YtcojpbckeebohaaLi
namespace Go.Proofs.Ytcojpbckeebohaa
open Go.RowKit Go.Joins

namespace PS
/-- What one Num of four bytes does to the bytes that are left, and to 'Bad'. -/
def rbad (bs : List Nat) (bad : Bool) : Bool := bad || decide (bs.length < 4)
def rz (bs : List Nat) (bad : Bool) : Int := if rbad bs bad then 0 else ((PlainBits.dec (bs.take 4) : Nat) : Int)
def rest (bs : List Nat) (bad : Bool) : List Nat := if rbad bs bad then bs else bs.drop 4
theorem rbad_ok {bs : List Nat} (h : 4 ≤ bs.length) : rbad bs false = false := by simp [rbad]; omega
theorem rd_ok {bs : List Nat} (h : 4 ≤ bs.length) : rz bs false = ((PlainBits.dec (bs.take 4) : Nat) : Int) ∧ rest bs false = bs.drop 4 ∧ rbad bs false = false := by
  have := rbad_ok h
  simp [rz, rest, this]
theorem rbad_bad (bs : List Nat) : rbad bs true = true := rfl
/-- Four in a row. -/
def r1 (l : List Nat) : List Nat := rest l false
def b1 (l : List Nat) : Bool := rbad l false
def r2 (l : List Nat) : List Nat := rest (r1 l) (b1 l)
def b2 (l : List Nat) : Bool := rbad (r1 l) (b1 l)
def r3 (l : List Nat) : List Nat := rest (r2 l) (b2 l)
def b3 (l : List Nat) : Bool := rbad (r2 l) (b2 l)
def b4 (l : List Nat) : Bool := rbad (r3 l) (b3 l)
theorem four_yes {l : List Nat} (h : 16 ≤ l.length) : rz l false = n4 l 0 ∧ rz (r1 l) (b1 l) = n4 l 1 ∧ rz (r2 l) (b2 l) = n4 l 2 ∧ rz (r3 l) (b3 l) = n4 l 3 ∧ b4 l = false := by
  obtain ⟨z0, e1, f1⟩ := rd_ok (bs := l) (by omega)
  have er1 : r1 l = l.drop 4 := e1
  have eb1 : b1 l = false := f1
  obtain ⟨z1, e2, f2⟩ := rd_ok (bs := l.drop 4) (by simp; omega)
  have er2 : r2 l = l.drop 8 := by rw [r2, er1, eb1, e2, List.drop_drop]
  have eb2 : b2 l = false := by rw [b2, er1, eb1, f2]
  obtain ⟨z2, e3, f3⟩ := rd_ok (bs := l.drop 8) (by simp; omega)
  have er3 : r3 l = l.drop 12 := by rw [r3, er2, eb2, e3, List.drop_drop]
  have eb3 : b3 l = false := by rw [b3, er2, eb2, f3]
  obtain ⟨z3, _, f4⟩ := rd_ok (bs := l.drop 12) (by simp; omega)
  refine ⟨?_, ?_, ?_, ?_, ?_⟩
  · rw [z0]; rfl
  · rw [er1, eb1, z1]; rfl
  · rw [er2, eb2, z2]; rfl
  · rw [er3, eb3, z3]; rfl
  · rw [b4, er3, eb3, f4]
theorem four_no {l : List Nat} (h : l.length < 16) : b4 l = true := by
  cases h4 : b4 l with
  | true => rfl
  | false =>
    exfalso
    have st : ∀ (bs : List Nat) (bad : Bool), rbad bs bad = false → bad = false ∧ 4 ≤ bs.length := fun bs bad hb => by
      simp [rbad] at hb; omega
    obtain ⟨h3, l3⟩ := st _ _ h4
    obtain ⟨h2, l2⟩ := st _ _ h3
    obtain ⟨h1, l1⟩ := st _ _ h2
    obtain ⟨_, l0⟩ := st _ _ h1
    have e1 : r1 l = l.drop 4 := by rw [r1, rest, if_neg (by rw [show rbad l false = b1 l from rfl, h1]; decide)]
    have e2 : r2 l = (r1 l).drop 4 := by rw [r2, rest, if_neg (by rw [show rbad (r1 l) (b1 l) = b2 l from rfl, h2]; decide)]
    have e3 : r3 l = (r2 l).drop 4 := by rw [r3, rest, if_neg (by rw [show rbad (r2 l) (b2 l) = b3 l from rfl, h3]; decide)]
    rw [e3, e2, e1] at l3
    simp at l3
    omega
end PS

/-- The reader in box r: its bytes lie in the world wb, from before the box. -/
def Rd (wb w : World) (r : Nat) (bs : List Nat) (bad : Bool) : Prop := ∃ v, Bx w r 57 #[v, .bool bad] ∧ Tx wb v bs ∧ Cp v
theorem Rd.far {wb w : World} {r : Nat} {bs : List Nat} {bad : Bool} (h : Rd wb w r bs bad) {p : Addr} (hp : r ≠ p.block) (u : Value) : Rd wb (w.setCell p u) r bs bad := by
  obtain ⟨v, hv, h2⟩ := h
  exact ⟨v, hv.far hp u, h2⟩
theorem Rd.alloc {wb w : World} {r : Nat} {bs : List Nat} {bad : Bool} (h : Rd wb w r bs bad) (o : Obj) : Rd wb (w.alloc o) r bs bad := by
  obtain ⟨v, hv, h2⟩ := h
  exact ⟨v, hv.alloc o, h2⟩
theorem Rd.on {wb w w' : World} {r : Nat} {bs : List Nat} {bad : Bool} (h : Rd wb w r bs bad) (hb : Below w.heap.size w w') : Rd wb w' r bs bad := by
  obtain ⟨v, hv, h2⟩ := h
  exact ⟨v, hv.on hb, h2⟩
/-- Nothing but block r has turned. -/
def But (r : Nat) (w w' : World) : Prop := w'.heap.size = w.heap.size ∧ ∀ g, g ≠ r → w'.heap[g]? = w.heap[g]?
theorem But.refl (r : Nat) (w : World) : But r w w := ⟨rfl, fun _ _ => rfl⟩
theorem But.set (r i : Nat) (w : World) (u : Value) : But r w (w.setCell ⟨r, i, none⟩ u) := ⟨by simp, fun g hg => Below.heap_setCell w ⟨r, i, none⟩ u g hg⟩
theorem Bx.but {w w' : World} {g r : Nat} {t : TypeId} {cs : Array Value} (h : Bx w g t cs) (hb : But r w w') (hg : g ≠ r) : Bx w' g t cs := (hb.2 g hg).trans h

set_option maxHeartbeats 4000000 in
theorem rdnum_any (wb w : World) (r : Nat) (bs : List Nat) (bad : Bool) (hb : Below wb.heap.size wb w) (hr : wb.heap.size ≤ r) (h : Rd wb w r bs bad) :
    Calls Try.prog 25 #[.pointer (some ⟨r, 0, none⟩), .int .i64 4] w fun e w' => e = .returned (.int .i64 (PS.rz bs bad)) ∧ Rd wb w' r (PS.rest bs bad) (PS.rbad bs bad) ∧ Below wb.heap.size wb w' ∧ But r w w' := by
  obtain ⟨v, hx, ht, hc⟩ := h
  have htk := rtake_any v bs 4 w (ht.below hb)
  obtain ⟨A, c, rfl⟩ := ht.form
  have hnc : bs.length ≤ c := by
    obtain ⟨A', n', c', hv, hle⟩ := hc
    injection hv with e1 e2 e3
    omega
  obtain ⟨c0, c1, f0, f1⟩ := hx.two
  cases hcan : PlainBits.can bs.length 4 with
  | false =>
    rw [hcan] at htk
    have hbad : PS.rbad bs bad = true := by
      simp [PlainBits.can, PlainBits.wide] at hcan
      simp [PS.rbad]
      omega
    have hz : PS.rz bs bad = 0 := by rw [PS.rz, if_pos hbad]
    have hre : PS.rest bs bad = bs := by rw [PS.rest, if_pos hbad]
    rw [hz, hre, hbad]
    have hx' := hx.set 1 (.bool true)
    have hx'' : Bx (w.setCell ⟨r, 1, none⟩ (.bool true)) r 57 #[.slice A bs.length c, .bool true] := hx'
    obtain ⟨_, d1, _, _⟩ := hx''.two
    have HD : Rd wb (w.setCell ⟨r, 1, none⟩ (.bool true)) r bs true := ⟨_, hx'', ht, hc⟩
    have hb' := hb.setCell (p := ⟨r, 1, none⟩) hr (.bool true)
    have hbut := But.set r 1 w (.bool true)
    have HH := Lib.hid HD
    obtain ⟨L, hL⟩ : ∃ L, bs.length = L := ⟨_, rfl⟩
    obtain ⟨K, hK⟩ : ∃ K, PlainBits.takeN bs 4 = K := ⟨_, rfl⟩
    rw [hL] at htk c0
    rw [hK] at htk
    clear hcan hbad hz hre hx' hx'' HD hx ht hc hb hnc hL hK
    go_enter Try.func25, Try.ntmps25
    go_wp2_with fail
    refine htk.mono ?_
    rintro e w1 ⟨rfl, rfl⟩
    go_wp2
    go_ret
    exact ⟨rfl, HH.out, hb', hbut⟩
  | true =>
    rw [hcan] at htk
    have hl4 : 4 ≤ bs.length := by simp [PlainBits.can, PlainBits.wide] at hcan; omega
    cases bad with
    | true =>
      rw [PS.rz, PS.rest, PS.rbad_bad, if_pos rfl, if_pos rfl]
      have HD : Rd wb w r bs true := ⟨_, hx, ht, hc⟩
      have HH := Lib.hid HD
      obtain ⟨L, hL⟩ : ∃ L, bs.length = L := ⟨_, rfl⟩
      obtain ⟨K, hK⟩ : ∃ K, PlainBits.takeN bs 4 = K := ⟨_, rfl⟩
      rw [hL] at htk c0
      rw [hK] at htk
      have hbut := But.refl r w
      clear hcan HD hx ht hc hnc hL hK hl4
      go_enter Try.func25, Try.ntmps25
      go_wp2_with fail
      refine htk.mono ?_
      rintro e w1 ⟨rfl, rfl⟩
      go_wp2
      go_ret
      exact ⟨rfl, HH.out, hb, hbut⟩
    | false =>
      obtain ⟨hz, hre, hbad⟩ := PS.rd_ok hl4
      rw [hz, hre, hbad]
      have hval : PlainBits.takeN bs 4 = PlainBits.dec (bs.take 4) := by rw [PlainBits.takeN, if_pos hcan]; rfl
      rw [hval] at htk
      obtain ⟨u, hcu, hrun, hu⟩ := sub_l (A := A) (c := c) (p := 4) (bs := bs) rfl hl4 hnc
      rw [show (((4 : Nat) : Int)) = 4 from rfl] at hrun
      obtain ⟨A4, c4, rfl⟩ := (hu _ ht).form
      obtain ⟨L4, hL4⟩ : ∃ L, (bs.drop 4).length = L := ⟨_, rfl⟩
      have hu4 := hu _ ht
      rw [hL4] at hrun hcu hu4
      have hr4 := hrun w
      have hx' := hx.set 0 (.slice A4 L4 c4)
      have HD : Rd wb (w.setCell ⟨r, 0, none⟩ (.slice A4 L4 c4)) r (bs.drop 4) false := ⟨_, hx', hu4, hcu⟩
      have hb' := hb.setCell (p := ⟨r, 0, none⟩) hr (.slice A4 L4 c4)
      have hbut := But.set r 0 w (.slice A4 L4 c4)
      have HH := Lib.hid HD
      obtain ⟨L, hL⟩ : ∃ L, bs.length = L := ⟨_, rfl⟩
      obtain ⟨K, hK⟩ : ∃ K, PlainBits.dec (bs.take 4) = K := ⟨_, rfl⟩
      rw [hL] at htk c0 hr4
      rw [hK] at htk ⊢
      clear hcan hbad hz hre hx' HD hx ht hc hb hnc hL hK hu hu4 hL4 hrun hcu hval hl4
      go_enter Try.func25, Try.ntmps25
      go_wp2_with fail
      refine htk.mono ?_
      rintro e w1 ⟨rfl, rfl⟩
      go_wp2
      go_ret
      exact ⟨rfl, HH.out, hb', hbut⟩
end Go.Proofs.Ytcojpbckeebohaa
