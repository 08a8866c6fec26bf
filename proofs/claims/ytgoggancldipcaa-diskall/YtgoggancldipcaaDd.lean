/-
  The plain disk (P1.1, P1.2), and what it is for a value to read as one.
-/
import Derived.Test.YtgoggancldipcaaSh
namespace Go.Proofs.Ytgoggancldipcaa
open Go.RowKit

/-- Block g is just the cells cs of type t, none of them frozen. -/
def Bx (w : World) (g : Nat) (t : TypeId) (cs : Array Value) : Prop := w.heap[g]? = some (.cells cs t (0, 0))
theorem Bx.lt {w : World} {g : Nat} {t : TypeId} {cs : Array Value} (h : Bx w g t cs) : g < w.heap.size := by
  unfold Bx at h
  rcases Nat.lt_or_ge g w.heap.size with hl | hl
  · exact hl
  · rw [Array.getElem?_eq_none hl] at h; cases h
theorem Bx.below {w w' : World} {g : Nat} {t : TypeId} {cs : Array Value} {B : Nat} (h : Bx w g t cs) (hb : Below B w w') (hg : g < B) : Bx w' g t cs := (hb.block g hg).trans h
theorem Bx.new (w : World) (t : TypeId) (cs : Array Value) : Bx (w.alloc (.cells cs t)) w.heap.size t cs := heap_alloc_new w _
theorem Bx.alloc {w : World} {g : Nat} {t : TypeId} {cs : Array Value} (h : Bx w g t cs) (o : Obj) : Bx (w.alloc o) g t cs := (Below.heap_alloc w o g h.lt).trans h
theorem Bx.set {w : World} {g : Nat} {t : TypeId} {cs : Array Value} (h : Bx w g t cs) (i : Nat) (u : Value) : Bx (w.setCell ⟨g, i, none⟩ u) g t (cs.setIfInBounds i u) := by
  unfold Bx at h ⊢
  simp [World.setCell, Array.getElem?_modify, h]
theorem Bx.far {w : World} {g : Nat} {t : TypeId} {cs : Array Value} (h : Bx w g t cs) {p : Addr} (hp : g ≠ p.block) (u : Value) : Bx (w.setCell p u) g t cs := (Below.heap_setCell w p u g hp).trans h
theorem Bx.cell {w : World} {g : Nat} {t : TypeId} {cs : Array Value} (h : Bx w g t cs) (i : Nat) : w.cell? ⟨g, i, none⟩ = cs[i]? := by
  unfold Bx at h
  simp [World.cell?, h]
theorem Bx.frozen {w : World} {g : Nat} {t : TypeId} {cs : Array Value} (h : Bx w g t cs) (i : Nat) : w.frozen? ⟨g, i, none⟩ = false := by
  unfold Bx at h
  simp [World.frozen?, h]
/-- A block of four cells: all that a walk asks of it. -/
theorem Bx.four {w : World} {g : Nat} {t : TypeId} {a b c d : Value} (h : Bx w g t #[a, b, c, d]) :
    w.cell? ⟨g, 0, none⟩ = some a ∧ w.cell? ⟨g, 1, none⟩ = some b ∧ w.cell? ⟨g, 2, none⟩ = some c ∧ w.cell? ⟨g, 3, none⟩ = some d ∧
    w.frozen? ⟨g, 0, none⟩ = false ∧ w.frozen? ⟨g, 1, none⟩ = false ∧ w.frozen? ⟨g, 2, none⟩ = false ∧ w.frozen? ⟨g, 3, none⟩ = false :=
  ⟨h.cell 0, h.cell 1, h.cell 2, h.cell 3, h.frozen 0, h.frozen 1, h.frozen 2, h.frozen 3⟩

/-- A struct of four cells is stored. -/
theorem own_set4 {w : World} {base : Nat} {e : TypeId} {size : Nat} {v : Value} {n : Nat} {xs : List Value} (h : w.ownsRow base e size v n xs) {g : Nat} (hg : g < base) (a b c d : Value) :
    ((((w.setCell ⟨g, 0, none⟩ a).setCell ⟨g, 1, none⟩ b).setCell ⟨g, 2, none⟩ c).setCell ⟨g, 3, none⟩ d).ownsRow base e size v n xs :=
  ownsRow_setCell_below (ownsRow_setCell_below (ownsRow_setCell_below (ownsRow_setCell_below h hg a) hg b) hg c) hg d
theorem below_set4 {w0 w : World} {B : Nat} (h : Below B w0 w) {g : Nat} (hg : B ≤ g) (a b c d : Value) :
    Below B w0 ((((w.setCell ⟨g, 0, none⟩ a).setCell ⟨g, 1, none⟩ b).setCell ⟨g, 2, none⟩ c).setCell ⟨g, 3, none⟩ d) :=
  (((h.setCell (p := ⟨g, 0, none⟩) hg a).setCell (p := ⟨g, 1, none⟩) hg b).setCell (p := ⟨g, 2, none⟩) hg c).setCell (p := ⟨g, 3, none⟩) hg d

structure D where
  last : List ByteArray
  wait : List (Int × ByteArray)
  arm : Int
  down : Bool

def putCells (p : Int × ByteArray) : List Value := [.int .i64 p.1, .string p.2]
def waitCells (l : List (Int × ByteArray)) : List Value := l.flatMap putCells

/-- As 'Sl', and the block is one of cells of type e. -/
def TS (w : World) (e : TypeId) (size : Nat) (v : Value) (n : Nat) (xs : List Value) : Prop :=
  Sl w size v n xs ∧ (0 < n → ∃ g cur fr, v.ownBlock = some g ∧ w.heap[g]? = some (.cells cur e fr))

theorem TS.below {w w' : World} {e : TypeId} {size : Nat} {v : Value} {n : Nat} {xs : List Value} (h : TS w e size v n xs) (hb : Below w.heap.size w w') : TS w' e size v n xs := by
  refine ⟨h.1.below hb, fun hn => ?_⟩
  obtain ⟨g, cur, fr, hv, hh⟩ := h.2 hn
  refine ⟨g, cur, fr, hv, ?_⟩
  rw [hb.block g ?_]
  · exact hh
  · rcases Nat.lt_or_ge g w.heap.size with hl | hl
    · exact hl
    · rw [Array.getElem?_eq_none hl] at hh; cases hh
theorem TS.own {w : World} {base : Nat} {e : TypeId} {size : Nat} {v : Value} {n : Nat} {xs : List Value} (h : w.ownsRow base e size v n xs) : TS w e size v n xs := by
  refine ⟨Sl.own h, fun hn => ?_⟩
  rcases h.2 with ⟨_, h0⟩ | ⟨g, cap, cur, rfl, _, hh, _⟩
  · omega
  · exact ⟨g, cur, _, rfl, hh⟩
theorem TS.nil (w : World) (e : TypeId) (size : Nat) : TS w e size (.slice none 0 0) 0 [] := ⟨⟨none, 0, rfl, by simp, fun h => absurd h (by omega)⟩, fun h => absurd h (by omega)⟩
theorem TS.drew {w : World} {e : TypeId} {size : Nat} {v : Value} {n : Nat} {xs : List Value} (h : TS w e size v n xs) : TS w.drew e size v n xs := h
/-- A store into a block of another type. -/
theorem TS.far {w : World} {e t : TypeId} {size : Nat} {v : Value} {n : Nat} {xs : List Value} {g : Nat} {cs : Array Value} (h : TS w e size v n xs) (hx : Bx w g t cs) (hne : e ≠ t) (i : Nat) (u : Value) : TS (w.setCell ⟨g, i, none⟩ u) e size v n xs := by
  obtain ⟨⟨A, c, rfl, hl, h1⟩, h2⟩ := h
  refine ⟨⟨A, c, rfl, hl, fun hn => ?_⟩, fun hn => ?_⟩
  · obtain ⟨b, o, rfl, hb, hc⟩ := h1 hn
    obtain ⟨g', cur, fr, hv, hh⟩ := h2 hn
    have hbg : b = g' := by simpa [Value.ownBlock] using hv
    subst hbg
    have hbn : b ≠ g := by
      rintro rfl
      unfold Bx at hx
      rw [hh] at hx
      injection hx with hx
      injection hx with _ ht
      exact hne ht
    refine ⟨b, o, rfl, by simpa using hb, fun j hj => ?_⟩
    rw [← hc j hj]
    exact World.cell?_of_block (Below.heap_setCell w ⟨g, i, none⟩ u b hbn)
  · obtain ⟨g', cur, fr, hv, hh⟩ := h2 hn
    have hbn : g' ≠ g := by
      rintro rfl
      unfold Bx at hx
      rw [hh] at hx
      injection hx with hx
      injection hx with _ ht
      exact hne ht
    exact ⟨g', cur, fr, hv, (Below.heap_setCell w ⟨g, i, none⟩ u g' hbn).trans hh⟩

/-- The value v is the disk d, in the world w. -/
def IsD (w : World) (v : Value) (d : D) : Prop :=
  ∃ v0 v1, v = .agg #[v0, v1, .int .i64 d.arm, .bool d.down] ∧ TS w 9 1 v0 d.last.length (d.last.map Value.string) ∧ TS w 56 2 v1 d.wait.length (waitCells d.wait)

theorem IsD.below {w w' : World} {v : Value} {d : D} (h : IsD w v d) (hb : Below w.heap.size w w') : IsD w' v d := by
  obtain ⟨v0, v1, rfl, h0, h1⟩ := h
  exact ⟨v0, v1, rfl, h0.below hb, h1.below hb⟩
theorem IsD.drew {w : World} {v : Value} {d : D} (h : IsD w v d) : IsD w.drew v d := h
theorem IsD.alloc {w : World} {v : Value} {d : D} (h : IsD w v d) (o : Obj) : IsD (w.alloc o) v d := h.below ((Below.refl _ _).alloc (Nat.le_refl _) _)
/-- A store into a box. -/
theorem IsD.far {w : World} {v : Value} {d : D} (h : IsD w v d) {g : Nat} {cs : Array Value} (hx : Bx w g 28 cs) (i : Nat) (u : Value) : IsD (w.setCell ⟨g, i, none⟩ u) v d := by
  obtain ⟨v0, v1, rfl, h0, h1⟩ := h
  exact ⟨v0, v1, rfl, h0.far hx (by decide) i u, h1.far hx (by decide) i u⟩
theorem IsD.far4 {w : World} {v : Value} {d : D} (h : IsD w v d) {g : Nat} {cs : Array Value} (hx : Bx w g 28 cs) (a b c e : Value) : IsD ((((w.setCell ⟨g, 0, none⟩ a).setCell ⟨g, 1, none⟩ b).setCell ⟨g, 2, none⟩ c).setCell ⟨g, 3, none⟩ e) v d :=
  (((h.far hx 0 a).far (hx.set 0 a) 1 b).far ((hx.set 0 a).set 1 b) 2 c).far (((hx.set 0 a).set 1 b).set 2 c) 3 e

theorem waitCells_length (l : List (Int × ByteArray)) : (waitCells l).length = l.length * 2 := by
  unfold waitCells
  induction l with
  | nil => rfl
  | cons p l ih => simp [putCells, ih]; omega

theorem waitCells_append (a b : List (Int × ByteArray)) : waitCells (a ++ b) = waitCells a ++ waitCells b := by simp [waitCells]

theorem waitCells_at (l : List (Int × ByteArray)) (k : Nat) (p : Int × ByteArray) (h : l[k]? = some p) : (waitCells l)[k * 2]? = some (.int .i64 p.1) ∧ (waitCells l)[k * 2 + 1]? = some (.string p.2) := by
  induction l generalizing k with
  | nil => simp at h
  | cons q l ih =>
    cases k with
    | zero =>
      simp at h
      subst h
      exact ⟨rfl, rfl⟩
    | succ k =>
      have := ih k (by simpa using h)
      have e : waitCells (q :: l) = .int .i64 q.1 :: .string q.2 :: waitCells l := by simp [waitCells, putCells]
      rw [e, show (k + 1) * 2 = k * 2 + 1 + 1 by omega]
      exact ⟨this.1, this.2⟩

theorem waitCells_one (l : List (Int × ByteArray)) : ∀ u ∈ waitCells l, u.oneCell' = true := by
  intro u hu
  unfold waitCells at hu
  obtain ⟨p, _, hp⟩ := List.mem_flatMap.1 hu
  simp [putCells] at hp
  rcases hp with rfl | rfl <;> rfl

theorem strs_one (l : List ByteArray) : ∀ u ∈ l.map Value.string, u.oneCell' = true := by
  intro u hu
  obtain ⟨s, _, rfl⟩ := List.mem_map.1 hu
  rfl

namespace M
def empty : D := ⟨[], [], 0, false⟩
def new (n : Int) : D := if n < 1 ∨ 770 < n then empty else ⟨List.replicate n.toNat blank, [], 0, false⟩
def put (l : List ByteArray) (p : Int × ByteArray) : List ByteArray := if hasB l.length p.1 then l.set p.1.toNat p.2 else l
def lasting (l : List ByteArray) (ps : List (Int × ByteArray)) : List ByteArray := ps.foldl put l
def kept : List (Int × ByteArray) → List Bool → List (Int × ByteArray)
  | p :: ps, k :: ks => if k then p :: kept ps ks else kept ps ks
  | _, _ => []
def waits : List (Int × ByteArray) → Int → Option ByteArray
  | [], _ => none
  | p :: ps, i => match waits ps i with
    | some b => some b
    | none => if p.1 = i then some p.2 else none
def can (d : D) (i : Int) : Bool := !d.down && hasB d.last.length i
def get (d : D) (i : Int) : ByteArray := (waits d.wait i).getD (d.last.getD i.toNat ByteArray.empty)
def read (d : D) (i : Int) : ByteArray × Bool := if can d i then (get d i, true) else (ByteArray.empty, false)
def pushed (d : D) (i : Int) (b : ByteArray) : D := ⟨d.last, d.wait ++ [(i, b)], if 0 < d.arm then d.arm - 1 else d.arm, if 0 < d.arm then d.arm - 1 == 0 else d.down⟩
def write (d : D) (i : Int) (b : ByteArray) : D × Bool := if can d i && b.size == 64 then (pushed d i b, !(pushed d i b).down) else (d, false)
def flush (d : D) : D × Bool := if d.down then (d, false) else (⟨lasting d.last d.wait, [], d.arm, false⟩, true)
def crash (d : D) (keep : List Bool) : D := ⟨lasting d.last (kept d.wait keep), [], 0, false⟩

theorem put_length (l : List ByteArray) (p : Int × ByteArray) : (put l p).length = l.length := by unfold put; split <;> simp
theorem lasting_length (l : List ByteArray) (ps : List (Int × ByteArray)) : (lasting l ps).length = l.length := by
  unfold lasting
  induction ps generalizing l with
  | nil => rfl
  | cons p ps ih => rw [List.foldl_cons, ih, put_length]
theorem lasting_snoc (l : List ByteArray) (ps : List (Int × ByteArray)) (p : Int × ByteArray) : lasting l (ps ++ [p]) = put (lasting l ps) p := by simp [lasting]
theorem kept_length (ps : List (Int × ByteArray)) (ks : List Bool) : (kept ps ks).length ≤ ps.length := by
  induction ps generalizing ks with
  | nil => simp [kept]
  | cons p ps ih =>
    cases ks with
    | nil => simp [kept]
    | cons k ks =>
      have := ih ks
      unfold kept
      split <;> simp <;> omega
end M

end Go.Proofs.Ytgoggancldipcaa
