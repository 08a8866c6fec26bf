/-
  Contract: Picks.Edit, as far as what stands goes.
-/
import Derived.Test.YtdnobplhfbgbaaaGreatDoorUm
namespace Go.Proofs.YtdnobplhfbgbaaaGreatDoor
open Go.RowKit Go.Joins

theorem Bx.same {w : World} {g : Nat} {t : TypeId} {cs cs' : Array Value} (h : Bx w g t cs) (h' : Bx w g t cs') : cs = cs' := by
  unfold Bx at h h'
  rw [h] at h'
  injection h' with h'
  injection h'
theorem Bx.type_ne {w : World} {g g' : Nat} {t t' : TypeId} {cs cs' : Array Value} (h : Bx w g t cs) (h' : Bx w g' t' cs') (hne : t ≠ t') : g ≠ g' := by
  intro e
  subst e
  unfold Bx at h h'
  rw [h] at h'
  injection h' with h'
  injection h' with _ h'
  exact hne h'
/-- A step's cells. -/
def sc (kd md off : Int) (p tw tx : ByteArray) : Array Value := #[.int .i64 kd, .int .i64 0, .int .i64 0, .int .i64 md, .int .i64 off, .string p, .string tw, .string tx, .slice none 0 0]
theorem Bx.step {w : World} {b : Nat} {kd md off : Int} {p tw tx : ByteArray} (h : Bx w b 52 (sc kd md off p tw tx)) : (w.cell? ⟨b, 0, none⟩ = some (.int .i64 kd) ∧ w.cell? ⟨b, 1, none⟩ = some (.int .i64 0) ∧ w.cell? ⟨b, 2, none⟩ = some (.int .i64 0) ∧ w.cell? ⟨b, 3, none⟩ = some (.int .i64 md) ∧ w.cell? ⟨b, 4, none⟩ = some (.int .i64 off) ∧ w.cell? ⟨b, 5, none⟩ = some (.string p) ∧ w.cell? ⟨b, 6, none⟩ = some (.string tw) ∧ w.cell? ⟨b, 7, none⟩ = some (.string tx) ∧ w.cell? ⟨b, 8, none⟩ = some (.slice none 0 0)) ∧ ∀ i, w.frozen? ⟨b, i, none⟩ = false :=
  ⟨⟨h.cell 0, h.cell 1, h.cell 2, h.cell 3, h.cell 4, h.cell 5, h.cell 6, h.cell 7, h.cell 8⟩, h.frozen⟩
/-- Nine stores: a step laid into its box. -/
def put9 (w : World) (b : Nat) (kd md off : Int) (p tw tx : ByteArray) : World := ((((((((w.setCell ⟨b, 0, none⟩ (.int .i64 kd)).setCell ⟨b, 1, none⟩ (.int .i64 0)).setCell ⟨b, 2, none⟩ (.int .i64 0)).setCell ⟨b, 3, none⟩ (.int .i64 md)).setCell ⟨b, 4, none⟩ (.int .i64 off)).setCell ⟨b, 5, none⟩ (.string p)).setCell ⟨b, 6, none⟩ (.string tw)).setCell ⟨b, 7, none⟩ (.string tx)).setCell ⟨b, 8, none⟩ (.slice none 0 0)
theorem Bx.put9 {w : World} {b : Nat} {kd0 md0 off0 : Int} {p0 tw0 tx0 : ByteArray} (h : Bx w b 52 (sc kd0 md0 off0 p0 tw0 tx0)) (kd md off : Int) (p tw tx : ByteArray) : Bx (put9 w b kd md off p tw tx) b 52 (sc kd md off p tw tx) := by
  have h9 := ((((((((h.set 0 (.int .i64 kd)).set 1 (.int .i64 0)).set 2 (.int .i64 0)).set 3 (.int .i64 md)).set 4 (.int .i64 off)).set 5 (.string p)).set 6 (.string tw)).set 7 (.string tx)).set 8 (.slice none 0 0)
  have e : (((((((((sc kd0 md0 off0 p0 tw0 tx0).setIfInBounds 0 (.int .i64 kd)).setIfInBounds 1 (.int .i64 0)).setIfInBounds 2 (.int .i64 0)).setIfInBounds 3 (.int .i64 md)).setIfInBounds 4 (.int .i64 off)).setIfInBounds 5 (.string p)).setIfInBounds 6 (.string tw)).setIfInBounds 7 (.string tx)).setIfInBounds 8 (.slice none 0 0) = sc kd md off p tw tx := by simp [sc]
  rw [e] at h9
  exact h9
theorem put9_below {B : Nat} {w0 w : World} {b : Nat} (h : Below B w0 w) (hb : B ≤ b) (kd md off : Int) (p tw tx : ByteArray) : Below B w0 (put9 w b kd md off p tw tx) :=
  ((((((((h.setCell (p := ⟨b, 0, none⟩) hb _).setCell (p := ⟨b, 1, none⟩) hb _).setCell (p := ⟨b, 2, none⟩) hb _).setCell (p := ⟨b, 3, none⟩) hb _).setCell (p := ⟨b, 4, none⟩) hb _).setCell (p := ⟨b, 5, none⟩) hb _).setCell (p := ⟨b, 6, none⟩) hb _).setCell (p := ⟨b, 7, none⟩) hb _).setCell (p := ⟨b, 8, none⟩) hb _
theorem put9_far {w : World} {b k : Nat} {t : TypeId} {cs : Array Value} (h : Bx w k t cs) (hk : k ≠ b) (kd md off : Int) (p tw tx : ByteArray) : Bx (put9 w b kd md off p tw tx) k t cs :=
  ((((((((h.far (p := ⟨b, 0, none⟩) hk _).far (p := ⟨b, 1, none⟩) hk _).far (p := ⟨b, 2, none⟩) hk _).far (p := ⟨b, 3, none⟩) hk _).far (p := ⟨b, 4, none⟩) hk _).far (p := ⟨b, 5, none⟩) hk _).far (p := ⟨b, 6, none⟩) hk _).far (p := ⟨b, 7, none⟩) hk _).far (p := ⟨b, 8, none⟩) hk _

section
variable (w0 : World) (A : Option Addr) (n c g : Nat) (w1 : World)
/-- What stands in the first region, by what is done. -/
def ES (done : Nat → Bool) (a : Act) (W : World) : Prop := a.tmps.size = 57 ∧ Pw w0 A n c g W ∧ Nx g w1 W ∧ (done 8 = true → ∃ b, slotV a (some 3) = .pointer (some ⟨b, 0, none⟩) ∧ w1.heap.size ≤ b ∧ (done 9 = false → Bx W b 52 (sc 0 0 0 { data := #[] } { data := #[] } { data := #[] })) ∧ (done 9 = true → ∃ (kd : Int) (p : ByteArray), Bx W b 52 (sc kd 0 0 p { data := #[] } { data := #[] }) ∧ 1 ≤ kd ∧ kd ≤ 7 ∧ p.size ≤ 8))
end
theorem ES.step {w0 : World} {A : Option Addr} {n c g : Nat} {w1 : World} {done : Nat → Bool} {a : Act} {W W' : World} (h : ES w0 A n c g w1 done a W) (hg : g < w1.heap.size) (hP : Pw w0 A n c g W') (hN : Nx g W W') {i d : Nat} (h8 : i ≠ 8) (h9 : i ≠ 9) (hd : d ≠ 3) (v : Value) : ES w0 A n c g w1 (fun j => done j || j == i) (a.put (some d) v) W' := by
  obtain ⟨hs, _, hn, hb⟩ := h
  have e8 : (8 == i) = false := by simp; omega
  have e9 : (9 == i) = false := by simp; omega
  refine ⟨by rw [act_size]; exact hs, hP, hn.trans hN, fun hdn => ?_⟩
  simp only [e8, Bool.or_false] at hdn
  obtain ⟨b, h1, h2, h3, h4⟩ := hb hdn
  refine ⟨b, by rw [slot_put hd]; exact h1, h2, fun e => ?_, fun e => ?_⟩
  · simp only [e9, Bool.or_false] at e
    exact (h3 e).nx hN (by omega)
  · simp only [e9, Bool.or_false] at e
    obtain ⟨kd, p, h5, h6⟩ := h4 e
    exact ⟨kd, p, h5.nx hN (by omega), h6⟩
theorem ES.made {w0 : World} {A : Option Addr} {n c g : Nat} {w1 : World} {done : Nat → Bool} {a : Act} {W : World} (h : ES w0 A n c g w1 done a W) (h9 : done 9 = false) : ES w0 A n c g w1 (fun j => done j || j == 8) (a.put (some 3) (.pointer (some ⟨W.heap.size, 0, none⟩))) (W.alloc (.cells (sc 0 0 0 { data := #[] } { data := #[] } { data := #[] }) 52)) := by
  obtain ⟨hs, hP, hn, _⟩ := h
  refine ⟨by rw [act_size]; exact hs, hP.on (al _ _) hP.lt, hn.trans (Nx.of (al _ _)), fun _ => ?_⟩
  refine ⟨W.heap.size, act_get (by rw [hs]; decide), hn.1, fun _ => Bx.new W 52 _, fun e => ?_⟩
  simp [h9] at e
theorem ES.laid {w0 : World} {A : Option Addr} {n c g : Nat} {w1 : World} {done : Nat → Bool} {a : Act} {W : World} {b : Nat} {kd : Int} {p : ByteArray} (h : ES w0 A n c g w1 done a W) (hg : g < w1.heap.size) (_ : w0.heap.size ≤ w1.heap.size) (h8 : done 8 = true) (h9 : done 9 = false) (hb : slotV a (some 3) = .pointer (some ⟨b, 0, none⟩)) (hk : 1 ≤ kd ∧ kd ≤ 7) (hp : p.size ≤ 8) (v : Value) : ES w0 A n c g w1 (fun j => done j || j == 9) (a.put none v) (put9 W b kd 0 0 p { data := #[] } { data := #[] }) := by
  obtain ⟨hs, ⟨hP1, hP2, ix, hP3, hP4⟩, hn, h0⟩ := h
  obtain ⟨b', e, hb1, h3, _⟩ := h0 h8
  rw [hb] at e
  injection e with e
  injection e with e
  injection e with e1 e2
  subst e1
  have hB := h3 h9
  refine ⟨hs, ⟨put9_below hP1 (by omega) _ _ _ _ _ _, hP2, ix, hP3, put9_far hP4 (by omega) _ _ _ _ _ _⟩, ⟨?_, fun k hk hne => ?_⟩, fun _ => ⟨b, hb, hb1, fun e => ?_, fun _ => ⟨kd, p, Bx.put9 hB kd 0 0 p _ _, hk.1, hk.2, hp⟩⟩⟩
  · have := (put9_below (Below.refl 0 W) (Nat.zero_le b) kd 0 0 p { data := #[] } { data := #[] }).size
    exact Nat.le_trans hn.1 (by simp [put9])
  · have h1 := hn.2 k hk hne
    have h2 := (put9_below (B := w1.heap.size) (Below.refl _ W) hb1 kd 0 0 p { data := #[] } { data := #[] }).block k hk
    exact h2.trans h1
  · simp at e
/-- What holds of an operation of the first region. -/
def ER (g s1 : Nat) (i : Nat) (v : Value) (W : World) : Prop := match i with
  | 0 => ∃ b, v = .slice (some ⟨b, 0, none⟩) 12 12 ∧ s1 ≤ b ∧ Bx W b 3 #[.int .i64 1, .int .i64 1, .int .i64 1, .int .i64 2, .int .i64 3, .int .i64 4, .int .i64 4, .int .i64 5, .int .i64 5, .int .i64 6, .int .i64 7, .int .i64 1]
  | 1 => v = .pointer (some ⟨g, 0, none⟩)
  | 2 => ∃ r : Nat, v = .int .i64 (r : Int) ∧ r < 12
  | 3 => ∃ b r : Nat, v = .pointer (some ⟨b, r, none⟩) ∧ r < 12 ∧ s1 ≤ b ∧ Bx W b 3 #[.int .i64 1, .int .i64 1, .int .i64 1, .int .i64 2, .int .i64 3, .int .i64 4, .int .i64 4, .int .i64 5, .int .i64 5, .int .i64 6, .int .i64 7, .int .i64 1]
  | 4 => ∃ kd : Int, v = .int .i64 kd ∧ 1 ≤ kd ∧ kd ≤ 7
  | 5 => v = .pointer (some ⟨g, 0, none⟩)
  | 6 => ∃ p : ByteArray, v = .string p ∧ p.size ≤ 8
  | 7 => ∃ (kd : Int) (p : ByteArray), v = .agg (sc kd 0 0 p { data := #[] } { data := #[] }) ∧ 1 ≤ kd ∧ kd ≤ 7 ∧ p.size ≤ 8
  | 8 => ∃ b : Nat, v = .pointer (some ⟨b, 0, none⟩)
  | _ => True
theorem ER.nx {g s1 : Nat} {W W' : World} (hg : g < s1) (hN : Nx g W W') : ∀ j v, ER g s1 j v W → ER g s1 j v W' := by
  intro j v h
  rcases j with _ | _ | _ | _ | _ | _ | _ | _ | _ | j
  · obtain ⟨b, h1, h2, h3⟩ := h
    exact ⟨b, h1, h2, h3.nx hN (by omega)⟩
  · exact h
  · exact h
  · obtain ⟨b, r, h1, h2, h3, h4⟩ := h
    exact ⟨b, r, h1, h2, h3, h4.nx hN (by omega)⟩
  · exact h
  · exact h
  · exact h
  · exact h
  · exact h
  · trivial
theorem ER.by {g s1 : Nat} {W W' : World} (h0 : ∀ k cs, Bx W k 3 cs → Bx W' k 3 cs) : ∀ j v, ER g s1 j v W → ER g s1 j v W' := by
  intro j v h
  rcases j with _ | _ | _ | _ | _ | _ | _ | _ | _ | j
  · obtain ⟨b, h1, h2, h3⟩ := h
    exact ⟨b, h1, h2, h0 _ _ h3⟩
  · exact h
  · exact h
  · obtain ⟨b, r, h1, h2, h3, h4⟩ := h
    exact ⟨b, r, h1, h2, h3, h0 _ _ h4⟩
  · exact h
  · exact h
  · exact h
  · exact h
  · exact h
  · trivial
theorem row1_at {r : Nat} (h : r < 12) : ∃ kd : Int, (#[.int .i64 1, .int .i64 1, .int .i64 1, .int .i64 2, .int .i64 3, .int .i64 4, .int .i64 4, .int .i64 5, .int .i64 5, .int .i64 6, .int .i64 7, .int .i64 1] : Array Value)[r]? = some (.int .i64 kd) ∧ 1 ≤ kd ∧ kd ≤ 7 := by
  rcases r with _ | _ | _ | _ | _ | _ | _ | _ | _ | _ | _ | _ | r
  all_goals first | omega | exact ⟨_, rfl, by decide, by decide⟩


theorem row6_at {r : Nat} (h : r < 8) : ∃ z : Int, (#[.int .i64 0, .int .i64 1, .int .i64 40, .int .i64 41, .int .i64 120, .int .i64 121, .int .i64 3, .int .i64 80] : Array Value)[r]? = some (.int .i64 z) ∧ 0 ≤ z ∧ z ≤ 130 := by
  rcases r with _ | _ | _ | _ | _ | _ | _ | _ | r
  all_goals first | omega | exact ⟨_, rfl, by decide, by decide⟩
theorem row5_at {r : Nat} (h : r < 8) : ∃ z : Int, (#[.int .i64 0, .int .i64 0, .int .i64 1, .int .i64 39, .int .i64 40, .int .i64 100, .int .i64 120, .int .i64 130] : Array Value)[r]? = some (.int .i64 z) ∧ 0 ≤ z ∧ z ≤ 130 := by
  rcases r with _ | _ | _ | _ | _ | _ | _ | _ | r
  all_goals first | omega | exact ⟨_, rfl, by decide, by decide⟩
/-- What holds of an operation of the region of a write. -/
def EW (g b s1 : Nat) (i : Nat) (v : Value) (W : World) : Prop := match i with
  | 0 => ∃ k, v = .slice (some ⟨k, 0, none⟩) 8 8 ∧ s1 ≤ k ∧ Bx W k 3 #[.int .i64 0, .int .i64 0, .int .i64 1, .int .i64 39, .int .i64 40, .int .i64 100, .int .i64 120, .int .i64 130]
  | 1 => v = .pointer (some ⟨g, 0, none⟩)
  | 2 => ∃ r : Nat, v = .int .i64 (r : Int) ∧ r < 8
  | 3 => ∃ k r : Nat, v = .pointer (some ⟨k, r, none⟩) ∧ r < 8 ∧ s1 ≤ k ∧ Bx W k 3 #[.int .i64 0, .int .i64 0, .int .i64 1, .int .i64 39, .int .i64 40, .int .i64 100, .int .i64 120, .int .i64 130]
  | 4 => ∃ z : Int, v = .int .i64 z ∧ 0 ≤ z ∧ z ≤ 130
  | 5 => v = .pointer (some ⟨g, 0, none⟩)
  | 6 => ∃ s : ByteArray, v = .string s ∧ s.size ≤ 121
  | 7 => v = .pointer (some ⟨b, 4, none⟩)
  | 8 => True
  | 9 => v = .pointer (some ⟨b, 7, none⟩)
  | _ => True
theorem EW.by {g b s1 : Nat} {W W' : World} (h0 : ∀ k, s1 ≤ k → Bx W k 3 #[.int .i64 0, .int .i64 0, .int .i64 1, .int .i64 39, .int .i64 40, .int .i64 100, .int .i64 120, .int .i64 130] → Bx W' k 3 #[.int .i64 0, .int .i64 0, .int .i64 1, .int .i64 39, .int .i64 40, .int .i64 100, .int .i64 120, .int .i64 130]) : ∀ j v, EW g b s1 j v W → EW g b s1 j v W' := by
  intro j v h
  rcases j with _ | _ | _ | _ | _ | _ | _ | _ | _ | _ | j
  · obtain ⟨k, h1, h2, h3⟩ := h
    exact ⟨k, h1, h2, h0 _ h2 h3⟩
  · exact h
  · exact h
  · obtain ⟨k, r, h1, h2, h3, h4⟩ := h
    exact ⟨k, r, h1, h2, h3, h0 _ h3 h4⟩
  · exact h
  · exact h
  · exact h
  · exact h
  · exact h
  · exact h
  · trivial
def EV (w0 : World) (A : Option Addr) (n c g : Nat) (w : World) (gx b : Nat) (p : ByteArray) (W : World) : Prop := Pw w0 A n c g W ∧ Nx g w W ∧ Bx W gx 52 (sc 0 0 0 { data := #[] } { data := #[] } { data := #[] }) ∧ ∃ (off : Int) (tx : ByteArray), Bx W b 52 (sc 5 0 off p { data := #[] } tx) ∧ 0 ≤ off ∧ off ≤ 130 ∧ tx.size ≤ 121
theorem EV.nx {w0 w W W' : World} {A : Option Addr} {n c g gx b : Nat} {p : ByteArray} (h : EV w0 A n c g w gx b p W) (hP : Pw w0 A n c g W') (hN : Nx g W W') (h1 : gx ≠ g) (h2 : b ≠ g) : EV w0 A n c g w gx b p W' := by
  obtain ⟨_, a2, a3, off, tx, a4, a5⟩ := h
  exact ⟨hP, a2.trans hN, a3.nx hN h1, off, tx, a4.nx hN h2, a5⟩
theorem Pw.put9 {w0 W : World} {A : Option Addr} {n c g b : Nat} (h : Pw w0 A n c g W) (hne : g ≠ b) (hb : w0.heap.size ≤ b) (kd md off : Int) (p tw tx : ByteArray) : Pw w0 A n c g (put9 W b kd md off p tw tx) := by
  obtain ⟨h1, h2, ix, h3, h4⟩ := h
  exact ⟨put9_below h1 hb _ _ _ _ _ _, h2, ix, h3, put9_far h4 hne _ _ _ _ _ _⟩
theorem Nx.put9 {w W : World} {g b : Nat} (h : Nx g w W) (hb : w.heap.size ≤ b) (kd md off : Int) (p tw tx : ByteArray) : Nx g w (put9 W b kd md off p tw tx) := by
  have h1 := put9_below (B := w.heap.size) (Below.refl _ W) hb kd md off p tw tx
  exact ⟨Nat.le_trans h.1 h1.size, fun k hk hne => (h1.block k hk).trans (h.2 k hk hne)⟩
theorem Pw.set {w0 W : World} {A : Option Addr} {n c g b : Nat} (h : Pw w0 A n c g W) (hne : g ≠ b) (hb : w0.heap.size ≤ b) (i : Nat) (u : Value) : Pw w0 A n c g (W.setCell ⟨b, i, none⟩ u) := by
  obtain ⟨h1, h2, ix, h3, h4⟩ := h
  exact ⟨h1.setCell (p := ⟨b, i, none⟩) hb u, h2, ix, h3, h4.far (p := ⟨b, i, none⟩) hne u⟩
theorem Nx.set {w W : World} {g b : Nat} (h : Nx g w W) (hb : w.heap.size ≤ b) (i : Nat) (u : Value) : Nx g w (W.setCell ⟨b, i, none⟩ u) := by
  have h1 := (Below.refl w.heap.size W).setCell (p := ⟨b, i, none⟩) hb u
  exact ⟨Nat.le_trans h.1 h1.size, fun k hk hne => (h1.block k hk).trans (h.2 k hk hne)⟩
theorem edit_out {w0 w W : World} {A : Option Addr} {n c g gx : Nat} (tmps : Array Value) {kd md off : Int} {p tw tx : ByteArray} (hx : Bx W gx 52 (sc kd md off p tw tx)) (ht : tmps[2]? = some (.pointer (some ⟨gx, 0, none⟩))) (h1 : I64 md) (h2 : I64 off) (h3 : p.size ≤ 65535) (h4 : tw.size ≤ 65535) (h5 : tx.size ≤ 1048576) (h6 : Pw w0 A n c g W) (h7 : Nx g w W) : bodyPost Tryz.prog Tryz.f35 (fun e w' => ∃ (kd md off : Int) (p tw tx : ByteArray), e = .returned (.agg (sc kd md off p tw tx)) ∧ I64 md ∧ I64 off ∧ p.size ≤ 65535 ∧ tw.size ≤ 65535 ∧ tx.size ≤ 1048576 ∧ Pw w0 A n c g w' ∧ Nx g w w') Exit.ret { tmps := tmps, defers := [] } W := by
  obtain ⟨⟨c0, c1, c2, c3, c4, c5, c6, c7, c8⟩, _⟩ := hx.step
  refine bodyPost_ret (v := .agg (sc kd md off p tw tx)) ?_ rfl ⟨kd, md, off, p, tw, tx, rfl, h1, h2, h3, h4, h5, h6, h7⟩
  simp [results, Tryz.results35, go_sem, ht, c0, c1, c2, c3, c4, c5, c6, c7, c8, sc]
set_option maxRecDepth 100000 in
set_option maxHeartbeats 8000000 in
theorem edit_try {w0 : World} {A : Option Addr} {n c g : Nat} {bs : List Nat} (hv : Tx w0 (.slice A n c) bs) (hn : bs.length = n) (w : World) (h : Pw w0 A n c g w) : Calls Tryz.prog 35 #[.pointer (some ⟨g, 0, none⟩)] w fun e w' => ∃ (kd md off : Int) (p tw tx : ByteArray), e = .returned (.agg (sc kd md off p tw tx)) ∧ I64 md ∧ I64 off ∧ p.size ≤ 65535 ∧ tw.size ≤ 65535 ∧ tx.size ≤ 1048576 ∧ Pw w0 A n c g w' ∧ Nx g w w' := by
  have hgl := h.lt
  have hb1 := al w (.cells (sc 0 0 0 { data := #[] } { data := #[] } { data := #[] }) 52)
  have hP1 := h.on hb1 hgl
  have hx1 := Bx.new w 52 (sc 0 0 0 { data := #[] } { data := #[] } { data := #[] })
  have hN1 := Nx.of (g := g) hb1
  have hz1 : (w.alloc (.cells (sc 0 0 0 { data := #[] } { data := #[] } { data := #[] }) 52)).heap.size = w.heap.size + 1 := by simp
  have hw01 := h.1.size
  clear h hb1
  go_enter Tryz.func35, Tryz.ntmps35
  go_upto_region 1 with fail
  rw [show (#[Value.int .i64 0, .int .i64 0, .int .i64 0, .int .i64 0, .int .i64 0, .string { data := #[] }, .string { data := #[] }, .string { data := #[] }, .slice none 0 0] : Array Value) = sc 0 0 0 { data := #[] } { data := #[] } { data := #[] } from rfl]
  generalize w.alloc (.cells (sc 0 0 0 { data := #[] } { data := #[] } { data := #[] }) 52) = w1 at *
  generalize hgx : w.heap.size = gx at *
  have hg1 : g < w1.heap.size := by omega
  have hw1 : w0.heap.size ≤ w1.heap.size := by omega
  refine wp_region_act2 Tryz.checked.mixed (by kernel_rfl) (fun done a W => ES w0 A n c g w1 done a W) (fun i v W => ER g w1.heap.size i v W) ?start ?each ?fin
  case start => exact ⟨rfl, hP1.on (Below.refl w1.heap.size w1).drew hg1, Nx.of (Below.refl _ _).drew, fun e => by cases e⟩
  case each =>
    intro i hi done a W hdn hcl hcl2 hold hp hW K hK
    rcases i with _ | _ | _ | _ | _ | _ | _ | _ | _ | i
    · simp [predsOf, Region.binds, slotV, ER] at hp
      refine wpOp_of rfl rfl ?_
      go_simp
      refine hK _ _ (by simp) (hW.step hg1 (hW.2.1.on (al _ _) hW.2.1.lt) (Nx.of (al _ _)) (by decide) (by decide) (by decide) _) (fun j v' _ => ER.nx hg1 (Nx.of (al _ _)) j v') ⟨W.heap.size, rfl, hW.2.2.1.1, Bx.new W 3 _⟩
    · have s := hold 0 rfl
      simp [predsOf, Region.binds, slotV, ER] at hp
      refine wpOp_of rfl rfl ?_
      simp at s
      go_simp
      exact hK _ _ (by simp) (hW.step hg1 hW.2.1 (Nx.of (Below.refl _ _)) (by decide) (by decide) (by decide) _) (fun j v' _ h => h) rfl
    · simp [predsOf, Region.binds, slotV, ER] at hp
      refine wpOp_of rfl rfl ?_
      have hr := numP hv hn 12 (by decide) (by decide) W hW.2.1
      go_simp
      refine hr.mono ?_
      rintro e W2 ⟨r, rfl, hr12, hP2, hN2⟩
      exact hK _ _ (by simp) (hW.step hg1 hP2 hN2 (by decide) (by decide) (by decide) _) (fun j v' _ => ER.nx hg1 hN2 j v') ⟨r, rfl, hr12⟩
    · simp [predsOf, Region.binds, slotV, ER] at hp
      refine wpOp_of rfl rfl ?_
      obtain ⟨⟨b, p1, p2, p3⟩, r, p4, p5⟩ := hp
      have h12 : (r : Int) < 12 := by omega
      go_simp
      exact hK _ _ (by simp) (hW.step hg1 hW.2.1 (Nx.of (Below.refl _ _)) (by decide) (by decide) (by decide) _) (fun j v' _ h => h) ⟨b, r, rfl, p5, p2, p3⟩
    · simp [predsOf, Region.binds, slotV, ER] at hp
      refine wpOp_of rfl rfl ?_
      obtain ⟨b, r, p1, p2, p3, p4⟩ := hp
      obtain ⟨kd, hkd, hk1, hk2⟩ := row1_at p2
      have hc := (p4.cell r).trans hkd
      go_simp
      exact hK _ _ (by simp) (hW.step hg1 hW.2.1 (Nx.of (Below.refl _ _)) (by decide) (by decide) (by decide) _) (fun j v' _ h => h) ⟨kd, rfl, hk1, hk2⟩
    · have s := hold 0 rfl
      simp [predsOf, Region.binds, slotV, ER] at hp
      refine wpOp_of rfl rfl ?_
      simp at s
      go_simp
      exact hK _ _ (by simp) (hW.step hg1 hW.2.1 (Nx.of (Below.refl _ _)) (by decide) (by decide) (by decide) _) (fun j v' _ h => h) rfl
    · simp [predsOf, Region.binds, slotV, ER] at hp
      refine wpOp_of rfl rfl ?_
      have hr := pathP hv hn W hW.2.1
      obtain ⟨p1, _⟩ := hp
      go_simp
      refine hr.mono ?_
      rintro e W2 ⟨s, rfl, hs8, hP2, hN2⟩
      exact hK _ _ (by simp) (hW.step hg1 hP2 hN2 (by decide) (by decide) (by decide) _) (fun j v' _ => ER.nx hg1 hN2 j v') ⟨s, rfl, hs8⟩
    · simp [predsOf, Region.binds, slotV, ER] at hp
      refine wpOp_of rfl rfl ?_
      obtain ⟨⟨kd, p1, p2, p3⟩, p, p4, p5⟩ := hp
      go_simp
      exact hK _ _ (by simp) (hW.step hg1 hW.2.1 (Nx.of (Below.refl _ _)) (by decide) (by decide) (by decide) _) (fun j v' _ h => h) ⟨kd, p, rfl, p2, p3, p5⟩
    · simp [predsOf, Region.binds, slotV, ER] at hp
      refine wpOp_of rfl rfl ?_
      have h9 : done 9 = false := by
        cases h : done 9 with
        | false => rfl
        | true =>
          have := hcl 9 _ rfl h { on := 8, ground := .data } (by simp) (by decide)
          rw [this] at hdn
          cases hdn
      go_simp
      exact hK _ _ (by simp) (hW.made h9) (fun j v' _ => ER.nx hg1 (Nx.of (al _ _)) j v') ⟨_, rfl⟩
    · have i0 : i = 0 := by simp at hi; omega
      subst i0
      simp [predsOf, Region.binds, slotV, ER] at hp
      have h9 : done 9 = false := hdn
      have h8 : done 8 = true := by
        have := hcl2 9 _ rfl (by simp) { on := 8, ground := .data } (by simp) (by decide)
        simpa using this
      obtain ⟨b, hb, hb1, hb2, _⟩ := hW.2.2.2 h8
      obtain ⟨⟨c0, c1, c2, c3, c4, c5, c6, c7, c8⟩, ff⟩ := (hb2 h9).step
      have f0 := ff 0
      have f1 := ff 1
      have f2 := ff 2
      have f3 := ff 3
      have f4 := ff 4
      have f5 := ff 5
      have f6 := ff 6
      have f7 := ff 7
      have f8 := ff 8
      clear ff
      have hb' : a.tmps[3]?.getD undef = .pointer (some ⟨b, 0, none⟩) := by simpa [slotV] using hb
      obtain ⟨_, ⟨kd, p, p1, p2, p3, p4⟩, _⟩ := hp
      simp only [sc] at p1
      have hfar : ∀ k cs, Bx W k 3 cs → Bx (put9 W b kd 0 0 p { data := #[] } { data := #[] }) k 3 cs := fun k cs hk => put9_far hk (hk.type_ne (hb2 h9) (by decide)) _ _ _ _ _ _
      have hlaid := hW.laid hg1 hw1 h8 h9 hb ⟨p2, p3⟩ p4 undef
      refine wpOp_of rfl rfl ?_
      go_simp
      exact hK undef (put9 W b kd 0 0 p { data := #[] } { data := #[] }) (by simp) hlaid (fun j v' _ => ER.by hfar j v') trivial
  case fin =>
    intro vs W done hRs hall hW
    obtain ⟨_, hP, hN, h0⟩ := hW
    obtain ⟨b, e3, hb1, _, h4⟩ := h0 (hall 8 (by decide))
    obtain ⟨kd, p, hB, hk1, hk2, hp8⟩ := h4 (hall 9 (by decide))
    clear h0 h4 hRs hall
    simp only [putAll, List.foldl_cons, List.foldl_nil, Act.put, List.setIfInBounds_toArray, List.set_cons_succ, List.set_cons_zero] at e3 ⊢
    simp [slotV] at e3
    rw [e3]
    clear e3
    generalize vs (some 4) = V4
    generalize vs (some 5) = V5
    generalize vs (some 6) = V6
    generalize vs (some 7) = V7
    generalize vs (some 8) = V8
    generalize vs (some 9) = V9
    generalize vs (some 10) = V10
    generalize vs (some 11) = V11
    have hNw := hN1.trans hN
    have hX := hx1.nx hN (by omega)
    have hgb : g < b := by omega
    have hgxb : gx ≠ b := by omega
    have hgxg : g < gx := hgl
    have hB0 : w0.heap.size ≤ gx := hw01
    have hwb : w0.heap.size ≤ b := by omega
    clear hP1 hx1 hN1 hN
    have hks : kd = 1 ∨ kd = 2 ∨ kd = 3 ∨ kd = 4 ∨ kd = 5 ∨ kd = 6 ∨ kd = 7 := by omega
    rcases hks with rfl | rfl | rfl | rfl | rfl | rfl | rfl
    · obtain ⟨⟨c0, c1, c2, c3, c4, c5, c6, c7, c8⟩, cf⟩ := hB.step
      have cf0 := cf 0
      have cf1 := cf 1
      have cf2 := cf 2
      have cf3 := cf 3
      have cf4 := cf 4
      have cf5 := cf 5
      have cf6 := cf 6
      have cf7 := cf 7
      have cf8 := cf 8
      clear cf
      go_wp2_with fail
      refine (numP hv hn 2 (by decide) (by decide) W hP).mono ?_
      rintro e Wa ⟨ra, rfl, hra, hPa, hNa0⟩
      clear c0 c1 c2 c3 c4 c5 c6 c7 c8 cf0 cf1 cf2 cf3 cf4 cf5 cf6 cf7 cf8
      have hBa := hB.nx hNa0 (by omega)
      have hXa := hX.nx hNa0 (by omega)
      have hNa := hNw.trans hNa0
      clear hNa0
      have hwa : IntKind.i64.wrap (1 + (ra : Int)) = 1 + (ra : Int) := by rw [IntKind.wrap_i64]; omega
      obtain ⟨⟨c0, c1, c2, c3, c4, c5, c6, c7, c8⟩, cf⟩ := hBa.step
      have cf0 := cf 0
      have cf1 := cf 1
      have cf2 := cf 2
      have cf3 := cf 3
      have cf4 := cf 4
      have cf5 := cf 5
      have cf6 := cf 6
      have cf7 := cf 7
      have cf8 := cf 8
      clear cf
      have hBq : Bx (Wa.setCell ⟨b, 3, none⟩ (.int .i64 (1 + (ra : Int)))) b 52 (sc 1 (1 + (ra : Int)) 0 p { data := #[] } { data := #[] }) := hBa.set 3 _
      have hXq := hXa.far (p := ⟨b, 3, none⟩) hgxb (.int .i64 (1 + (ra : Int)))
      have hPq := hPa.set (b := b) (by omega) hwb 3 (.int .i64 (1 + (ra : Int)))
      have hNq := hNa.set (b := b) (by omega) 3 (.int .i64 (1 + (ra : Int)))
      go_wp2_with fail
      clear c0 c1 c2 c3 c4 c5 c6 c7 c8 cf0 cf1 cf2 cf3 cf4 cf5 cf6 cf7 cf8
      generalize Wa.setCell ⟨b, 3, none⟩ (.int .i64 (1 + (ra : Int))) = W1 at *
      refine (numP hv hn 12 (by decide) (by decide) W1 hPq).mono ?_
      rintro e Wb ⟨rb, rfl, hrb, hPb, hNb0⟩
      have hBb := hBq.nx hNb0 (by omega)
      have hXb := hXq.nx hNb0 (by omega)
      have hNb := hNq.trans hNb0
      clear hNb0
      by_cases hz : rb = 0
      · subst hz
        go_wp2_with fail
        refine (numP hv hn 4 (by decide) (by decide) Wb hPb).mono ?_
        rintro e Wc ⟨rc, rfl, hrc, hPc, hNc0⟩
        have hBc := hBb.nx hNc0 (by omega)
        have hXc := hXb.nx hNc0 (by omega)
        have hNc := hNb.trans hNc0
        clear hNc0
        obtain ⟨⟨c0, c1, c2, c3, c4, c5, c6, c7, c8⟩, cf⟩ := hBc.step
        have cf0 := cf 0
        have cf1 := cf 1
        have cf2 := cf 2
        have cf3 := cf 3
        have cf4 := cf 4
        have cf5 := cf 5
        have cf6 := cf 6
        have cf7 := cf 7
        have cf8 := cf 8
        clear cf
        obtain ⟨⟨d0, d1, d2, d3, d4, d5, d6, d7, d8⟩, df⟩ := hXc.step
        have df0 := df 0
        have df1 := df 1
        have df2 := df 2
        have df3 := df 3
        have df4 := df 4
        have df5 := df 5
        have df6 := df 6
        have df7 := df 7
        have df8 := df 8
        clear df
        go_wp2
        exact edit_out (W := put9 (Wc.setCell ⟨b, 3, none⟩ (.int .i64 (rc : Int))) gx 1 (rc : Int) 0 p { data := #[] } { data := #[] }) _ (Bx.put9 (hXc.far (p := ⟨b, 3, none⟩) hgxb _) _ _ _ _ _ _) rfl (by unfold I64; omega) (by unfold I64; omega) (by first | omega | decide) (by first | omega | decide) (by first | omega | decide) ((hPc.set (b := b) (by omega) hwb 3 _).put9 (by omega) hB0 _ _ _ _ _ _) ((hNc.set (b := b) (by omega) 3 _).put9 (by omega) _ _ _ _ _ _)
      · have hzz : ((rb : Int) == 0) = false := by simp <;> omega
        obtain ⟨⟨c0, c1, c2, c3, c4, c5, c6, c7, c8⟩, cf⟩ := hBb.step
        have cf0 := cf 0
        have cf1 := cf 1
        have cf2 := cf 2
        have cf3 := cf 3
        have cf4 := cf 4
        have cf5 := cf 5
        have cf6 := cf 6
        have cf7 := cf 7
        have cf8 := cf 8
        clear cf
        obtain ⟨⟨d0, d1, d2, d3, d4, d5, d6, d7, d8⟩, df⟩ := hXb.step
        have df0 := df 0
        have df1 := df 1
        have df2 := df 2
        have df3 := df 3
        have df4 := df 4
        have df5 := df 5
        have df6 := df 6
        have df7 := df 7
        have df8 := df 8
        clear df
        go_wp2
        exact edit_out (W := put9 (Wb) gx 1 (1 + (ra : Int)) 0 p { data := #[] } { data := #[] }) _ (Bx.put9 (hXb) _ _ _ _ _ _) rfl (by unfold I64; omega) (by unfold I64; omega) (by first | omega | decide) (by first | omega | decide) (by first | omega | decide) (hPb.put9 (by omega) hB0 _ _ _ _ _ _) (hNb.put9 (by omega) _ _ _ _ _ _)
    · obtain ⟨⟨c0, c1, c2, c3, c4, c5, c6, c7, c8⟩, cf⟩ := hB.step
      have cf0 := cf 0
      have cf1 := cf 1
      have cf2 := cf 2
      have cf3 := cf 3
      have cf4 := cf 4
      have cf5 := cf 5
      have cf6 := cf 6
      have cf7 := cf 7
      have cf8 := cf 8
      clear cf
      go_wp2_with fail
      refine (pathP hv hn W hP).mono ?_
      rintro e Wa ⟨sa, rfl, hsa, hPa, hNa0⟩
      clear c0 c1 c2 c3 c4 c5 c6 c7 c8 cf0 cf1 cf2 cf3 cf4 cf5 cf6 cf7 cf8
      have hBa := hB.nx hNa0 (by omega)
      have hXa := hX.nx hNa0 (by omega)
      have hNa := hNw.trans hNa0
      clear hNa0
      obtain ⟨⟨c0, c1, c2, c3, c4, c5, c6, c7, c8⟩, cf⟩ := hBa.step
      have cf0 := cf 0
      have cf1 := cf 1
      have cf2 := cf 2
      have cf3 := cf 3
      have cf4 := cf 4
      have cf5 := cf 5
      have cf6 := cf 6
      have cf7 := cf 7
      have cf8 := cf 8
      clear cf
      obtain ⟨⟨d0, d1, d2, d3, d4, d5, d6, d7, d8⟩, df⟩ := hXa.step
      have df0 := df 0
      have df1 := df 1
      have df2 := df 2
      have df3 := df 3
      have df4 := df 4
      have df5 := df 5
      have df6 := df 6
      have df7 := df 7
      have df8 := df 8
      clear df
      go_wp2
      exact edit_out (W := put9 (Wa.setCell ⟨b, 6, none⟩ (.string sa)) gx 2 0 0 p sa { data := #[] }) _ (Bx.put9 (hXa.far (p := ⟨b, 6, none⟩) hgxb _) _ _ _ _ _ _) rfl (by unfold I64; omega) (by unfold I64; omega) (by first | omega | decide) (by first | omega | decide) (by first | omega | decide) ((hPa.set (b := b) (by omega) hwb 6 _).put9 (by omega) hB0 _ _ _ _ _ _) ((hNa.set (b := b) (by omega) 6 _).put9 (by omega) _ _ _ _ _ _)
    · obtain ⟨⟨c0, c1, c2, c3, c4, c5, c6, c7, c8⟩, cf⟩ := hB.step
      have cf0 := cf 0
      have cf1 := cf 1
      have cf2 := cf 2
      have cf3 := cf 3
      have cf4 := cf 4
      have cf5 := cf 5
      have cf6 := cf 6
      have cf7 := cf 7
      have cf8 := cf 8
      clear cf
      obtain ⟨⟨d0, d1, d2, d3, d4, d5, d6, d7, d8⟩, df⟩ := hX.step
      have df0 := df 0
      have df1 := df 1
      have df2 := df 2
      have df3 := df 3
      have df4 := df 4
      have df5 := df 5
      have df6 := df 6
      have df7 := df 7
      have df8 := df 8
      clear df
      go_wp2
      exact edit_out (W := put9 (W) gx 3 0 0 p { data := #[] } { data := #[] }) _ (Bx.put9 (hX) _ _ _ _ _ _) rfl (by unfold I64; omega) (by unfold I64; omega) (by first | omega | decide) (by first | omega | decide) (by first | omega | decide) (hP.put9 (by omega) hB0 _ _ _ _ _ _) (hNw.put9 (by omega) _ _ _ _ _ _)
    · obtain ⟨⟨c0, c1, c2, c3, c4, c5, c6, c7, c8⟩, cf⟩ := hB.step
      have cf0 := cf 0
      have cf1 := cf 1
      have cf2 := cf 2
      have cf3 := cf 3
      have cf4 := cf 4
      have cf5 := cf 5
      have cf6 := cf 6
      have cf7 := cf 7
      have cf8 := cf 8
      clear cf
      go_wp2_with fail
      refine (pathP hv hn W hP).mono ?_
      rintro e Wa ⟨sa, rfl, hsa, hPa, hNa0⟩
      clear c0 c1 c2 c3 c4 c5 c6 c7 c8 cf0 cf1 cf2 cf3 cf4 cf5 cf6 cf7 cf8
      have hBa := hB.nx hNa0 (by omega)
      have hXa := hX.nx hNa0 (by omega)
      have hNa := hNw.trans hNa0
      clear hNa0
      obtain ⟨⟨c0, c1, c2, c3, c4, c5, c6, c7, c8⟩, cf⟩ := hBa.step
      have cf0 := cf 0
      have cf1 := cf 1
      have cf2 := cf 2
      have cf3 := cf 3
      have cf4 := cf 4
      have cf5 := cf 5
      have cf6 := cf 6
      have cf7 := cf 7
      have cf8 := cf 8
      clear cf
      obtain ⟨⟨d0, d1, d2, d3, d4, d5, d6, d7, d8⟩, df⟩ := hXa.step
      have df0 := df 0
      have df1 := df 1
      have df2 := df 2
      have df3 := df 3
      have df4 := df 4
      have df5 := df 5
      have df6 := df 6
      have df7 := df 7
      have df8 := df 8
      clear df
      go_wp2
      exact edit_out (W := put9 (Wa.setCell ⟨b, 6, none⟩ (.string sa)) gx 4 0 0 p sa { data := #[] }) _ (Bx.put9 (hXa.far (p := ⟨b, 6, none⟩) hgxb _) _ _ _ _ _ _) rfl (by unfold I64; omega) (by unfold I64; omega) (by first | omega | decide) (by first | omega | decide) (by first | omega | decide) ((hPa.set (b := b) (by omega) hwb 6 _).put9 (by omega) hB0 _ _ _ _ _ _) ((hNa.set (b := b) (by omega) 6 _).put9 (by omega) _ _ _ _ _ _)
    · have hgb2 : b ≠ g := by omega
      have hgx2 : gx ≠ g := by omega
      obtain ⟨⟨c0, c1, c2, c3, c4, c5, c6, c7, c8⟩, _⟩ := hB.step
      have hVs : EV w0 A n c g w gx b p W := ⟨hP, hNw, hX, 0, _, hB, by decide, by decide, by decide⟩
      have hWg := hP.lt
      have hsW : W.heap.size ≤ W.heap.size := Nat.le_refl _
      have hbW := hB.lt
      have hgxW := hX.lt
      clear hB hP hNw hX
      go_upto_region 11 with fail
      clear c0 c1 c2 c3 c4 c5 c6 c7 c8
      refine wp_region_rel2 Tryz.checked.mixed (by kernel_rfl) (fun done W' => EV w0 A n c g w gx b p W' ∧ W.heap.size ≤ W'.heap.size) (fun i v W' => EW g b W.heap.size i v W') ?start ?each ?fin
      case start =>
        have hd : Nx g W W.drew := Nx.of (Below.refl _ _).drew
        exact ⟨hVs.nx (hVs.1.on (Below.refl W.heap.size W).drew hWg) hd hgx2 hgb2, hd.1⟩
      case each =>
        intro i hi done a W' hdn hcl hcl2 hold hp hW K hK
        obtain ⟨hV, hs⟩ := hW
        have hself : ∀ j v', done j = true → EW g b W.heap.size j v' W' → EW g b W.heap.size j v' W' := fun j v' _ h => h
        rcases i with _ | _ | _ | _ | _ | _ | _ | _ | _ | _ | i
        · simp [predsOf, Region.binds, slotV, EW] at hp
          refine wpOp_of rfl rfl ?_
          have hN : Nx g W' (W'.alloc (.cells #[.int .i64 0, .int .i64 0, .int .i64 1, .int .i64 39, .int .i64 40, .int .i64 100, .int .i64 120, .int .i64 130] 3)) := Nx.of (al _ _)
          have hP2 := hV.1.on (al W' (.cells #[.int .i64 0, .int .i64 0, .int .i64 1, .int .i64 39, .int .i64 40, .int .i64 100, .int .i64 120, .int .i64 130] 3)) hV.1.lt
          go_simp
          refine hK _ _ (by simp) ⟨hV.nx hP2 hN hgx2 hgb2, Nat.le_trans hs hN.1⟩ (fun j v' _ => EW.by (fun k hk h => h.nx hN (by omega)) j v') ⟨W'.heap.size, rfl, hs, Bx.new W' 3 _⟩
        · have s := hold 0 rfl
          simp [predsOf, Region.binds, slotV, EW] at hp
          refine wpOp_of rfl rfl ?_
          simp at s
          go_simp
          exact hK _ _ (by simp) ⟨hV, hs⟩ hself rfl
        · simp [predsOf, Region.binds, slotV, EW] at hp
          refine wpOp_of rfl rfl ?_
          have hr := numP hv hn 8 (by decide) (by decide) W' hV.1
          go_simp
          refine hr.mono ?_
          rintro e W2 ⟨r, rfl, hr8, hP2, hN2⟩
          exact hK _ _ (by simp) ⟨hV.nx hP2 hN2 hgx2 hgb2, Nat.le_trans hs hN2.1⟩ (fun j v' _ => EW.by (fun k hk h => h.nx hN2 (by omega)) j v') ⟨r, rfl, hr8⟩
        · simp [predsOf, Region.binds, slotV, EW] at hp
          refine wpOp_of rfl rfl ?_
          obtain ⟨⟨k, p1, p2, p3⟩, r, p4, p5⟩ := hp
          have h8 : (r : Int) < 8 := by omega
          go_simp
          exact hK _ _ (by simp) ⟨hV, hs⟩ hself ⟨k, r, rfl, p5, p2, p3⟩
        · simp [predsOf, Region.binds, slotV, EW] at hp
          refine wpOp_of rfl rfl ?_
          obtain ⟨k, r, p1, p2, p3, p4⟩ := hp
          obtain ⟨z, hz, hz1, hz2⟩ := row5_at p2
          have hc := (p4.cell r).trans hz
          go_simp
          exact hK _ _ (by simp) ⟨hV, hs⟩ hself ⟨z, rfl, hz1, hz2⟩
        · have s := hold 0 rfl
          simp [predsOf, Region.binds, slotV, EW] at hp
          refine wpOp_of rfl rfl ?_
          simp at s
          go_simp
          exact hK _ _ (by simp) ⟨hV, hs⟩ hself rfl
        · simp [predsOf, Region.binds, slotV, EW] at hp
          refine wpOp_of rfl rfl ?_
          have hr := textP hv hn W' hV.1
          obtain ⟨p1, _⟩ := hp
          go_simp
          refine hr.mono ?_
          rintro e W2 ⟨s, rfl, hs8, hP2, hN2⟩
          exact hK _ _ (by simp) ⟨hV.nx hP2 hN2 hgx2 hgb2, Nat.le_trans hs hN2.1⟩ (fun j v' _ => EW.by (fun k hk h => h.nx hN2 (by omega)) j v') ⟨s, rfl, hs8⟩
        · have s := hold 3 rfl
          simp [predsOf, Region.binds, slotV, EW] at hp
          refine wpOp_of rfl rfl ?_
          simp at s
          go_simp
          exact hK _ _ (by simp) ⟨hV, hs⟩ hself rfl
        · simp [predsOf, Region.binds, slotV, EW] at hp
          refine wpOp_of rfl rfl ?_
          obtain ⟨p1, ⟨z, p2, p3, p4⟩, _⟩ := hp
          obtain ⟨a1, a2, a3, off, tx, a4, a5, a6, a7⟩ := hV
          have q4 := a4.cell 4
          have qf := a4.frozen 4
          simp [sc] at q4
          have hset : Bx (W'.setCell ⟨b, 4, none⟩ (.int .i64 z)) b 52 (sc 5 0 z p { data := #[] } tx) := a4.set 4 _
          have hEV : EV w0 A n c g w gx b p (W'.setCell ⟨b, 4, none⟩ (.int .i64 z)) := ⟨a1.set (b := b) (by omega) hwb 4 _, a2.set (b := b) (by omega) 4 _, a3.far (p := ⟨b, 4, none⟩) hgxb _, z, tx, hset, p3, p4, a7⟩
          go_simp
          exact hK undef _ (by simp) ⟨hEV, by simp; exact hs⟩ (fun j v' _ => EW.by (fun k hk h => h.far (p := ⟨b, 4, none⟩) (show k ≠ b by omega) _) j v') trivial
        · have s := hold 3 rfl
          simp [predsOf, Region.binds, slotV, EW] at hp
          refine wpOp_of rfl rfl ?_
          simp at s
          go_simp
          exact hK _ _ (by simp) ⟨hV, hs⟩ hself rfl
        · have i0 : i = 0 := by simp at hi; omega
          subst i0
          simp [predsOf, Region.binds, slotV, EW] at hp
          refine wpOp_of rfl rfl ?_
          obtain ⟨p1, ⟨s, p2, p3⟩, _⟩ := hp
          obtain ⟨a1, a2, a3, off, tx, a4, a5, a6, a7⟩ := hV
          have q4 := a4.cell 7
          have qf := a4.frozen 7
          simp [sc] at q4
          have hset : Bx (W'.setCell ⟨b, 7, none⟩ (.string s)) b 52 (sc 5 0 off p { data := #[] } s) := a4.set 7 _
          have hEV : EV w0 A n c g w gx b p (W'.setCell ⟨b, 7, none⟩ (.string s)) := ⟨a1.set (b := b) (by omega) hwb 7 _, a2.set (b := b) (by omega) 7 _, a3.far (p := ⟨b, 7, none⟩) hgxb _, off, s, hset, a5, a6, p3⟩
          go_simp
          exact hK undef _ (by simp) ⟨hEV, by simp; exact hs⟩ (fun j v' _ => EW.by (fun k hk h => h.far (p := ⟨b, 7, none⟩) (show k ≠ b by omega) _) j v') trivial
      case fin =>
        intro vs Wz done hRs hall hW
        obtain ⟨⟨hPz, hNz, hXz, off, tx, hBz, ho1, ho2, htx⟩, _⟩ := hW
        clear hRs hall
        simp only [putAll, List.foldl_cons, List.foldl_nil, Act.put, List.setIfInBounds_toArray, List.set_cons_succ, List.set_cons_zero]
        generalize vs (some 34) = Y34
        generalize vs (some 35) = Y35
        generalize vs (some 36) = Y36
        generalize vs (some 37) = Y37
        generalize vs (some 38) = Y38
        generalize vs (some 39) = Y39
        generalize vs (some 40) = Y40
        generalize vs (some 41) = Y41
        generalize vs (some 42) = Y42
        obtain ⟨⟨c0, c1, c2, c3, c4, c5, c6, c7, c8⟩, cf⟩ := hBz.step
        have cf0 := cf 0
        have cf1 := cf 1
        have cf2 := cf 2
        have cf3 := cf 3
        have cf4 := cf 4
        have cf5 := cf 5
        have cf6 := cf 6
        have cf7 := cf 7
        have cf8 := cf 8
        clear cf
        obtain ⟨⟨d0, d1, d2, d3, d4, d5, d6, d7, d8⟩, df⟩ := hXz.step
        have df0 := df 0
        have df1 := df 1
        have df2 := df 2
        have df3 := df 3
        have df4 := df 4
        have df5 := df 5
        have df6 := df 6
        have df7 := df 7
        have df8 := df 8
        clear df
        go_wp2
        exact edit_out (W := put9 Wz gx 5 0 off p { data := #[] } tx) _ (Bx.put9 hXz _ _ _ _ _ _) rfl (by unfold I64; omega) (by unfold I64; omega) (by first | omega | decide) (by first | omega | decide) (by first | omega | decide) (hPz.put9 (by omega) hB0 _ _ _ _ _ _) (hNz.put9 (by omega) _ _ _ _ _ _)
    · obtain ⟨⟨c0, c1, c2, c3, c4, c5, c6, c7, c8⟩, cf⟩ := hB.step
      have cf0 := cf 0
      have cf1 := cf 1
      have cf2 := cf 2
      have cf3 := cf 3
      have cf4 := cf 4
      have cf5 := cf 5
      have cf6 := cf 6
      have cf7 := cf 7
      have cf8 := cf 8
      clear cf
      have hbW := al W (.cells #[.int .i64 0, .int .i64 1, .int .i64 40, .int .i64 41, .int .i64 120, .int .i64 121, .int .i64 3, .int .i64 80] 3)
      have hyW := Bx.new W 3 #[.int .i64 0, .int .i64 1, .int .i64 40, .int .i64 41, .int .i64 120, .int .i64 121, .int .i64 3, .int .i64 80]
      have hnW := Nx.of (g := g) hbW
      have hPW := hP.on hbW hP.lt
      have hBW := hB.nx hnW (by omega)
      have hXW := hX.nx hnW (by omega)
      have hNW := hNw.trans hnW
      have hgW : W.heap.size ≠ g := by have := hP.lt; omega
      clear hbW hnW
      have HY := Lib.hid hyW
      clear hyW
      go_wp2_with fail
      clear c0 c1 c2 c3 c4 c5 c6 c7 c8 cf0 cf1 cf2 cf3 cf4 cf5 cf6 cf7 cf8
      refine (numP hv hn 8 (by decide) (by decide) _ hPW).mono ?_
      rintro e Wa ⟨ra, rfl, hra, hPa, hNa0⟩
      obtain ⟨za, hza, hz1, hz2⟩ := row6_at hra
      have hca := ((HY.out.nx hNa0 hgW).cell ra).trans hza
      have hBa := hBW.nx hNa0 (by omega)
      have hXa := hXW.nx hNa0 (by omega)
      have hNa := hNW.trans hNa0
      clear hNa0
      obtain ⟨⟨c0, c1, c2, c3, c4, c5, c6, c7, c8⟩, cf⟩ := hBa.step
      have cf0 := cf 0
      have cf1 := cf 1
      have cf2 := cf 2
      have cf3 := cf 3
      have cf4 := cf 4
      have cf5 := cf 5
      have cf6 := cf 6
      have cf7 := cf 7
      have cf8 := cf 8
      clear cf
      obtain ⟨⟨d0, d1, d2, d3, d4, d5, d6, d7, d8⟩, df⟩ := hXa.step
      have df0 := df 0
      have df1 := df 1
      have df2 := df 2
      have df3 := df 3
      have df4 := df 4
      have df5 := df 5
      have df6 := df 6
      have df7 := df 7
      have df8 := df 8
      clear df
      go_wp2
      exact edit_out (W := put9 (Wa.setCell ⟨b, 4, none⟩ (.int .i64 za)) gx 6 0 za p { data := #[] } { data := #[] }) _ (Bx.put9 (hXa.far (p := ⟨b, 4, none⟩) hgxb _) _ _ _ _ _ _) rfl (by unfold I64; omega) (by unfold I64; omega) (by first | omega | decide) (by first | omega | decide) (by first | omega | decide) ((hPa.set (b := b) (by omega) hwb 4 _).put9 (by omega) hB0 _ _ _ _ _ _) ((hNa.set (b := b) (by omega) 4 _).put9 (by omega) _ _ _ _ _ _)
    · obtain ⟨⟨c0, c1, c2, c3, c4, c5, c6, c7, c8⟩, cf⟩ := hB.step
      have cf0 := cf 0
      have cf1 := cf 1
      have cf2 := cf 2
      have cf3 := cf 3
      have cf4 := cf 4
      have cf5 := cf 5
      have cf6 := cf 6
      have cf7 := cf 7
      have cf8 := cf 8
      clear cf
      go_wp2_with fail
      refine (numP hv hn 256 (by decide) (by decide) W hP).mono ?_
      rintro e Wa ⟨ra, rfl, hra, hPa, hNa0⟩
      clear c0 c1 c2 c3 c4 c5 c6 c7 c8 cf0 cf1 cf2 cf3 cf4 cf5 cf6 cf7 cf8
      have hBa := hB.nx hNa0 (by omega)
      have hXa := hX.nx hNa0 (by omega)
      have hNa := hNw.trans hNa0
      clear hNa0
      obtain ⟨⟨c0, c1, c2, c3, c4, c5, c6, c7, c8⟩, cf⟩ := hBa.step
      have cf0 := cf 0
      have cf1 := cf 1
      have cf2 := cf 2
      have cf3 := cf 3
      have cf4 := cf 4
      have cf5 := cf 5
      have cf6 := cf 6
      have cf7 := cf 7
      have cf8 := cf 8
      clear cf
      obtain ⟨⟨d0, d1, d2, d3, d4, d5, d6, d7, d8⟩, df⟩ := hXa.step
      have df0 := df 0
      have df1 := df 1
      have df2 := df 2
      have df3 := df 3
      have df4 := df 4
      have df5 := df 5
      have df6 := df 6
      have df7 := df 7
      have df8 := df 8
      clear df
      go_wp2
      exact edit_out (W := put9 (Wa.setCell ⟨b, 3, none⟩ (.int .i64 (ra : Int))) gx 7 (ra : Int) 0 p { data := #[] } { data := #[] }) _ (Bx.put9 (hXa.far (p := ⟨b, 3, none⟩) hgxb _) _ _ _ _ _ _) rfl (by unfold I64; omega) (by unfold I64; omega) (by first | omega | decide) (by first | omega | decide) (by first | omega | decide) ((hPa.set (b := b) (by omega) hwb 3 _).put9 (by omega) hB0 _ _ _ _ _ _) ((hNa.set (b := b) (by omega) 3 _).put9 (by omega) _ _ _ _ _ _)
end Go.Proofs.YtdnobplhfbgbaaaGreatDoor
