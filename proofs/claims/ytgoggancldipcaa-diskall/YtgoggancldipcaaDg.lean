/-
  Contract: disk.twin.
-/
import Derived.Test.YtgoggancldipcaaDf
namespace Go.Proofs.Ytgoggancldipcaa
open Go.RowKit

theorem own_below {w w' : World} {base : Nat} {e : TypeId} {size : Nat} {v : Value} {n : Nat} {xs : List Value} (h : w.ownsRow base e size v n xs) (hb : Below w.heap.size w w') : w'.ownsRow base e size v n xs := by
  obtain ⟨h1, h2⟩ := h
  refine ⟨h1, ?_⟩
  rcases h2 with h2 | ⟨g, cap, cur, hv, hg, hh, r⟩
  · exact Or.inl h2
  · refine Or.inr ⟨g, cap, cur, hv, hg, ?_, r⟩
    rw [hb.block g ?_]
    · exact hh
    · rcases Nat.lt_or_ge g w.heap.size with hl | hl
      · exact hl
      · rw [Array.getElem?_eq_none hl] at hh; cases hh
theorem own_base {w : World} {base base' : Nat} {e : TypeId} {size : Nat} {v : Value} {n : Nat} {xs : List Value} (h : w.ownsRow base e size v n xs) (hb : base' ≤ base) : w.ownsRow base' e size v n xs := by
  obtain ⟨h1, h2⟩ := h
  refine ⟨h1, ?_⟩
  rcases h2 with h2 | ⟨g, cap, cur, hv, hg, r⟩
  · exact Or.inl h2
  · exact Or.inr ⟨g, cap, cur, hv, by omega, r⟩
theorem own_form {w : World} {base : Nat} {e : TypeId} {size : Nat} {v : Value} {n : Nat} {xs : List Value} (h : w.ownsRow base e size v n xs) : ∃ A c, v = .slice A n c := by
  rcases h.2 with ⟨rfl, rfl⟩ | ⟨g, cap, cur, rfl, _⟩
  · exact ⟨_, _, rfl⟩
  · exact ⟨_, _, rfl⟩

theorem clone_s' (A : Option Addr) (n c : Nat) (xs : List Value) (w : World) (h : Sl w 1 (.slice A n c) n xs) (h1 : ∀ u ∈ xs, u.oneCell' = true) (hn : n ≤ 65536) :
    Calls Try.prog 36 #[.slice A n c] w fun e w' => ∃ A' c', e = .returned (.slice A' n c') ∧ w'.ownsRow w.heap.size 9 1 (.slice A' n c') n xs ∧ Below w.heap.size w w' :=
  (clone_s A n c xs w h h1 hn).mono fun e w' ⟨v', he, ho, hb⟩ => by
    obtain ⟨A', c', rfl⟩ := own_form ho
    exact ⟨A', c', he, ho, hb⟩
theorem clone_p' (A : Option Addr) (n c : Nat) (xs : List Value) (w : World) (h : Sl w 2 (.slice A n c) n xs) (h1 : ∀ u ∈ xs, u.oneCell' = true) (hn : n ≤ 65536) :
    Calls Try.prog 37 #[.slice A n c] w fun e w' => ∃ A' c', e = .returned (.slice A' n c') ∧ w'.ownsRow w.heap.size 56 2 (.slice A' n c') n xs ∧ Below w.heap.size w w' :=
  (clone_p A n c xs w h h1 hn).mono fun e w' ⟨v', he, ho, hb⟩ => by
    obtain ⟨A', c', rfl⟩ := own_form ho
    exact ⟨A', c', he, ho, hb⟩

/-- What a disk value is, its two slices written out. -/
theorem IsD.open_ {w : World} {v : Value} {d : D} (h : IsD w v d) : ∃ A c A1 c1, v = .agg #[.slice A d.last.length c, .slice A1 d.wait.length c1, .int .i64 d.arm, .bool d.down] ∧
    Sl w 1 (.slice A d.last.length c) d.last.length (d.last.map Value.string) ∧ Sl w 2 (.slice A1 d.wait.length c1) d.wait.length (waitCells d.wait) := by
  obtain ⟨v0, v1, rfl, ⟨h0, _⟩, ⟨h1, _⟩⟩ := h
  obtain ⟨A, c, rfl⟩ := h0.form
  obtain ⟨A1, c1, rfl⟩ := h1.form
  exact ⟨A, c, A1, c1, rfl, h0, h1⟩

abbrev z4 : Array Value := #[.slice none 0 0, .slice none 0 0, .int .i64 0, .bool false]

set_option maxHeartbeats 1000000 in
theorem twin_any (v : Value) (d : D) (w : World) (h : IsD w v d) (hl : d.last.length ≤ 65536) (hw : d.wait.length ≤ 65536) :
    Calls Try.prog 23 #[v] w fun e w' => ∃ A c A1 c1, e = .returned (.agg #[.slice A d.last.length c, .slice A1 d.wait.length c1, .int .i64 d.arm, .bool d.down]) ∧ w'.ownsRow w.heap.size 9 1 (.slice A d.last.length c) d.last.length (d.last.map Value.string) ∧
      w'.ownsRow w.heap.size 56 2 (.slice A1 d.wait.length c1) d.wait.length (waitCells d.wait) ∧ Below w.heap.size w w' := by
  obtain ⟨A, c, A1, c1, rfl, h0, h1⟩ := h.open_
  clear h
  obtain ⟨l, wt, arm, down⟩ := d
  dsimp only at h0 h1 hl hw ⊢
  go_enter Try.func23, Try.ntmps23
  go_wp2_with fail
  have hb0 : Below w.heap.size w ((w.alloc (.cells #[.slice A l.length c, .slice A1 wt.length c1, .int .i64 arm, .bool down] 28)).alloc (.cells z4 28)) :=
    ((Below.refl _ w).alloc (Nat.le_refl _) _).alloc (by simp) _
  refine (clone_s' A l.length c (l.map Value.string) _ (h0.below hb0) (strs_one l) hl).mono ?_
  rintro e w1 ⟨A', c', rfl, ho1, hb1⟩
  have hx1 := ((Bx.new w 28 #[.slice A l.length c, .slice A1 wt.length c1, .int .i64 arm, .bool down]).alloc (.cells z4 28)).below hb1 (by simp; omega)
  have hr1 := (Bx.new (w.alloc (.cells #[.slice A l.length c, .slice A1 wt.length c1, .int .i64 arm, .bool down] 28)) 28 z4).below hb1 (by simp)
  have hs1 : w.heap.size + 2 ≤ w1.heap.size := by have := hb1.size; simp at this; omega
  have hbw1 : Below w.heap.size w w1 := hb0.trans (hb1.mono (by simp; omega))
  have ho1' : w1.ownsRow (w.heap.size + 2) 9 1 (.slice A' l.length c') l.length (l.map Value.string) := own_base ho1 (by simp)
  simp only [World.size_alloc] at hr1
  clear ho1 hb1 hb0
  obtain ⟨c0, c1', c2, c3, f0, f1, f2, f3⟩ := hx1.four
  go_wp2_with fail
  have hx2 := hx1.set 0 (.slice A' l.length c')
  have hr2 := hr1.far (p := ⟨w.heap.size, 0, none⟩) (by simp) (.slice A' l.length c')
  have hbw2 := hbw1.setCell (p := ⟨w.heap.size, 0, none⟩) (Nat.le_refl _) (.slice A' l.length c')
  have ho2 := ownsRow_setCell_below ho1' (a := ⟨w.heap.size, 0, none⟩) (by show w.heap.size < _; omega) (.slice A' l.length c')
  have hs2 : w.heap.size + 2 ≤ (w1.setCell ⟨w.heap.size, 0, none⟩ (.slice A' l.length c')).heap.size := by simpa using hs1
  generalize w1.setCell ⟨w.heap.size, 0, none⟩ (.slice A' l.length c') = w2 at hx2 hr2 hbw2 ho2 hs2 ⊢
  clear c0 c1' c2 c3 f0 f1 f2 f3 hx1 hr1 hbw1 ho1' hs1
  refine (clone_p' A1 wt.length c1 (waitCells wt) _ (h1.below hbw2) (waitCells_one wt) hw).mono ?_
  rintro e w3 ⟨A1', cw, rfl, ho3, hb3⟩
  have hx3 := hx2.below hb3 (by omega)
  have hr3 := hr2.below hb3 (by omega)
  have ho2' := own_below ho2 hb3
  have ho3' : w3.ownsRow (w.heap.size + 2) 56 2 (.slice A1' wt.length cw) wt.length (waitCells wt) := own_base ho3 (by omega)
  have hbw3 := hbw2.trans (hb3.mono (by omega))
  simp only [List.setIfInBounds_toArray, List.set_cons_zero] at hx3
  obtain ⟨c0, c1', c2, c3, f0, f1, f2, f3⟩ := hx3.four
  obtain ⟨r0, r1', r2, r3, s0, s1, s2, s3⟩ := hr3.four
  clear hb3 ho2 ho3 hr2 hx2 h0 h1
  go_wp2
  refine bodyPost_ret (v := .agg #[.slice A' l.length c', .slice A1' wt.length cw, .int .i64 arm, .bool down]) (by simp [results, Try.results23, go_sem, r0, r1', r2, r3]) rfl ⟨A', c', A1', cw, rfl, ?_, ?_, ?_⟩
  · exact own_base (own_set4 (ownsRow_setCell_below ho2' (a := ⟨w.heap.size, 1, none⟩) (by show w.heap.size < _; omega) _) (by omega) _ _ _ _) (by omega)
  · exact own_base (own_set4 (ownsRow_setCell_below ho3' (a := ⟨w.heap.size, 1, none⟩) (by show w.heap.size < _; omega) _) (by omega) _ _ _ _) (by omega)
  · exact below_set4 (hbw3.setCell (p := ⟨w.heap.size, 1, none⟩) (Nat.le_refl _) _) (by omega) _ _ _ _

end Go.Proofs.Ytgoggancldipcaa
