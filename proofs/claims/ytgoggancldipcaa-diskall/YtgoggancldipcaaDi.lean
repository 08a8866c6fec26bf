/-
  Contract: disk.Write, where it waits.
-/
import Derived.Test.YtgoggancldipcaaDh
namespace Go.Proofs.Ytgoggancldipcaa
open Go.RowKit

theorem Bx.grown {w w' : World} {g : Nat} {t : TypeId} {cs : Array Value} {row : Option Nat} (h : Bx w g t cs) (hb : w.grownBy w' row) (hg : some g ≠ row) : Bx w' g t cs := (hb.block g h.lt hg).trans h

/-- A row of another type than a block's own is another block. -/
theorem own_bx_ne {w : World} {base : Nat} {e t : TypeId} {size n g : Nat} {v : Value} {xs : List Value} {cs : Array Value} (h : w.ownsRow base e size v n xs) (hg : Bx w g t cs) (hne : e ≠ t) : some g ≠ v.ownBlock := by
  rcases h.2 with ⟨rfl, _⟩ | ⟨g', cap, cur, rfl, _, hh, _⟩
  · simp [Value.ownBlock]
  · intro he
    have : g = g' := by simpa [Value.ownBlock] using he
    subst this
    unfold Bx at hg
    rw [hh] at hg
    injection hg with hg
    injection hg with _ ht
    exact hne ht

theorem own_own_ne {w : World} {base base' : Nat} {e e' : TypeId} {size size' n n' : Nat} {v v' : Value} {xs xs' : List Value} (h : w.ownsRow base e size v n xs) (h' : w.ownsRow base' e' size' v' n' xs') (hne : e ≠ e') : v.ownBlock = none ∨ v.ownBlock ≠ v'.ownBlock := by
  rcases h.2 with ⟨rfl, _⟩ | ⟨g, cap, cur, rfl, _, hh, _⟩
  · exact .inl rfl
  · exact .inr (own_bx_ne h' (g := g) (t := e) (cs := cur) hh (fun e => hne e.symm))

theorem own_set_far {w : World} {base : Nat} {e : TypeId} {size : Nat} {v : Value} {n : Nat} {xs : List Value} (h : w.ownsRow base e size v n xs) {p : Addr} (hne : some p.block ≠ v.ownBlock) (u : Value) : (w.setCell p u).ownsRow base e size v n xs := by
  obtain ⟨h1, h2⟩ := h
  refine ⟨h1, ?_⟩
  rcases h2 with h2 | ⟨g, cap, cur, rfl, hg, hh, r⟩
  · exact Or.inl h2
  · refine Or.inr ⟨g, cap, cur, rfl, hg, ?_, r⟩
    rw [Below.heap_setCell]
    · exact hh
    · intro e
      exact hne (by simp [Value.ownBlock, e])

theorem Sl.drew {w : World} {size : Nat} {v : Value} {n : Nat} {xs : List Value} (h : Sl w size v n xs) : Sl w.drew size v n xs := h

set_option maxHeartbeats 2000000 in
theorem write_yes (v : Value) (d : D) (i : Int) (b : ByteArray) (w : World) (h : IsD w v d) (hl : d.last.length ≤ 65536) (hw : d.wait.length ≤ 60000) (hc : (M.can d i && b.size == 64) = true) (ha : d.arm ≤ 65536) (ha0 : 0 ≤ d.arm) :
    Calls Try.prog 17 #[v, .int .i64 i, .string b] w fun e w' => ∃ v', e = .returned (.tuple #[v', .bool (!(M.pushed d i b).down)]) ∧ IsD w' v' (M.pushed d i b) ∧ Below w.heap.size w w' := by
  obtain ⟨i0, hi, hz0, hz1, hz2⟩ := info_parts Try.info56
  have hD := h
  obtain ⟨A, c, A1, c1, rfl, h0, h1⟩ := h.open_
  clear h
  obtain ⟨l, wt, arm, down⟩ := d
  dsimp only at h0 h1 hl hw hD ha ha0 ⊢
  cases down with
  | true => simp [M.can] at hc
  | false =>
  have hb : hasB l.length i = true := by simp [M.can] at hc; exact hc.1
  have hsz : ((b.size : Int) != 64) = false := by
    simp [M.can] at hc
    simp [hc.2]
  clear hc
  go_enter Try.func17, Try.ntmps17
  go_wp2_with fail
  have hb0 : Below w.heap.size w ((w.alloc (.cells #[.slice A l.length c, .slice A1 wt.length c1, .int .i64 arm, .bool false] 28)).alloc (.cells z4 28)) :=
    ((Below.refl _ w).alloc (Nat.le_refl _) _).alloc (by simp) _
  refine (twin_any _ ⟨l, wt, arm, false⟩ _ (hD.below hb0) hl (by show wt.length ≤ _; omega)).mono ?_
  rintro e w1 ⟨A', c', A1', cw, rfl, ho1, ho2, hb1⟩
  dsimp only at ho1 ho2 ⊢
  have hx1 := ((Bx.new w 28 #[.slice A l.length c, .slice A1 wt.length c1, .int .i64 arm, .bool false]).alloc (.cells z4 28)).below hb1 (by simp; omega)
  have hr1 := (Bx.new (w.alloc (.cells #[.slice A l.length c, .slice A1 wt.length c1, .int .i64 arm, .bool false] 28)) 28 z4).below hb1 (by simp)
  have hs1 : w.heap.size + 2 ≤ w1.heap.size := by have := hb1.size; simp at this; omega
  have hbw1 : Below w.heap.size w w1 := hb0.trans (hb1.mono (by simp; omega))
  have ho1' : w1.ownsRow (w.heap.size + 2) 9 1 (.slice A' l.length c') l.length (l.map Value.string) := own_base ho1 (by simp)
  have ho2' : w1.ownsRow (w.heap.size + 2) 56 2 (.slice A1' wt.length cw) wt.length (waitCells wt) := own_base ho2 (by simp)
  simp only [World.size_alloc] at hr1
  clear ho1 ho2 hb1 hb0 hD h0 h1
  obtain ⟨c0, c1', c2, c3, f0, f1, f2, f3⟩ := hx1.four
  have hlt : w.heap.size < w1.heap.size := by omega
  have hlt' : w.heap.size + 1 < w1.heap.size := by omega
  go_wp2_with fail
  refine (has_any _ _ _ _ _).mono ?_
  rintro e w' ⟨rfl, rfl⟩
  rw [hb]
  go_wp2_with (at_builtin; refine wpList_append_own _ rfl _ _ 26 rfl (w.heap.size + 2) 56 i0 (.agg #[.int .i64 0, .string { data := #[] }]) 2 24 Try.underlying26 hi hz0 hz1 hz2 rfl (by decide) _ _ _ rfl ((ho2'.alloc _).alloc _) ⟨w1.heap.size + 1, 0, none⟩ 1 1 (putCells (i, b)) rfl ?qc1 ?qc2 ?qc3 ?qc4 ?qc5 ?qc6 ?_)
  case qc1 => rfl
  case qc2 =>
    intro j u hj
    have hx := Bx.new (w1.alloc (.cells #[.slice A' l.length c', .slice A1' wt.length cw, .int .i64 arm, .bool false] 28)) 56 #[.int .i64 i, .string b]
    rw [Addr.add_lit, Nat.zero_add]
    have := hx.cell j
    rw [World.size_alloc] at this
    rw [this, ← hj]
    simp [putCells]
  case qc3 => intro u hu; simp [putCells] at hu; rcases hu with rfl | rfl <;> rfl
  case qc4 => unfold maxLen; omega
  case qc5 => omega
  case qc6 => simp; omega
  intro v' w2 hown hgrow _
  have hXb : Bx ((w1.alloc (.cells #[.slice A' l.length c', .slice A1' wt.length cw, .int .i64 arm, .bool false] 28)).alloc (.cells #[.int .i64 i, .string b] 56)) w1.heap.size 28 #[.slice A' l.length c', .slice A1' wt.length cw, .int .i64 arm, .bool false] := (Bx.new w1 28 _).alloc _
  have hRb := (hr1.alloc (.cells #[.slice A' l.length c', .slice A1' wt.length cw, .int .i64 arm, .bool false] 28)).alloc (.cells #[.int .i64 i, .string b] 56)
  have ho2b := (ho2'.alloc (.cells #[.slice A' l.length c', .slice A1' wt.length cw, .int .i64 arm, .bool false] 28)).alloc (.cells #[.int .i64 i, .string b] 56)
  have ho1b := (ho1'.alloc (.cells #[.slice A' l.length c', .slice A1' wt.length cw, .int .i64 arm, .bool false] 28)).alloc (.cells #[.int .i64 i, .string b] 56)
  have hX2 := hXb.grown hgrow (own_bx_ne ho2b hXb (by decide))
  have hR2 := hRb.grown hgrow (own_bx_ne ho2b hRb (by decide))
  have ho1c : w2.ownsRow (w.heap.size + 2) 9 1 (.slice A' l.length c') l.length (l.map Value.string) := ho1b.kept hgrow (own_own_ne ho1b ho2b (by decide))
  have hbw2 : Below w.heap.size w w2 := ((hbw1.alloc (by omega) (.cells #[.slice A' l.length c', .slice A1' wt.length cw, .int .i64 arm, .bool false] 28)).alloc (by simp; omega) (.cells #[.int .i64 i, .string b] 56)).grown hgrow (by simp; omega) (fun k hk => by have := (ho2b.lt k hk).1; omega)
  have hown2 : w2.ownsRow (w.heap.size + 2) 56 2 v' (wt.length + 1) (waitCells (wt ++ [(i, b)])) := by
    rw [waitCells_append]
    have e : waitCells [(i, b)] = putCells (i, b) := by simp [waitCells]
    rw [e]
    exact hown
  obtain ⟨g, hg⟩ : ∃ g, g = w1.heap.size := ⟨_, rfl⟩
  rw [← hg] at hX2 hlt hlt' ⊢
  clear hown hgrow hXb hRb ho2b ho1b hbw1 ho1' ho2' hr1 hx1 c0 c1' c2 c3 f0 f1 f2 f3 hs1 hg
  obtain ⟨Av, cv, rfl⟩ := own_form hown2
  obtain ⟨c0, c1', c2, c3, f0, f1, f2, f3⟩ := hX2.four
  obtain ⟨r0, r1', r2, r3, s0, s1, s2, s3⟩ := hR2.four
  have hne : w.heap.size + 1 ≠ g := by omega
  have n1 := own_bx_ne ho1c hX2 (by decide)
  have n2 := own_bx_ne hown2 hX2 (by decide)
  have hlen : (wt ++ [(i, b)]).length = wt.length + 1 := by simp
  rcases (by omega : arm = 0 ∨ arm = 1 ∨ 2 ≤ arm) with rfl | rfl | h2
  · have hdn : (M.pushed ⟨l, wt, 0, false⟩ i b) = ⟨l, wt ++ [(i, b)], 0, false⟩ := by simp [M.pushed]
    have HD := Lib.hid hdn
    have FIN : Hid (∀ (ww : World), ww = w2.setCell ⟨g, 1, none⟩ (.slice Av (wt.length + 1) cv) → ww.ownsRow (w.heap.size + 2) 9 1 (.slice A' l.length c') l.length (l.map Value.string) ∧ ww.ownsRow (w.heap.size + 2) 56 2 (.slice Av (wt.length + 1) cv) (wt.length + 1) (waitCells (wt ++ [(i, b)])) ∧ Below w.heap.size w ww) := by
      rintro ww rfl
      exact ⟨own_set_far ho1c n1 _, own_set_far hown2 n2 _, hbw2.setCell (p := ⟨g, 1, none⟩) (by show w.heap.size ≤ g; omega) _⟩
    have HL := Lib.hid hlen
    clear n1 n2 hlen ho1c hown2 hbw2 hdn
    go_wp2
    go_region
    all_goals (try go_wp2)
    obtain ⟨q1, q2, q3⟩ := FIN.out _ rfl
    rw [HD.out]
    refine bodyPost_ret (v := .tuple #[.agg #[.slice A' l.length c', .slice Av (wt.length + 1) cv, .int .i64 0, .bool false], .bool (!false)]) (by simp [results, Try.results17, go_sem, r0, r1', r2, r3, hne]) rfl ⟨_, rfl, ?_, ?_⟩
    · exact ⟨_, _, rfl, TS.drew (TS.own (own_set4 q1 (by omega) _ _ _ _)), by simp only [HL.out]; exact TS.drew (TS.own (own_set4 q2 (by omega) _ _ _ _))⟩
    · exact (below_set4 q3 (by omega) _ _ _ _).drew
  · have hdn : (M.pushed ⟨l, wt, 1, false⟩ i b) = ⟨l, wt ++ [(i, b)], 0, true⟩ := by simp [M.pushed]
    have HD := Lib.hid hdn
    have FIN : Hid (∀ (ww : World), ww = ((w2.setCell ⟨g, 1, none⟩ (.slice Av (wt.length + 1) cv)).setCell ⟨g, 2, none⟩ (.int .i64 0)).setCell ⟨g, 3, none⟩ (.bool true) → ww.ownsRow (w.heap.size + 2) 9 1 (.slice A' l.length c') l.length (l.map Value.string) ∧ ww.ownsRow (w.heap.size + 2) 56 2 (.slice Av (wt.length + 1) cv) (wt.length + 1) (waitCells (wt ++ [(i, b)])) ∧ Below w.heap.size w ww) := by
      rintro ww rfl
      exact ⟨own_set_far (own_set_far (own_set_far ho1c n1 _) n1 _) n1 _, own_set_far (own_set_far (own_set_far hown2 n2 _) n2 _) n2 _, ((hbw2.setCell (p := ⟨g, 1, none⟩) (by show w.heap.size ≤ g; omega) _).setCell (p := ⟨g, 2, none⟩) (by show w.heap.size ≤ g; omega) _).setCell (p := ⟨g, 3, none⟩) (by show w.heap.size ≤ g; omega) _⟩
    have HL := Lib.hid hlen
    clear n1 n2 hlen ho1c hown2 hbw2 hdn
    go_wp2
    go_region
    all_goals (try go_wp2)
    obtain ⟨q1, q2, q3⟩ := FIN.out _ rfl
    rw [HD.out]
    refine bodyPost_ret (v := .tuple #[.agg #[.slice A' l.length c', .slice Av (wt.length + 1) cv, .int .i64 0, .bool true], .bool (!true)]) (by simp [results, Try.results17, go_sem, r0, r1', r2, r3, hne]) rfl ⟨_, rfl, ?_, ?_⟩
    · exact ⟨_, _, rfl, TS.drew (TS.own (own_set4 q1 (by omega) _ _ _ _)), by simp only [HL.out]; exact TS.drew (TS.own (own_set4 q2 (by omega) _ _ _ _))⟩
    · exact (below_set4 q3 (by omega) _ _ _ _).drew
  · have e1 : (arm - 1 == 0) = false := by simp; omega
    have hdn : (M.pushed ⟨l, wt, arm, false⟩ i b) = ⟨l, wt ++ [(i, b)], arm - 1, false⟩ := by simp [M.pushed, show 0 < arm by omega, e1]
    have HD := Lib.hid hdn
    have FIN : Hid (∀ (ww : World), ww = ((w2.setCell ⟨g, 1, none⟩ (.slice Av (wt.length + 1) cv)).setCell ⟨g, 2, none⟩ (.int .i64 (arm - 1))).setCell ⟨g, 3, none⟩ (.bool false) → ww.ownsRow (w.heap.size + 2) 9 1 (.slice A' l.length c') l.length (l.map Value.string) ∧ ww.ownsRow (w.heap.size + 2) 56 2 (.slice Av (wt.length + 1) cv) (wt.length + 1) (waitCells (wt ++ [(i, b)])) ∧ Below w.heap.size w ww) := by
      rintro ww rfl
      exact ⟨own_set_far (own_set_far (own_set_far ho1c n1 _) n1 _) n1 _, own_set_far (own_set_far (own_set_far hown2 n2 _) n2 _) n2 _, ((hbw2.setCell (p := ⟨g, 1, none⟩) (by show w.heap.size ≤ g; omega) _).setCell (p := ⟨g, 2, none⟩) (by show w.heap.size ≤ g; omega) _).setCell (p := ⟨g, 3, none⟩) (by show w.heap.size ≤ g; omega) _⟩
    have HL := Lib.hid hlen
    clear n1 n2 hlen ho1c hown2 hbw2 hdn
    go_wp2
    go_region
    all_goals (try go_wp2)
    obtain ⟨q1, q2, q3⟩ := FIN.out _ rfl
    rw [HD.out]
    refine bodyPost_ret (v := .tuple #[.agg #[.slice A' l.length c', .slice Av (wt.length + 1) cv, .int .i64 (arm - 1), .bool false], .bool (!false)]) (by simp [results, Try.results17, go_sem, r0, r1', r2, r3, hne]) rfl ⟨_, rfl, ?_, ?_⟩
    · exact ⟨_, _, rfl, TS.drew (TS.own (own_set4 q1 (by omega) _ _ _ _)), by simp only [HL.out]; exact TS.drew (TS.own (own_set4 q2 (by omega) _ _ _ _))⟩
    · exact (below_set4 q3 (by omega) _ _ _ _).drew

theorem write_any (v : Value) (d : D) (i : Int) (b : ByteArray) (w : World) (h : IsD w v d) (hl : d.last.length ≤ 65536) (hw : d.wait.length ≤ 60000) (ha0 : 0 ≤ d.arm) (ha : d.arm ≤ 65536) :
    Calls Try.prog 17 #[v, .int .i64 i, .string b] w fun e w' => ∃ v', e = .returned (.tuple #[v', .bool (M.write d i b).2]) ∧ IsD w' v' (M.write d i b).1 ∧ Below w.heap.size w w' := by
  unfold M.write
  cases hc : (M.can d i && b.size == 64) with
  | true => simpa [hc] using write_yes v d i b w h hl hw hc ha ha0
  | false => simpa [hc] using write_no v d i b w h hl (by omega) hc

end Go.Proofs.Ytgoggancldipcaa
