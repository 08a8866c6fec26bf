/-
  Contract: disk.Write.
-/
import Derived.Test.YtgoggancldipcaaDg
import Derived.RegionTactic
import Derived.BigRegion
namespace Go.Proofs.Ytgoggancldipcaa
open Go.RowKit

set_option maxHeartbeats 1000000 in
theorem write_no (v : Value) (d : D) (i : Int) (b : ByteArray) (w : World) (h : IsD w v d) (hl : d.last.length ≤ 65536) (hw : d.wait.length ≤ 65536) (hc : (M.can d i && b.size == 64) = false) :
    Calls Try.prog 17 #[v, .int .i64 i, .string b] w fun e w' => ∃ v', e = .returned (.tuple #[v', .bool false]) ∧ IsD w' v' d ∧ Below w.heap.size w w' := by
  have hD := h
  obtain ⟨A, c, A1, c1, rfl, h0, h1⟩ := h.open_
  clear h
  obtain ⟨l, wt, arm, down⟩ := d
  dsimp only at h0 h1 hl hw hD ⊢
  go_enter Try.func17, Try.ntmps17
  go_wp2_with fail
  have hb0 : Below w.heap.size w ((w.alloc (.cells #[.slice A l.length c, .slice A1 wt.length c1, .int .i64 arm, .bool down] 28)).alloc (.cells z4 28)) :=
    ((Below.refl _ w).alloc (Nat.le_refl _) _).alloc (by simp) _
  refine (twin_any _ ⟨l, wt, arm, down⟩ _ (hD.below hb0) hl hw).mono ?_
  rintro e w1 ⟨A', c', A1', cw, rfl, ho1, ho2, hb1⟩
  dsimp only at ho1 ho2 ⊢
  have hx1 := ((Bx.new w 28 #[.slice A l.length c, .slice A1 wt.length c1, .int .i64 arm, .bool down]).alloc (.cells z4 28)).below hb1 (by simp; omega)
  have hr1 := (Bx.new (w.alloc (.cells #[.slice A l.length c, .slice A1 wt.length c1, .int .i64 arm, .bool down] 28)) 28 z4).below hb1 (by simp)
  have hs1 : w.heap.size + 2 ≤ w1.heap.size := by have := hb1.size; simp at this; omega
  have hbw1 : Below w.heap.size w w1 := hb0.trans (hb1.mono (by simp; omega))
  have ho1' : w1.ownsRow (w.heap.size + 2) 9 1 (.slice A' l.length c') l.length (l.map Value.string) := own_base ho1 (by simp)
  have ho2' : w1.ownsRow (w.heap.size + 2) 56 2 (.slice A1' wt.length cw) wt.length (waitCells wt) := own_base ho2 (by simp)
  simp only [World.size_alloc] at hr1
  clear ho1 ho2 hb1 hb0
  obtain ⟨c0, c1', c2, c3, f0, f1, f2, f3⟩ := hx1.four
  obtain ⟨r0, r1', r2, r3, s0, s1, s2, s3⟩ := hr1.four
  have hlt : w.heap.size < w1.heap.size := by omega
  have hlt' : w.heap.size + 1 < w1.heap.size := by omega
  have fin : ∀ (o : Obj) (down : Bool), IsD (((((w1.setCell ⟨w.heap.size + 1, 0, none⟩ (.slice A' l.length c')).setCell ⟨w.heap.size + 1, 1, none⟩ (.slice A1' wt.length cw)).setCell ⟨w.heap.size + 1, 2, none⟩ (.int .i64 arm)).setCell ⟨w.heap.size + 1, 3, none⟩ (.bool down)).alloc o) (.agg #[.slice A' l.length c', .slice A1' wt.length cw, .int .i64 arm, .bool down]) ⟨l, wt, arm, down⟩ ∧
      Below w.heap.size w (((((w1.setCell ⟨w.heap.size + 1, 0, none⟩ (.slice A' l.length c')).setCell ⟨w.heap.size + 1, 1, none⟩ (.slice A1' wt.length cw)).setCell ⟨w.heap.size + 1, 2, none⟩ (.int .i64 arm)).setCell ⟨w.heap.size + 1, 3, none⟩ (.bool down)).alloc o) :=
    fun o down => ⟨⟨_, _, rfl, TS.own ((own_set4 ho1' (by omega) _ _ _ _).alloc o), TS.own ((own_set4 ho2' (by omega) _ _ _ _).alloc o)⟩, (below_set4 hbw1 (by omega) _ _ _ _).alloc (by simp; omega) _⟩
  have FIN := Lib.hid fin
  clear fin
  cases down with
  | true =>
    clear hc
    go_wp2_with fail
    exact bodyPost_ret (v := .tuple #[.agg #[.slice A' l.length c', .slice A1' wt.length cw, .int .i64 arm, .bool true], .bool false]) (by simp [results, Try.results17, go_sem, r0, r1', r2, r3, hlt, hlt']) rfl ⟨_, rfl, (FIN.out _ _).1, (FIN.out _ _).2⟩
  | false =>
    by_cases hb : hasB l.length i = true
    · have hsz : ((b.size : Int) != 64) = true := by
        simp [M.can, hb] at hc
        rw [bne_iff_ne]; omega
      clear hc
      go_wp2_with fail
      refine (has_any _ _ _ _ _).mono ?_
      rintro e w' ⟨rfl, rfl⟩
      rw [hb]
      go_wp2_with fail
      exact bodyPost_ret (v := .tuple #[.agg #[.slice A' l.length c', .slice A1' wt.length cw, .int .i64 arm, .bool false], .bool false]) (by simp [results, Try.results17, go_sem, r0, r1', r2, r3, hlt, hlt']) rfl ⟨_, rfl, (FIN.out _ _).1, (FIN.out _ _).2⟩
    · have hb' : hasB l.length i = false := by simpa using hb
      clear hb hc
      go_wp2_with fail
      refine (has_any _ _ _ _ _).mono ?_
      rintro e w' ⟨rfl, rfl⟩
      rw [hb']
      go_wp2_with fail
      exact bodyPost_ret (v := .tuple #[.agg #[.slice A' l.length c', .slice A1' wt.length cw, .int .i64 arm, .bool false], .bool false]) (by simp [results, Try.results17, go_sem, r0, r1', r2, r3, hlt, hlt']) rfl ⟨_, rfl, (FIN.out _ _).1, (FIN.out _ _).2⟩

end Go.Proofs.Ytgoggancldipcaa
