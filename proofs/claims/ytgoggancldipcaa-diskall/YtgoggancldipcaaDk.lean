/-
  Contracts: disk.Flush, disk.Crash.
-/
import Derived.Test.YtgoggancldipcaaDj
import Derived.Deep.RegionHeld3
namespace Go.Proofs.Ytgoggancldipcaa
open Go.RowKit

theorem below_undrew {B : Nat} {w w1 : World} (h : Below B w.drew w1) : Below B w w1 := ⟨h.os, h.tape, h.output, h.size, h.block⟩

/-- Two boxes of one's own, behind a call. -/
theorem two_boxes {w w1 : World} {t : TypeId} {cs ds : Array Value} (hb : Below ((w.alloc (.cells cs t)).alloc (.cells ds t)).heap.size ((w.alloc (.cells cs t)).alloc (.cells ds t)) w1) :
    Bx w1 w.heap.size t cs ∧ Bx w1 (w.heap.size + 1) t ds ∧ w.heap.size + 2 ≤ w1.heap.size ∧ Below w.heap.size w w1 := by
  have h1 := ((Bx.new w t cs).alloc (.cells ds t)).below hb (by simp; omega)
  have h2 := (Bx.new (w.alloc (.cells cs t)) t ds).below hb (by simp)
  rw [World.size_alloc] at h2
  refine ⟨h1, h2, ?_, ?_⟩
  · have := hb.size; simp at this; omega
  · exact (((Below.refl _ w).alloc (Nat.le_refl _) _).alloc (by simp) _).trans (hb.mono (by simp; omega))

set_option maxHeartbeats 1000000 in
theorem flush_no (v : Value) (d : D) (w : World) (h : IsD w v d) (hl : d.last.length ≤ 65536) (hw : d.wait.length ≤ 65536) (hd : d.down = true) :
    Calls Try.prog 11 #[v] w fun e w' => ∃ v', e = .returned (.tuple #[v', .bool false]) ∧ IsD w' v' d ∧ Below w.heap.size w w' := by
  have hD := h
  obtain ⟨A, c, A1, c1, rfl, h0, h1⟩ := h.open_
  clear h
  obtain ⟨l, wt, arm, down⟩ := d
  dsimp only at h0 h1 hl hw hD hd ⊢
  subst hd
  go_enter Try.func11, Try.ntmps11
  go_wp2_with fail
  have hb0 : Below w.heap.size w ((w.alloc (.cells #[.slice A l.length c, .slice A1 wt.length c1, .int .i64 arm, .bool true] 28)).alloc (.cells z4 28)) :=
    ((Below.refl _ w).alloc (Nat.le_refl _) _).alloc (by simp) _
  refine (twin_any _ ⟨l, wt, arm, true⟩ _ (hD.below hb0) hl hw).mono ?_
  rintro e w1 ⟨A', c', A1', cw, rfl, ho1, ho2, hb1⟩
  dsimp only at ho1 ho2 ⊢
  have hr1 := (Bx.new (w.alloc (.cells #[.slice A l.length c, .slice A1 wt.length c1, .int .i64 arm, .bool true] 28)) 28 z4).below hb1 (by simp)
  have hbw1 : Below w.heap.size w w1 := hb0.trans (hb1.mono (by simp; omega))
  have ho1' : w1.ownsRow (w.heap.size + 2) 9 1 (.slice A' l.length c') l.length (l.map Value.string) := own_base ho1 (by simp)
  have ho2' : w1.ownsRow (w.heap.size + 2) 56 2 (.slice A1' wt.length cw) wt.length (waitCells wt) := own_base ho2 (by simp)
  simp only [World.size_alloc] at hr1
  clear ho1 ho2 hb1 hb0
  obtain ⟨r0, r1', r2, r3, s0, s1, s2, s3⟩ := hr1.four
  go_wp2
  exact bodyPost_ret (v := .tuple #[.agg #[.slice A' l.length c', .slice A1' wt.length cw, .int .i64 arm, .bool true], .bool false]) (by simp [results, Try.results11, go_sem, r0, r1', r2, r3]) rfl
    ⟨_, rfl, ⟨_, _, rfl, TS.own (own_set4 ho1' (by omega) _ _ _ _), TS.own (own_set4 ho2' (by omega) _ _ _ _)⟩, below_set4 hbw1 (by omega) _ _ _ _⟩

set_option maxHeartbeats 1000000 in
theorem flush_yes (v : Value) (d : D) (w : World) (h : IsD w v d) (hl : d.last.length ≤ 65536) (hw : d.wait.length ≤ 65536) (hd : d.down = false) :
    Calls Try.prog 11 #[v] w fun e w' => ∃ v', e = .returned (.tuple #[v', .bool true]) ∧ IsD w' v' ⟨M.lasting d.last d.wait, [], d.arm, false⟩ ∧ Below w.heap.size w w' := by
  have hD := h
  obtain ⟨A, c, A1, c1, rfl, h0, h1⟩ := h.open_
  clear h
  obtain ⟨l, wt, arm, down⟩ := d
  dsimp only at h0 h1 hl hw hD hd ⊢
  subst hd
  have hb0 : Below w.heap.size w ((w.alloc (.cells #[.slice A l.length c, .slice A1 wt.length c1, .int .i64 arm, .bool false] 28)).alloc (.cells z4 28)) :=
    ((Below.refl _ w).alloc (Nat.le_refl _) _).alloc (by simp) _
  go_enter Try.func11, Try.ntmps11
  go_wp2_with fail
  go_region_held3 (fun w' => w'.cell? ⟨w.heap.size, 0, none⟩ = some (.slice A l.length c) ∧ w'.cell? ⟨w.heap.size, 1, none⟩ = some (.slice A1 wt.length c1) ∧ w'.cell? ⟨w.heap.size, 2, none⟩ = some (.int .i64 arm) ∧ w'.cell? ⟨w.heap.size, 3, none⟩ = some (.bool false))
    (first | go_keep | exact ⟨q0, q1, q2, q3⟩)
    ((go_at_call 24; refine (lasting_any A c A1 c1 l wt _ (h0.below (by exact hb0.drew)) (h1.below (by exact hb0.drew)) hl hw).mono ?_; rintro e w1 ⟨A', c', rfl, ho1, hb1⟩; obtain ⟨hx1, hr1, hs1, hbw1⟩ := two_boxes (below_undrew hb1); obtain ⟨q0, q1, q2, q3, _, _, _, _⟩ := hx1.four; obtain ⟨r0, r1', r2, r3, s0, s1, s2, s3⟩ := hr1.four))
  have ho1' : w1.ownsRow (w.heap.size + 2) 9 1 (.slice A' l.length c') l.length ((M.lasting l wt).map Value.string) := own_base ho1 (by simp)
  go_wp2
  refine bodyPost_ret (v := .tuple #[.agg #[.slice A' l.length c', .slice none 0 0, .int .i64 arm, .bool false], .bool true]) (by simp [results, Try.results11, go_sem, r0, r1', r2, r3]) rfl ⟨_, rfl, ?_, ?_⟩
  · exact ⟨_, _, rfl, by simpa [M.lasting_length] using TS.own (own_set4 ho1' (by omega) _ _ _ _), TS.nil _ _ _⟩
  · exact below_set4 hbw1 (by omega) _ _ _ _

end Go.Proofs.Ytgoggancldipcaa
