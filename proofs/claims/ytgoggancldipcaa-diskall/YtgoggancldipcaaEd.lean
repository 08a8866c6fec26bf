/-
  Contracts of the document's answer: Flush, Crash.
-/
import Derived.Test.YtgoggancldipcaaEc
namespace Go.Proofs.Ytgoggancldipcaa
open Go.RowKit

set_option maxHeartbeats 1000000
theorem rflush_any (v : Value) (d : D) (w : World) (h : IsD w v d) (hl : d.last.length ≤ 65536) (hw : d.wait.length ≤ 65536) :
    Calls Try.prog 12 #[v] w fun e w' => ∃ v', e = .returned (.tuple #[v', .bool (M.flush d).2]) ∧ IsD w' v' (M.flush d).1 ∧ Below w.heap.size w w' := by
  have hD := h
  obtain ⟨A, c, A1, c1, rfl, h0, h1⟩ := h.open_
  clear h h0 h1
  obtain ⟨l, wt, arm, down⟩ := d
  dsimp only at hD hl hw ⊢
  have hb0 : ∀ down, Below w.heap.size w ((w.alloc (.cells #[.slice A l.length c, .slice A1 wt.length c1, .int .i64 arm, .bool down] 28)).alloc (.cells z4 28)) := fun down =>
    ((Below.refl _ w).alloc (Nat.le_refl _) _).alloc (by simp) _
  have HB := Lib.hid hb0
  clear hb0
  cases down with
  | true =>
    go_enter Try.func12, Try.ntmps12
    go_wp2
    have hbw := (Below.refl _ w).alloc (Nat.le_refl _) (.cells #[.slice A l.length c, .slice A1 wt.length c1, .int .i64 arm, .bool true] 28)
    exact bodyPost_ret (v := .tuple #[.agg #[.slice A l.length c, .slice A1 wt.length c1, .int .i64 arm, .bool true], .bool false]) (by simp [results, Try.results12, go_sem]) rfl
      ⟨_, rfl, (hD.below (hbw.alloc (by simp) _)), hbw.alloc (by simp) _⟩
  | false =>
    by_cases hw0 : wt.length = 0
    · obtain rfl : wt = [] := List.eq_nil_of_length_eq_zero hw0
      clear hw0
      have z0 : decide ((0 : Int) < (([] : List (Int × ByteArray)).length : Int)) = false := by simp
      go_enter Try.func12, Try.ntmps12
      go_wp2
      have hbw := (Below.refl _ w).alloc (Nat.le_refl _) (.cells #[.slice A l.length c, .slice none 0 0, .int .i64 arm, .bool false] 28)
      have hI : IsD w (.agg #[.slice A l.length c, .slice none 0 0, .int .i64 arm, .bool false]) ⟨l, [], arm, false⟩ := by
        obtain ⟨v0, v1, hv, t0, _⟩ := hD
        simp at hv
        obtain ⟨rfl, rfl⟩ := hv
        exact ⟨_, _, rfl, t0, TS.nil _ _ _⟩
      exact bodyPost_ret (v := .tuple #[.agg #[.slice A l.length c, .slice none 0 0, .int .i64 arm, .bool false], .bool true]) (by simp [results, Try.results12, go_sem]) rfl
        ⟨_, rfl, hI.below (hbw.alloc (by simp) _), hbw.alloc (by simp) _⟩
    · have z0 : decide ((0 : Int) < (wt.length : Int)) = true := by simp; omega
      go_enter Try.func12, Try.ntmps12
      go_wp2_with fail
      refine (lasts_any _ ⟨l, wt, arm, false⟩ none 0 0 [] true _ (hD.below (HB.out false)) (Sl_nil _) rfl hl hw (by decide)).mono ?_
      rintro e w1 ⟨A', c', rfl, ho1, hb1⟩
      dsimp only at ho1 ⊢
      obtain ⟨hX, hR, hs1, hbw1⟩ := two_boxes hb1
      have ho1' : w1.ownsRow (w.heap.size + 2) 9 1 (.slice A' l.length c') l.length ((lasTo l true wt [] wt.length).map Value.string) := own_base ho1 (by simp)
      have hll : lasTo l true wt [] wt.length = M.lasting l wt := by simp [lasTo, sel]
      rw [hll] at ho1'
      clear ho1 hb1 hll
      obtain ⟨x0, x1, x2, x3, y0, y1, y2, y3⟩ := hX.four
      obtain ⟨r0, r1', r2, r3, s0, s1, s2, s3⟩ := hR.four
      go_wp2
      have hR4 := ((hR.far (p := ⟨w.heap.size, 0, none⟩) (by simp) (.slice A' l.length c')).far (p := ⟨w.heap.size, 1, none⟩) (by simp) (.slice none 0 0))
      refine bodyPost_ret (v := .tuple #[.agg #[.slice A' l.length c', .slice none 0 0, .int .i64 arm, .bool false], .bool true]) (by simp [results, Try.results12, go_sem, r0, r1', r2, r3]) rfl ⟨_, rfl, ?_, ?_⟩
      · have hI : IsD w1 (.agg #[.slice A' l.length c', .slice none 0 0, .int .i64 arm, .bool false]) ⟨M.lasting l wt, [], arm, false⟩ := ⟨_, _, rfl, by simpa [M.lasting_length] using TS.own ho1', TS.nil _ _ _⟩
        exact ((hI.far hX 0 _).far (hX.set 0 _) 1 _).far4 hR4 _ _ _ _
      · exact below_set4 ((hbw1.setCell (p := ⟨w.heap.size, 0, none⟩) (Nat.le_refl _) _).setCell (p := ⟨w.heap.size, 1, none⟩) (Nat.le_refl _) _) (by omega) _ _ _ _

theorem rcrash_any (v : Value) (d : D) (A2 : Option Addr) (n2 c2 : Nat) (ks : List Bool) (w : World) (h : IsD w v d) (h2 : Sl w 1 (.slice A2 n2 c2) n2 (ks.map Value.bool)) (hk2 : ks.length = n2) (hl : d.last.length ≤ 65536) (hw : d.wait.length ≤ 65536) (hn2 : n2 ≤ 65536) :
    Calls Try.prog 14 #[v, .slice A2 n2 c2] w fun e w' => ∃ v', e = .returned v' ∧ IsD w' v' (M.crash d ks) ∧ Below w.heap.size w w' := by
  have hD := h
  obtain ⟨A, c, A1, c1, rfl, h0, h1⟩ := h.open_
  clear h h0 h1
  obtain ⟨l, wt, arm, down⟩ := d
  dsimp only at hD hl hw ⊢
  have hb0 : Below w.heap.size w ((w.alloc (.cells #[.slice A l.length c, .slice A1 wt.length c1, .int .i64 arm, .bool down] 28)).alloc (.cells z4 28)) :=
    ((Below.refl _ w).alloc (Nat.le_refl _) _).alloc (by simp) _
  go_enter Try.func14, Try.ntmps14
  go_wp2_with fail
  refine (lasts_any _ ⟨l, wt, arm, down⟩ A2 n2 c2 ks false _ (hD.below hb0) (h2.below hb0) hk2 hl hw hn2).mono ?_
  rintro e w1 ⟨A', c', rfl, ho1, hb1⟩
  dsimp only at ho1 ⊢
  obtain ⟨hX, hR, hs1, hbw1⟩ := two_boxes hb1
  have ho1' : w1.ownsRow (w.heap.size + 2) 9 1 (.slice A' l.length c') l.length ((lasTo l false wt ks wt.length).map Value.string) := own_base ho1 (by simp)
  have hll : lasTo l false wt ks wt.length = M.lasting l (M.kept wt ks) := by simp [lasTo, sel, kept_cut]
  rw [hll] at ho1'
  clear ho1 hb1 hll hk2
  obtain ⟨r0, r1', r2, r3, s0, s1, s2, s3⟩ := hR.four
  go_wp2
  refine bodyPost_ret (v := .agg #[.slice A' l.length c', .slice none 0 0, .int .i64 0, .bool false]) (by simp [results, Try.results14, go_sem, r0, r1', r2, r3]) rfl ⟨_, rfl, ?_, ?_⟩
  · have hI : IsD w1 (.agg #[.slice A' l.length c', .slice none 0 0, .int .i64 0, .bool false]) ⟨M.lasting l (M.kept wt ks), [], 0, false⟩ := ⟨_, _, rfl, by simpa [M.lasting_length] using TS.own ho1', TS.nil _ _ _⟩
    exact hI.far4 hR _ _ _ _
  · exact below_set4 hbw1 (by omega) _ _ _ _

end Go.Proofs.Ytgoggancldipcaa
