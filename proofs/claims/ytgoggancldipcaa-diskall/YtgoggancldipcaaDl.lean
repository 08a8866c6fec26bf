/-
  Contract: disk.Crash; Flush for every disk.
-/
import Derived.Test.YtgoggancldipcaaDk
namespace Go.Proofs.Ytgoggancldipcaa
open Go.RowKit

theorem flush_any (v : Value) (d : D) (w : World) (h : IsD w v d) (hl : d.last.length ≤ 65536) (hw : d.wait.length ≤ 65536) :
    Calls Try.prog 11 #[v] w fun e w' => ∃ v', e = .returned (.tuple #[v', .bool (M.flush d).2]) ∧ IsD w' v' (M.flush d).1 ∧ Below w.heap.size w w' := by
  unfold M.flush
  cases hd : d.down with
  | true => simpa [hd] using flush_no v d w h hl hw hd
  | false => simpa [hd] using flush_yes v d w h hl hw hd

set_option maxHeartbeats 1000000 in
theorem crash_any (v : Value) (d : D) (A2 : Option Addr) (c2 : Nat) (ks : List Bool) (w : World) (h : IsD w v d) (h2 : Sl w 1 (.slice A2 ks.length c2) ks.length (ks.map Value.bool)) (hl : d.last.length ≤ 65536) (hw : d.wait.length ≤ 65536) (hk : ks.length ≤ 65536) :
    Calls Try.prog 13 #[v, .slice A2 ks.length c2] w fun e w' => ∃ v', e = .returned v' ∧ IsD w' v' (M.crash d ks) ∧ Below w.heap.size w w' := by
  obtain ⟨A, c, A1, c1, rfl, h0, h1⟩ := h.open_
  clear h
  obtain ⟨l, wt, arm, down⟩ := d
  dsimp only at h0 h1 hl hw ⊢
  have hb0 : Below w.heap.size w ((w.alloc (.cells #[.slice A l.length c, .slice A1 wt.length c1, .int .i64 arm, .bool down] 28)).alloc (.cells z4 28)) :=
    ((Below.refl _ w).alloc (Nat.le_refl _) _).alloc (by simp) _
  have hkl : (M.kept wt ks).length ≤ 65536 := by have := M.kept_length wt ks; omega
  go_enter Try.func13, Try.ntmps13
  go_wp2_with fail
  go_region_held3 (fun w' => w'.cell? ⟨w.heap.size, 0, none⟩ = some (.slice A l.length c) ∧ w'.cell? ⟨w.heap.size, 1, none⟩ = some (.slice A1 wt.length c1))
    (first | go_keep | exact ⟨p0, p1⟩ | exact ⟨q0, q1⟩)
    (first
      | (go_at_call 26; refine (kept_any A1 c1 A2 c2 wt ks _ (h1.below (by exact hb0.drew)) (h2.below (by exact hb0.drew)) hw hk).mono ?_; rintro e w1 ⟨A', c', rfl, ho1, hb1⟩; obtain ⟨hx1, hr1, hs1, hbw1⟩ := two_boxes (below_undrew hb1); obtain ⟨q0, q1, _, _, _, _, _, _⟩ := hx1.four)
      | (go_at_call 24; refine (lasting_any A c A' c' l (M.kept wt ks) _ (h0.below hbw1) (Sl.own ho1) hl hkl).mono ?_; rintro e w2 ⟨A2', c2', rfl, ho2, hb2⟩; have hx2 := hx1.below hb2 (by omega); have hr2 := hr1.below hb2 (by omega); obtain ⟨p0, p1, _, _, _, _, _, _⟩ := hx2.four; obtain ⟨r0, r1', r2, r3, s0, s1, s2, s3⟩ := hr2.four))
  have ho2' : w2.ownsRow (w.heap.size + 2) 9 1 (.slice A2' l.length c2') l.length ((M.lasting l (M.kept wt ks)).map Value.string) := own_base ho2 (by omega)
  have hbw2 := hbw1.trans (hb2.mono (by omega))
  go_wp2
  refine bodyPost_ret (v := .agg #[.slice A2' l.length c2', .slice none 0 0, .int .i64 0, .bool false]) (by simp [results, Try.results13, go_sem, r0, r1', r2, r3]) rfl ⟨_, rfl, ?_, ?_⟩
  · exact ⟨_, _, rfl, by simpa [M.crash, M.lasting_length] using TS.own (own_set4 ho2' (by omega) _ _ _ _), TS.nil _ _ _⟩
  · exact below_set4 hbw2 (by omega) _ _ _ _

end Go.Proofs.Ytgoggancldipcaa
