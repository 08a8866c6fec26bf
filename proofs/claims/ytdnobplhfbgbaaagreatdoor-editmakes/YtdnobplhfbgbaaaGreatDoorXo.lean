/-
  Contracts: copied, mayBegin of edit.
-/
import Derived.Test.YtdnobplhfbgbaaaGreatDoorXg
namespace Go.Proofs.YtdnobplhfbgbaaaGreatDoor
open Go.RowKit Go.Joins

theorem Bx.same0 {w : World} {g : Nat} {t : TypeId} {cs cs' : Array Value} (h : Bx w g t cs) (h' : Bx w g t cs') : cs = cs' := by
  unfold Bx at h h'
  rw [h] at h'
  injection h' with h'
  injection h'
theorem set_next {t : List PT.N} {k : Nat} {n z : PT.N} (hn : t[k]? = some n) (hk : k < 9) : (t.take k ++ List.replicate (9 - k) z).set k n = t.take (k + 1) ++ List.replicate (9 - (k + 1)) z := by
  have hlt := (List.getElem?_eq_some_iff.1 hn).1
  have hl : (t.take k).length = k := by rw [List.length_take]; omega
  rw [List.set_append_right _ _ (by omega), hl, Nat.sub_self, show 9 - k = (9 - (k + 1)) + 1 by omega, List.replicate_succ, List.set_cons_zero, List.take_add_one, hn, List.append_assoc]
  rfl
set_option maxRecDepth 100000 in
set_option maxHeartbeats 8000000 in
theorem ecopied_any (A : Option Addr) (c : Nat) (t : List PT.N) (w : World) (h : Ts w (.slice A 9 c) t) (h9 : t.length = 9) (hfit : ∀ n ∈ t, n.body.size ≤ 120) : Calls Tryz.prog 115 #[.slice A 9 c] w fun e w' => ∃ g c', e = .returned (.slice (some ⟨g, 0, none⟩) 9 c') ∧ To 27 w' w.heap.size (.slice (some ⟨g, 0, none⟩) 9 c') t ∧ Below w.heap.size w w' := by
  have H := Lib.hid h
  have H9 := Lib.hid h9
  have HF := Lib.hid hfit
  have hmk := make9 w
  have hb1 := al w (.cells zeros9 27)
  have hz := Bx.new w 27 zeros9
  have hto := zeros_To _ _ hz
  have hz1 : (w.alloc (.cells zeros9 27)).heap.size = w.heap.size + 1 := by simp
  clear h h9 hfit hz
  go_enter Tryz.func115, Tryz.ntmps115
  go_upto_region 2 with fail
  generalize hw1 : w.alloc (.cells zeros9 27) = w1 at *
  generalize hgx : w.heap.size = gx at *
  have HB1 := Lib.hid hb1
  have HTO := Lib.hid hto
  have HGX := Lib.hid hgx
  clear hmk hb1 hto hw1 hgx hz1
  go_wp2
  go_loopw [11] (fun iv wr => ∃ k : Nat, k ≤ 9 ∧ iv = .int .i64 (k : Int) ∧ To 27 wr gx (.slice (some ⟨gx, 0, none⟩) 9 9) (t.take k ++ List.replicate (9 - k) PT.zero) ∧ Below gx w wr) (fun iv _ => 9 - (intOf iv).toNat)
  case atStart => exact ⟨0, by decide, rfl, by simpa using HTO.out, HB1.out⟩
  case round =>
    obtain ⟨k, hk9, rfl, hO, hB⟩ := hrel
    have hBw : Below w.heap.size w wr := by rw [HGX.out]; exact hB
    by_cases hk : k < 9
    · obtain ⟨b0, o0, rfl, hb0, hcell⟩ := (H.out.below hBw).at (by rw [H9.out]; decide)
      obtain ⟨n, hn⟩ : ∃ n, t[k]? = some n := ⟨_, List.getElem?_eq_getElem (by rw [H9.out]; exact hk)⟩
      obtain ⟨g0, g1, g2⟩ := hcell k n hn
      have hsz := HF.out n (List.mem_of_getElem? hn)
      have hnx := set_next (z := PT.zero) hn hk
      have hd : decide ((k : Int) < 9) = true := by simp; omega
      have hll : (t.take k ++ List.replicate (9 - k) PT.zero).length = 9 := by
        have := (List.getElem?_eq_some_iff.1 hn).1
        simp; omega
      obtain ⟨kd, md, s⟩ := n
      dsimp only at g0 g1 g2 hsz
      have hlt : gx < wr.heap.size := by
        obtain ⟨cur, hbr, _⟩ := hO.box (by decide)
        exact hbr.lt
      have hba := hB.alloc (Nat.le_of_lt hlt) (.cells #[.int .i64 kd, .int .i64 md, .string s] 27)
      have hbx := Bx.new wr 27 #[.int .i64 kd, .int .i64 md, .string s]
      have hO1 := hO.on (al wr (.cells #[.int .i64 kd, .int .i64 md, .string s] 27))
      have hcl := clone_any s (wr.alloc (.cells #[.int .i64 kd, .int .i64 md, .string s] 27)) (by omega)
      have HNX := Lib.hid hnx
      have HLL := Lib.hid hll
      clear hcell hn hnx hsz hO hll
      generalize t.take k ++ List.replicate (9 - k) PT.zero = P at *
      go_upto_region 5 with fail
      generalize hw2 : wr.alloc (.cells #[.int .i64 kd, .int .i64 md, .string s] 27) = w2 at *
      have hgw : wr.heap.size < w2.heap.size := by rw [← hw2]; simp
      clear hw2
      generalize wr.heap.size = gy at *
      obtain ⟨c0, c1, c2⟩ := hbx.tri
      have HBX := Lib.hid hbx
      have HO1 := Lib.hid hO1
      have HBA := Lib.hid hba
      clear hbx hO1 hba g0 g1 g2 hb0 hB hBw
      go_wp2_with (go_at_call 92; go_loud (refine hcl.mono ?_; rintro e w3 ⟨rfl, hB3⟩; clear c0 c1 c2; have hx3 := HBX.out.on hB3; obtain ⟨c0, c1, c2⟩ := hx3.tri; have e2 := hx3.frozen 2; have hx3' := hx3.set 2 (.string s); simp at hx3'; have c0' := hx3'.cell 0; have c1' := hx3'.cell 1; have c2' := hx3'.cell 2; simp at c0' c1' c2'; have hO3 := HO1.out.on hB3; obtain ⟨cur, hbr, hge, hsz, hnc⟩ := hO3.box (by decide); have hbr' := hbr.far (p := ⟨gy, 2, none⟩) (by show gx ≠ gy; omega) (.string s); have d0 := (hbr'.cell (k * 3)).trans (Array.getElem?_eq_getElem (by omega)); have d1 := (hbr'.cell (k * 3 + 1)).trans (Array.getElem?_eq_getElem (by omega)); have d2 := (hbr'.cell (k * 3 + 2)).trans (Array.getElem?_eq_getElem (by omega)); have f0 := hbr'.frozen (k * 3); have f1 := hbr'.frozen (k * 3 + 1); have f2 := hbr'.frozen (k * 3 + 2)))
      go_roundw
      case rel =>
        have hb4 := (HBA.out.trans (hB3.mono (by omega))).setCell (p := ⟨gy, 2, none⟩) (by show gx ≤ gy; omega) (.string s)
        have hO4 : To 27 (w3.setCell ⟨gy, 2, none⟩ (.string s)) gx (.slice (some ⟨gx, 0, none⟩) 9 9) P := ⟨hO3.1, .inr ⟨gx, 9, cur, by rw [HLL.out], Nat.le_refl _, hbr', by
          rcases hO3.2 with ⟨e, _⟩ | ⟨g', cap', cur', e, _, hh, _, hr⟩
          · cases e
          · injection e with e1 e2 e3
            injection e1 with e1
            injection e1 with e1
            subst e1 e3
            have := Bx.same0 (show Bx w3 gx 27 cur from hbr) (show Bx w3 gx 27 cur' from hh)
            subst this
            exact ⟨by omega, hr⟩⟩⟩
        have hO5 := hO4.set (k := k) HLL.out hk ⟨kd, md, s⟩
        rw [HNX.out] at hO5
        exact ⟨k + 1, by omega, by go_num, hO5, ((hb4.setCell (p := ⟨gx, k * 3, none⟩) (Nat.le_refl _) _).setCell (p := ⟨gx, k * 3 + 1, none⟩) (Nat.le_refl _) _).setCell (p := ⟨gx, k * 3 + 2, none⟩) (Nat.le_refl _) _⟩
      case measure => simp [intOf]; omega
    · have hk9' : k = 9 := by omega
      have hd : decide ((k : Int) < 9) = false := by simp; omega
      rw [List.take_of_length_le (by rw [H9.out]; omega), show 9 - k = 0 by omega, List.replicate_zero, List.append_nil] at hO
      clear hk9'
      go_wp2
      go_ret
      have hgx := HGX.out
      subst hgx
      exact ⟨_, _, rfl, hO, hB⟩
set_option maxRecDepth 100000 in
set_option maxHeartbeats 4000000 in
theorem emayBegin_any (kd md : Int) (s : ByteArray) (w : World) : Calls Tryz.prog 116 #[.agg #[.int .i64 kd, .int .i64 md, .string s]] w fun e w' => e = .returned (.bool ((decide (kd = 1) || decide (kd = 2)) && (decide (0 ≤ md) && decide (md ≤ 255)))) ∧ Below w.heap.size w w' := by
  have hb1 := al w (.cells #[.int .i64 kd, .int .i64 md, .string s] 94)
  have hbx1 := Bx.new w 94 #[.int .i64 kd, .int .i64 md, .string s]
  have hz1 : w.heap.size ≤ (w.alloc (.cells #[.int .i64 kd, .int .i64 md, .string s] 94)).heap.size := hb1.size
  obtain ⟨R, hR⟩ : ∃ R, ((decide (kd = 1) || decide (kd = 2)) && (decide (0 ≤ md) && decide (md ≤ 255))) = R := ⟨_, rfl⟩
  rw [hR]
  have HR := Lib.hid hR
  clear hR
  go_enter Tryz.func116, Tryz.ntmps116
  go_upto_region 1 with fail
  generalize w.alloc (.cells #[.int .i64 kd, .int .i64 md, .string s] 94) = w1 at *
  generalize hgx : w.heap.size = gx at *
  have HGX := Lib.hid hgx
  have HB := Lib.hid hb1
  have HX := Lib.hid hbx1
  clear hgx hb1
  obtain ⟨c0, c1, c2⟩ := hbx1.tri94
  clear hbx1
  have hfo := efolder_any ⟨kd, md, s⟩ w1
  unfold nodeV at hfo
  by_cases hA : md < 0
  · have m1 : decide (md ≥ 0) = false := by simp; omega
    have hRf : R = false := by rw [← HR.out, show decide (0 ≤ md) = false by simp; omega]; simp
    subst hRf
    by_cases h1 : kd = 1
    · have k1 : (kd == 1) = true := by simpa using h1
      clear h1 hA
      go_wp2
      go_ret
      have hgx := HGX.out
      subst hgx
      exact ⟨rfl, HB.out⟩
    · have k1 : (kd == 1) = false := by simpa using h1
      obtain ⟨b, hb⟩ : ∃ b, decide (kd = 2) = b := ⟨_, rfl⟩
      dsimp only at hfo
      rw [hb] at hfo
      clear h1 hA hb
      cases b
      all_goals
        go_wp2_with (go_at_call 125; go_loud (refine hfo.mono ?_; rintro e w2 ⟨rfl, hB2⟩; have hx2 := HX.out.on hB2; clear c0 c1 c2; obtain ⟨c0, c1, c2⟩ := hx2.tri94))
        go_ret
        have hgx := HGX.out
        subst hgx
        exact ⟨rfl, HB.out.trans (hB2.mono hz1)⟩
  · have m1 : decide (md ≥ 0) = true := by simp; omega
    have m2 : ∃ b, decide (md ≤ 255) = b := ⟨_, rfl⟩
    obtain ⟨b2, m2⟩ := m2
    by_cases h1 : kd = 1
    · have k1 : (kd == 1) = true := by simpa using h1
      have hRf : R = b2 := by rw [← HR.out, show decide (0 ≤ md) = true by simp; omega, m2, show decide (kd = 1) = true by simp [h1]]; simp
      subst hRf
      clear h1 hA
      cases R
      all_goals
        go_wp2
        go_ret
        have hgx := HGX.out
        subst hgx
        exact ⟨rfl, HB.out⟩
    · have k1 : (kd == 1) = false := by simpa using h1
      obtain ⟨b, hb⟩ : ∃ b, decide (kd = 2) = b := ⟨_, rfl⟩
      have hRf : R = (b && b2) := by rw [← HR.out, show decide (0 ≤ md) = true by simp; omega, m2, show decide (kd = 1) = false by simp [h1], hb]; simp
      subst hRf
      dsimp only at hfo
      rw [hb] at hfo
      clear h1 hA hb
      cases b <;> cases b2
      all_goals
        go_wp2_with (go_at_call 125; go_loud (refine hfo.mono ?_; rintro e w2 ⟨rfl, hB2⟩; have hx2 := HX.out.on hB2; clear c0 c1 c2; obtain ⟨c0, c1, c2⟩ := hx2.tri94))
        go_ret
        have hgx := HGX.out
        subst hgx
        exact ⟨rfl, HB.out.trans (hB2.mono hz1)⟩
end Go.Proofs.YtdnobplhfbgbaaaGreatDoor
