/-
  Contracts: dir.may, dir.rise.
-/
import Derived.Test.YtckkljiaicmljaaQb
namespace Go.Proofs.Ytckkljiaicmljaa
open Go.RowKit Go.Joins

theorem Bx.pair {w : World} {g : Nat} {s : ByteArray} {z : Int} (h : Bx w g 26 #[.string s, .int .i64 z]) : w.cell? ⟨g, 0, none⟩ = some (.string s) ∧ w.cell? ⟨g, 1, none⟩ = some (.int .i64 z) := ⟨h.cell 0, h.cell 1⟩

set_option maxHeartbeats 2000000 in
theorem may_any (s : ByteArray) (z : Int) (w : World) : Calls Try.prog 26 #[.agg #[.string s, .int .i64 z]] w fun e w' => e = .returned (.bool (PD.may (s, z))) ∧ Below w.heap.size w w' := by
  have hf : PD.may (s, z) = (PN.own s.data.toList && (decide (1 ≤ z) && decide (z ≤ 9))) := rfl
  rw [hf]
  have ho := own_any s
  have hB := al w (.cells #[.string s, .int .i64 z] 26)
  obtain ⟨c0, c1⟩ := (Bx.new w 26 #[.string s, .int .i64 z]).pair
  generalize PN.own s.data.toList = o at *
  clear hf
  cases o
  · go_enter Try.func26, Try.ntmps26
    go_wp2_with (go_at_call 28; refine (ho _).mono ?_; rintro e w1 ⟨rfl, rfl⟩)
    go_ret
    exact ⟨rfl, hB⟩
  · by_cases h1 : 1 ≤ z
    · have e1 : decide (1 ≤ z) = true := by simpa using h1
      rw [e1]
      go_enter Try.func26, Try.ntmps26
      go_wp2_with (go_at_call 28; refine (ho _).mono ?_; rintro e w1 ⟨rfl, rfl⟩)
      go_ret
      exact ⟨by simp, hB⟩
    · have e1 : decide (1 ≤ z) = false := by simpa using h1
      rw [e1]
      go_enter Try.func26, Try.ntmps26
      go_wp2_with (go_at_call 28; refine (ho _).mono ?_; rintro e w1 ⟨rfl, rfl⟩)
      go_ret
      exact ⟨rfl, hB⟩

set_option maxHeartbeats 4000000 in
theorem rise_any (v : Value) (l : List E) (w : World) (h : Es w v l) : Calls Try.prog 20 #[v] w fun e w' => e = .returned (.bool (PD.rise l)) ∧ Below w.heap.size w w' := by
  obtain ⟨A, c, rfl⟩ := h.form
  have hl := h.2.2
  obtain ⟨f, hf⟩ : ∃ f, PD.rise l = f := ⟨_, rfl⟩
  rw [hf]
  generalize hL : l.length = L at *
  have HF := Lib.hid hf
  have HS := Lib.hid h
  have HL := Lib.hid hL
  clear hf h hL
  go_enter Try.func20, Try.ntmps20
  go_wp2
  go_loopw [3, 8] (fun s i wr => ∃ (k : Nat) (t : ByteArray), k ≤ L ∧ i = .int .i64 (k : Int) ∧ s = .string t ∧ PD.rs (l.take k) = (true, t) ∧ Below w.heap.size w wr) (fun _ i _ => L - (intOf i).toNat)
  case atStart => exact ⟨0, _, Nat.zero_le _, rfl, rfl, rfl, Below.refl _ _⟩
  case round =>
    obtain ⟨k, t, hk, rfl, rfl, ht, hB⟩ := hrel
    by_cases hlt : k < L
    · obtain ⟨b0, o0, rfl, hb0, hcell⟩ := (HS.out.below hB).at (by rw [HL.out]; omega)
      obtain ⟨x, hx⟩ : ∃ x, l[k]? = some x := ⟨_, List.getElem?_eq_getElem (by rw [HL.out]; omega)⟩
      obtain ⟨g0, g1⟩ := hcell k x hx
      have hnx : PD.rs (l.take (k + 1)) = (PD.may x && PD.lt t x.1, x.1) := by
        rw [List.take_add_one, hx]
        have := PD.rs_snoc (l.take k) x
        rw [ht] at this
        simpa [PD.step] using this
      have hno : (PD.may x && PD.lt t x.1) = false → f = false := fun e => by
        rw [← HF.out]
        exact PD.rise_front (k := k + 1) (by rw [PD.rise, hnx]; exact e)
      have hm := may_any x.1 x.2
      obtain ⟨s, z⟩ := x
      have HN := Lib.hid hnx
      have HNO := Lib.hid hno
      have HT := Lib.hid ht
      clear hcell hx hnx hno ht
      have hb1 := hB.alloc hB.size (.cells #[.string s, .int .i64 z] 26)
      have hbx := Bx.new wr 26 #[.string s, .int .i64 z]
      go_upto_region 5 with fail
      generalize wr.alloc (.cells #[.string s, .int .i64 z] 26) = w2 at *
      generalize wr.heap.size = gx at *
      clear g0 g1 hb0 hB
      obtain ⟨c0, c1⟩ := hbx.pair
      have hm2 : ∀ W, Below w2.heap.size w2 W → W.cell? ⟨gx, 0, none⟩ = some (.string s) := fun W hW => (hbx.on hW).pair.1
      have HM2 := Lib.hid hm2
      clear hm2
      generalize PD.may (s, z) = mm at *
      cases mm with
      | false =>
        have hr := HNO.out rfl
        subst hr
        go_wp2_with (go_at_call 26; refine (hm _).mono ?_; rintro e w3 ⟨rfl, hB3⟩; have c2 := HM2.out _ hB3)
        go_ret
        exact ⟨rfl, hb1.trans (hB3.mono hb1.size)⟩
      | true =>
        cases hlt2 : PD.lt t s with
        | false =>
          have hr := HNO.out (by simpa using hlt2)
          subst hr
          cases hlt3 : PD.lt s t with
          | true =>
            rw [PD.lt] at hlt3
            clear hlt2 HN HNO HT
            go_wp2_with (go_at_call 26; refine (hm _).mono ?_; rintro e w3 ⟨rfl, hB3⟩; have c2 := HM2.out _ hB3)
            go_ret
            exact ⟨rfl, hb1.trans (hB3.mono hb1.size)⟩
          | false =>
            have hst : s = t := by
              rcases Classical.em (s = t) with h | h
              · exact h
              · rw [PD.lt_total hlt3 h] at hlt2; cases hlt2
            subst hst
            rw [PD.lt] at hlt3
            have hq : (s.toList == s.toList) = true := seq_yes s
            clear hlt2 HN HNO HT
            go_wp2_with (go_at_call 26; refine (hm _).mono ?_; rintro e w3 ⟨rfl, hB3⟩; have c2 := HM2.out _ hB3)
            go_ret
            exact ⟨rfl, hb1.trans (hB3.mono hb1.size)⟩
        | true =>
          have hp : Op.bytesLess s.toList t.toList = false := PD.lt_asymm hlt2
          have hq : (s.toList == t.toList) = false := seq_no fun e => by rw [e, PD.lt_irrefl] at hlt2; cases hlt2
          have hn : PD.rs (l.take (k + 1)) = (true, s) := by rw [HN.out]; simp [hlt2]
          have HN2 := Lib.hid hn
          clear hlt2 HN HNO HT hn
          go_wp2_with (go_at_call 26; refine (hm _).mono ?_; rintro e w3 ⟨rfl, hB3⟩; have c2 := HM2.out _ hB3)
          go_roundw
          case rel => exact ⟨k + 1, s, by omega, by go_num, rfl, HN2.out, hb1.trans (hB3.mono hb1.size)⟩
          case measure => simp [intOf]; omega
    · have hkn : k = L := by omega
      subst hkn
      have hr : f = true := by
        rw [← HF.out, PD.rise]
        rw [List.take_of_length_le (by rw [HL.out]; exact Nat.le_refl _)] at ht
        rw [ht]
      subst hr
      clear HF HS HL ht
      go_wp2
      go_ret
      exact ⟨rfl, hB⟩
end Go.Proofs.Ytckkljiaicmljaa
