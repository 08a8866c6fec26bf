/-
  Contracts: tree's down, Find.
  Contracts: slices.Equal at nodes, tree's Same.
-/
import Derived.Test.YtdnobplhfbgbaaaGreatDoorMUs
namespace Go.Proofs.YtdnobplhfbgbaaaGreatDoor
open Go.RowKit Go.Joins

theorem PT.atz_at {t : List PT.N} {k : Nat} {n : PT.N} (h : t[k]? = some n) : PT.atz t ((k : Int) + 1) = n := by
  have hk := (List.getElem?_eq_some_iff.1 h).1
  unfold PT.atz
  rw [if_pos (by omega), show ((k : Int) + 1 - 1).toNat = k by omega, h]
  rfl
set_option maxRecDepth 100000 in
set_option maxHeartbeats 8000000 in
theorem down_any (v u : Value) (t : List PT.N) (ss : List ByteArray) (w : World) (h : Ts w v t) (g : PT.Fine t) (hs : Ss w u ss) : Calls Tryz.prog 63 #[v, u] w fun e w' => e = .returned (.tuple #[.int .i64 (PT.walk t 0 ss).1, .int .i64 (PT.walk t 0 ss).2]) ∧ Below w.heap.size w w' := by
  obtain ⟨U, d, rfl⟩ := hs.form
  have hl := hs.2.2
  generalize hM : ss.length = M at *
  obtain ⟨p, hp⟩ : ∃ p, PT.walk t 0 ss = p := ⟨_, rfl⟩
  rw [hp]
  obtain ⟨r0, hr0, _⟩ := g.root
  have H := Lib.hid h
  have HS := Lib.hid hs
  have HM := Lib.hid hM
  have G := Lib.hid g
  have HP := Lib.hid hp
  clear h hs hM g hp
  go_enter Tryz.func63, Tryz.ntmps63
  go_wp2
  go_loopw [6, 14] (fun at_ i wr => ∃ (j k : Nat) (n : PT.N), j ≤ M ∧ i = .int .i64 (j : Int) ∧ at_ = .int .i64 ((k : Int) + 1) ∧ k < 9 ∧ t[k]? = some n ∧ PT.walk t k (ss.drop j) = p ∧ Below w.heap.size w wr) (fun _ i _ => M - (intOf i).toNat)
  case atStart => exact ⟨0, 0, r0, Nat.zero_le _, rfl, rfl, by decide, hr0, HP.out, Below.refl _ _⟩
  case round =>
    obtain ⟨j, k, n, hj, rfl, rfl, hk9, hn, hwp, hB⟩ := hrel
    by_cases hlt : j < M
    · obtain ⟨b1, o1, rfl, hb1, hcs⟩ := (HS.out.below hB).at (by rw [HM.out]; omega)
      obtain ⟨x, hx⟩ : ∃ x, ss[j]? = some x := ⟨_, List.getElem?_eq_getElem (by rw [HM.out]; omega)⟩
      have hxc := hcs j x hx
      have hdr : ss.drop j = x :: ss.drop (j + 1) := by
        obtain ⟨hlt', rfl⟩ := List.getElem?_eq_some_iff.1 hx
        exact List.drop_eq_getElem_cons hlt'
      rw [hdr] at hwp
      have hat := at_any v t ((k : Int) + 1) wr (H.out.below hB)
      rw [PT.atz_at hn] at hat
      have hd : decide ((j : Int) < (M : Int)) = true := by simp; omega
      have hnm := PT.names_at hn
      have hno := PT.has_no (x := x) hn
      have hyes := PT.has_yes (x := x) G.out hn
      have hnf := PT.not_folder (x := x) hn
      obtain ⟨kd, md, s⟩ := n
      dsimp only [nodeV] at hat
      have HNO := Lib.hid hno
      have HYES := Lib.hid hyes
      have HNF := Lib.hid hnf
      have HW := Lib.hid hwp
      have HNM := Lib.hid hnm
      clear hno hyes hnf hwp hdr hcs hx hn hnm
      go_upto_region 6 with (go_at_call 57; refine hat.mono ?_; rintro e w1 ⟨rfl, hB1⟩)
      have hb1' := hB.trans (hB1.mono hB.size)
      have hbn := hb1'.alloc hb1'.size (.cells #[.int .i64 kd, .int .i64 md, .string s] 78)
      have hbx := Bx.new w1 78 #[.int .i64 kd, .int .i64 md, .string s]
      have hfo := folder_any ⟨kd, md, s⟩ (w1.alloc (.cells #[.int .i64 kd, .int .i64 md, .string s] 78))
      generalize w1.alloc (.cells #[.int .i64 kd, .int .i64 md, .string s] 78) = w2 at *
      generalize hgx : w1.heap.size = gx at *
      obtain ⟨c0, c1, c2⟩ := hbx.tri64
      have hz2 := hbn.size
      clear hxc hb1' hat hB1
      by_cases hk2 : kd = 2
      · rw [show decide ((⟨kd, md, s⟩ : PT.N).kind = 2) = true by simp [hk2]] at hfo
        have hnn := nnames_any ⟨kd, md, s⟩
        rw [← HNM.out] at hnn
        have hsr := HNM.out ▸ PT.ents_srt ⟨kd, md, s⟩
        obtain ⟨hA, hF⟩ := PD.find_same x hsr
        have hno := HNO.out hk2
        have hyes := HYES.out
        generalize PT.names t k = m at *
        have hfd := fun v W (h : Es W v m) => find_any v m x W h
        rw [hA, hF] at hfd
        obtain ⟨f, hf⟩ : ∃ f, PD.rfind m x = f := ⟨_, rfl⟩
        obtain ⟨b, hb⟩ : ∃ b, PD.has m x = b := ⟨_, rfl⟩
        rw [hf, hb] at hfd
        have HFD := Lib.hid hfd
        have HNN := Lib.hid hnn
        cases b with
        | false =>
          have hp2 : p = (0, 2) := HW.out.symm.trans (hno hb _)
          subst hp2
          clear hfd hnn hno hyes hA hF hsr hf hb hk2
          go_wp2_with (first | (go_at_call 109; refine hfd2.mono ?_; rintro e w5 ⟨rfl, hB5⟩) | (go_at_call 110; refine hn3.mono ?_; rintro e w4 ⟨v4, rfl, hO4, hF4, hB4⟩; have hb4 := hb3.trans (hB4.mono hb3.size); have hfd2 := HFD.out v4 w4 (hO4.row hF4)) | (go_at_call 58; refine hfo.mono ?_; rintro e w3 ⟨rfl, hB3⟩; have hx3 := hbx.on hB3; clear c0 c1 c2; obtain ⟨c0, c1, c2⟩ := hx3.tri64; have hb3 := hbn.trans (hB3.mono hz2); have hn3 := HNN.out w3))
          go_ret2
          exact ⟨rfl, hb4.trans (hB5.mono hb4.size)⟩
        | true =>
          rw [hf, hb] at hyes
          obtain ⟨i, n2, h1, h2, h3, h4⟩ := hyes rfl
          subst h1
          have HX := Lib.hid (And.intro h3 ((h4 _).symm.trans HW.out))
          clear hfd hnn hno hA hF hsr hf hb hk2 h3 h4
          go_wp2_with (first | (go_at_call 109; refine hfd2.mono ?_; rintro e w5 ⟨rfl, hB5⟩) | (go_at_call 110; refine hn3.mono ?_; rintro e w4 ⟨v4, rfl, hO4, hF4, hB4⟩; have hb4 := hb3.trans (hB4.mono hb3.size); have hfd2 := HFD.out v4 w4 (hO4.row hF4)) | (go_at_call 58; refine hfo.mono ?_; rintro e w3 ⟨rfl, hB3⟩; have hx3 := hbx.on hB3; clear c0 c1 c2; obtain ⟨c0, c1, c2⟩ := hx3.tri64; have hb3 := hbn.trans (hB3.mono hz2); have hn3 := HNN.out w3))
          go_roundw
          case rel => exact ⟨j + 1, i, n2, by omega, by go_num, rfl, h2, HX.out.1, HX.out.2, hb4.trans (hB5.mono hb4.size)⟩
          case measure => simp [intOf]; omega
      · rw [show decide ((⟨kd, md, s⟩ : PT.N).kind = 2) = false by simp [hk2]] at hfo
        have hp2 : p = (0, 5) := HW.out.symm.trans (HNF.out hk2 _)
        subst hp2
        clear hk2
        go_wp2_with (go_at_call 58; refine hfo.mono ?_; rintro e w3 ⟨rfl, hB3⟩)
        go_ret2
        exact ⟨rfl, hbn.trans (hB3.mono hz2)⟩
    · have hjM : j = M := by omega
      subst hjM
      rw [List.drop_of_length_le (by rw [HM.out]; exact Nat.le_refl _)] at hwp
      have hp2 : p = (((k + 1 : Nat) : Int), 0) := hwp.symm
      subst hp2
      have hd : decide ((j : Int) < (j : Int)) = false := by simp
      clear hwp
      go_wp2
      go_ret2
      exact ⟨rfl, hB⟩
set_option maxRecDepth 100000 in
set_option maxHeartbeats 4000000 in
theorem tfind_any (v : Value) (t : List PT.N) (s : ByteArray) (o : Bool) (w : World) (hw : Ml w) (h : Ts w v t) (g : PT.Fine t) (hs : s.size ≤ 65535) : Calls Tryz.prog 16 #[v, .string s, .bool o] w fun e w' => e = .returned (.tuple #[.int .i64 (PT.find t (PT.pp o s)).1, .int .i64 (PT.find t (PT.pp o s)).2]) ∧ Below w.heap.size w w' := by
  have hp := parts_any s o w hw hs
  cases hi : PN.is o s with
  | false =>
    rw [PT.pp_no hi]
    rw [hi] at hp
    clear hi h g
    go_enter Tryz.func16, Tryz.ntmps16
    go_wp2_with (go_at_call 62; refine hp.mono ?_; rintro e w1 ⟨u, rfl, hO, hB⟩)
    go_ret2
    exact ⟨rfl, hB⟩
  | true =>
    rw [PT.pp_yes hi]
    rw [hi] at hp
    have hw := fun W (hW : Below w.heap.size w W) u (hu : Ss W u (PN.pt o s)) => down_any v u t _ W (h.below hW) g hu
    have hf : PT.find t (some (PN.pt o s)) = PT.walk t 0 (PN.pt o s) := rfl
    rw [hf]
    generalize PT.walk t 0 (PN.pt o s) = p at *
    have HW := Lib.hid hw
    clear hi h g hw hf
    go_enter Tryz.func16, Tryz.ntmps16
    go_wp2_with (first | (go_at_call 63; refine (HW.out _ hB u hO.small).mono ?_; rintro e w2 ⟨rfl, hB2⟩) | (go_at_call 62; refine hp.mono ?_; rintro e w1 ⟨u, rfl, hO, hB⟩))
    go_ret2
    exact ⟨rfl, hB.trans (hB2.mono hB.size)⟩
end Go.Proofs.YtdnobplhfbgbaaaGreatDoor
namespace Go.Proofs.YtdnobplhfbgbaaaGreatDoor
open Go.RowKit Go.Joins

set_option maxHeartbeats 4000000 in
theorem equal_any (v u : Value) (a b : List PT.N) (w : World) (h : Ts w v a) (h' : Ts w u b) : Calls Tryz.prog 102 #[v, u] w fun e w' => e = .returned (.bool (decide (a = b))) ∧ Below w.heap.size w w' := by
  obtain ⟨A, c, rfl⟩ := h.form
  obtain ⟨A', c', rfl⟩ := h'.form
  have hl := h.2.2
  by_cases hab : a.length = b.length
  · rw [hab] at h hl ⊢
    have HS := Lib.hid h
    have HS' := Lib.hid h'
    generalize hL : b.length = L at *
    have HL := Lib.hid hL
    have HA := Lib.hid hab
    clear h hL h' hab
    obtain ⟨D, hD⟩ : ∃ D, decide (a = b) = D := ⟨_, rfl⟩
    rw [hD]
    have HD := Lib.hid hD
    clear hD
    go_enter Tryz.func102, Tryz.ntmps102
    go_wp2
    go_loopw [13] (fun i wr => ∃ k : Nat, k ≤ L ∧ i = .int .i64 (k : Int) ∧ Below w.heap.size w wr ∧ a.take k = b.take k) (fun i _ => L - (intOf i).toNat)
    case atStart => exact ⟨0, Nat.zero_le _, rfl, Below.refl _ _, rfl⟩
    case round =>
      obtain ⟨k, hk, rfl, hB, hT⟩ := hrel
      by_cases hlt : k < L
      · obtain ⟨b0, o0, rfl, hb0, hcell⟩ := (HS.out.below hB).at (by rw [HA.out]; omega)
        obtain ⟨b1, o1, rfl, hb1, hcell'⟩ := (HS'.out.below hB).at (by rw [HL.out]; omega)
        obtain ⟨x, hx⟩ : ∃ x, a[k]? = some x := ⟨_, List.getElem?_eq_getElem (by rw [HA.out]; omega)⟩
        obtain ⟨y, hy⟩ : ∃ y, b[k]? = some y := ⟨_, List.getElem?_eq_getElem (by rw [HL.out]; omega)⟩
        obtain ⟨g0, g1, g2⟩ := hcell k x hx
        obtain ⟨g3, g4, g5⟩ := hcell' k y hy
        have hE := take_eq_at hT hx hy
        have hN := take_ne_at hx hy
        obtain ⟨k1, m1, s1⟩ := x
        obtain ⟨k2, m2, s2⟩ := y
        dsimp only at g0 g1 g2 g3 g4 g5
        clear hcell hcell' hx hy hb0 hb1
        by_cases e1 : k1 = k2
        · subst e1
          by_cases e2 : m1 = m2
          · subst e2
            by_cases e3 : s1 = s2
            · subst e3
              have hq := seq_yes s1
              have hE' := Lib.hid (hE.2 rfl)
              clear hE hN
              go_wp2_with fail
              go_quiet (fail)
              go_wp2
              go_roundw
              case rel => exact ⟨k + 1, by omega, by go_num, drewN_below hB _, hE'.out⟩
              case measure => simp [intOf]; omega
            · have hq := seq_no e3
              have hDf : D = false := by rw [← HD.out]; exact decide_eq_false (hN fun e => by injection e; contradiction)
              subst hDf
              clear hE hN
              go_wp2_with fail
              go_quiet (fail)
              go_wp2
              go_ret
              exact ⟨rfl, drewN_below hB _⟩
          · have hDf : D = false := by rw [← HD.out]; exact decide_eq_false (hN fun e => by injection e; contradiction)
            subst hDf
            clear hE hN
            go_wp2_with fail
            go_quiet (fail)
            go_wp2
            go_ret
            exact ⟨rfl, drewN_below hB _⟩
        · have hDf : D = false := by rw [← HD.out]; exact decide_eq_false (hN fun e => by injection e; contradiction)
          subst hDf
          clear hE hN
          go_wp2_with fail
          go_quiet (fail)
          go_wp2
          go_ret
          exact ⟨rfl, drewN_below hB _⟩
      · have hDt : D = true := by
          rw [← HD.out]
          have hkL : k = L := by omega
          subst hkL
          rw [List.take_of_length_le (by rw [HA.out]; exact Nat.le_refl _), List.take_of_length_le (by rw [HL.out]; exact Nat.le_refl _)] at hT
          exact decide_eq_true hT
        subst hDt
        clear HS HS' HL HA HD hT
        go_wp2
        go_ret
        exact ⟨rfl, hB⟩
  · have hDf : decide (a = b) = false := decide_eq_false fun e => hab (by rw [e])
    rw [hDf]
    generalize a.length = L at *
    generalize b.length = M at *
    have hne : ¬ (L : Int) = (M : Int) := by omega
    clear h h' hDf hab
    go_enter Tryz.func102, Tryz.ntmps102
    go_wp2
    go_ret
    exact ⟨rfl, Below.refl _ _⟩
set_option maxHeartbeats 4000000 in
theorem tsame_any (v u : Value) (a b : List PT.N) (w : World) (h : Ts w v a) (h' : Ts w u b) : Calls Tryz.prog 55 #[v, u] w fun e w' => e = .returned (.bool (decide (a = b))) ∧ Below w.heap.size w w' := by
  have he := equal_any v u a b w h h'
  clear h h'
  generalize decide (a = b) = D at *
  go_enter Tryz.func55, Tryz.ntmps55
  go_wp2_with (go_at_call 102; refine he.mono ?_; rintro e w1 ⟨rfl, hB⟩)
  go_ret
  exact ⟨rfl, hB⟩
end Go.Proofs.YtdnobplhfbgbaaaGreatDoor
