/-
  The law TreeSame, walked.
-/
import Derived.Test.YtniegpdllijjfaaGreatDoorWb
namespace Go.Proofs.YtniegpdllijjfaaGreatDoor
open Go.RowKit Go.Joins

/-- The front of a row of nodes. -/
theorem Ts.front {w : World} {b o n c p : Nat} {l : List PT.N} (h : Ts w (.slice (some ⟨b, o, none⟩) n c) l) (l0 : l.length = n) (hp : p ≤ n) : Ts w (.slice (some ⟨b, o, none⟩) p c) (l.take p) := by
  have hcp := h.cap
  obtain ⟨⟨⟨A', c', hv, hl, hA⟩, _⟩, hb, hm⟩ := h
  injection hv with e1 e2 e3
  subst e1 e3
  have hlen : (l.take p).length = p := by rw [List.length_take]; omega
  refine ⟨⟨⟨_, c, by rw [hlen], ns_length _, fun hn => ?_⟩, fun A n2 c2 e => by cases e; omega⟩, fun s hs => hb s (List.mem_of_mem_take hs), by rw [hlen]; omega⟩
  rw [hlen] at hn
  obtain ⟨b', o', e, hbs, hc⟩ := hA (by omega)
  refine ⟨b', o', e, hbs, fun j hj => ?_⟩
  rw [hlen] at hj
  rw [hc j (by omega), ← ns_take, List.getElem?_take, if_pos hj]
set_option maxRecDepth 100000 in
set_option maxHeartbeats 4000000 in
theorem same_out (A : Option Addr) (n c : Nat) (A' : Option Addr) (n' c' : Nat) (W : World) (hM : Ml W) (hn : 60 < n ∨ 6 < n') : Calls Tryz.prog 6 #[.slice A n c, .slice A' n' c'] W fun e W' => e = .returned (.bool true) ∧ Below W.heap.size W W' := by
  have h8 := begun_any W hM
  by_cases h60 : 60 < n
  · have hd : decide ((60 : Int) < (n : Int)) = true := by simp; omega
    go_enter Tryz.func6, Tryz.ntmps6
    go_wp2_with (go_at_call 8; refine h8.mono ?_; rintro e w1 ⟨rfl, hB1⟩)
    go_ret
    exact ⟨rfl, hB1⟩
  · have hd : decide ((60 : Int) < (n : Int)) = false := by simp; omega
    have hd2 : decide ((6 : Int) < (n' : Int)) = true := by simp; omega
    go_enter Tryz.func6, Tryz.ntmps6
    go_wp2_with (go_at_call 8; refine h8.mono ?_; rintro e w1 ⟨rfl, hB1⟩)
    go_ret
    exact ⟨rfl, hB1⟩
set_option maxRecDepth 100000 in
set_option maxHeartbeats 16000000 in
theorem same_law (A : Option Addr) (n c : Nat) (bs : List Nat) (A' : Option Addr) (n' c' : Nat) (bs' : List Nat) (W : World) (hM : Ml W) (hv : Tx W (.slice A n c) bs) (hn : bs.length = n) (h60 : n ≤ 60) (hv' : Tx W (.slice A' n' c') bs') (hn' : bs'.length = n') (h6 : n' ≤ 6) : Calls Tryz.prog 6 #[.slice A n c, .slice A' n' c'] W fun e W' => e = .returned (.bool true) ∧ Below W.heap.size W W' := by
  have h8 := begun_any W hM
  have hd60 : decide ((60 : Int) < (n : Int)) = false := by simp; omega
  have hd6 : decide ((6 : Int) < (n' : Int)) = false := by simp; omega
  have HM := Lib.hid hM
  have HV := Lib.hid (And.intro hv hv')
  clear hM hv hv'
  go_enter Tryz.func6, Tryz.ntmps6
  go_wp2_with (go_at_call 8; refine h8.mono ?_; rintro e w1 ⟨rfl, hB1⟩; have h9 := made_any A n c w1)
  refine h9.mono ?_
  rintro e w2 ⟨g, rfl, hg, hx, hB2⟩
  have hP := Pw.start hB1 hg hx hB2
  have h10 := treeP HV.out.1 hn 30 (by decide) w2 hP
  clear h9 hx hg hB1 hB2 hP
  go_wp2_with fail
  refine h10.mono ?_
  rintro e w3 ⟨v, t, rfl, hT, hG, hP3⟩
  have hb3 := hP3.1
  have hl9 := hG.fine.len
  obtain ⟨T, TC, rfl⟩ := hT.form
  rw [hl9] at hT ⊢
  have HT := Lib.hid hT
  have HG := Lib.hid hG
  have h9 := made_any A' n' c' w3
  clear h8 h10 hT hG hP3
  go_wp2_with fail
  refine h9.mono ?_
  rintro e w5 ⟨g5, rfl, hg5, hx5, hB5⟩
  have hv3 : Tx w3 (.slice A' n' c') bs' := HV.out.2.below hb3
  have h26 := grownP hv3 hn' _ t 2 (by decide) w5 (Pw.start (Below.refl _ _) hg5 hx5 hB5) (HT.out.below hB5) HG.out
  clear h9 hv3 hx5 hg5 hB5
  go_wp2_with fail
  refine h26.mono ?_
  rintro e w6 ⟨v6, u, rfl, hU, hGU, hP6⟩
  have hb6 := hP6.1
  have hu9 := hGU.fine.len
  obtain ⟨U, UC, rfl⟩ := hU.form
  rw [hu9] at hU ⊢
  have HT6 := Lib.hid (HT.out.below hb6)
  have HU := Lib.hid hU
  have HGU := Lib.hid hGU
  have hbW := hb3.trans (hb6.mono hb3.size)
  obtain ⟨D, hD⟩ : ∃ D, decide (t = u) = D := ⟨_, rfl⟩
  have HD := Lib.hid hD
  clear h26 hU hGU hP6 HT hD
  go_wp2
  go_loopw [7, 8] (fun b i wr => ∃ k : Nat, k ≤ 9 ∧ i = .int .i64 (k : Int) ∧ b = .bool (decide (t.take k = u.take k)) ∧ Below w6.heap.size w6 wr) (fun _ i _ => 9 - (intOf i).toNat)
  case atStart => exact ⟨0, by decide, rfl, by simp, Below.refl _ _⟩
  case round =>
    obtain ⟨k, hk, rfl, rfl, hB⟩ := hrel
    by_cases hlt : k < 9
    · have hd : decide ((k : Int) < 9) = true := by simp; omega
      obtain ⟨b0, o0, rfl, hb0, hcell⟩ := (HT6.out.below hB).at (by omega)
      obtain ⟨b1, o1, rfl, hb1, hcell2⟩ := (HU.out.below hB).at (by omega)
      obtain ⟨x, hx⟩ : ∃ x, t[k]? = some x := ⟨_, List.getElem?_eq_getElem (by omega)⟩
      obtain ⟨y, hy⟩ : ∃ y, u[k]? = some y := ⟨_, List.getElem?_eq_getElem (by omega)⟩
      obtain ⟨g0, g1, g2⟩ := hcell k x hx
      obtain ⟨g3, g4, g5'⟩ := hcell2 k y hy
      have i0 : (0 : Int) ≤ (k : Int) := by omega
      have i1 : (k : Int) < 9 := by omega
      by_cases hT : t.take k = u.take k
      · have hE := take_eq_at hT hx hy
        have hdt : decide (t.take k = u.take k) = true := decide_eq_true hT
        rw [hdt]
        have hN : x ≠ y → decide (t.take (k + 1) = u.take (k + 1)) = false := fun h => decide_eq_false fun e => h (hE.1 e)
        have hY : x = y → decide (t.take (k + 1) = u.take (k + 1)) = true := fun h => decide_eq_true (hE.2 h)
        obtain ⟨k1, m1, s1⟩ := x
        obtain ⟨k2, m2, s2⟩ := y
        dsimp only at g0 g1 g2 g3 g4 g5'
        clear hE hcell hcell2 hx hy hb0 hb1 hdt
        by_cases e1 : k1 = k2
        · subst e1
          by_cases e2 : m1 = m2
          · subst e2
            by_cases e3 : s1 = s2
            · subst e3
              have hq := seq_yes s1
              have HE := Lib.hid (hY rfl)
              clear hY hN hT
              go_wp2_with fail
              go_quiet (fail)
              go_wp2
              go_roundw
              case rel => exact ⟨k + 1, by omega, by go_num, by rw [HE.out], drewN_below hB _⟩
              case measure => simp [intOf]; omega
            · have hq := seq_no e3
              have HE := Lib.hid (hN fun e => by injection e; contradiction)
              clear hY hN hT
              go_wp2_with fail
              go_quiet (fail)
              go_wp2
              go_roundw
              case rel => exact ⟨k + 1, by omega, by go_num, by rw [HE.out], drewN_below hB _⟩
              case measure => simp [intOf]; omega
          · have hq : (m1 == m2) = false := by simpa using e2
            have HE := Lib.hid (hN fun e => by injection e; contradiction)
            clear hY hN hT
            go_wp2_with fail
            go_quiet (fail)
            go_wp2
            go_roundw
            case rel => exact ⟨k + 1, by omega, by go_num, by rw [HE.out], drewN_below hB _⟩
            case measure => simp [intOf]; omega
        · have hq : (k1 == k2) = false := by simpa using e1
          have HE := Lib.hid (hN fun e => by injection e; contradiction)
          clear hY hN hT
          go_wp2_with fail
          go_quiet (fail)
          go_wp2
          go_roundw
          case rel => exact ⟨k + 1, by omega, by go_num, by rw [HE.out], drewN_below hB _⟩
          case measure => simp [intOf]; omega
      · have hdt : decide (t.take k = u.take k) = false := decide_eq_false hT
        rw [hdt]
        have HE : Hid (decide (t.take (k + 1) = u.take (k + 1)) = false) := Lib.hid (decide_eq_false fun e => hT (by
          have := congrArg (List.take k) e
          simpa [List.take_take] using this))
        clear hcell hcell2 hx hy hb0 hb1 hdt hT
        go_wp2_with fail
        go_quiet (fail)
        go_wp2
        go_roundw
        case rel => exact ⟨k + 1, by omega, by go_num, by rw [HE.out], drewN_below hB _⟩
        case measure => simp [intOf]; omega
    · have hk9 : k = 9 := by omega
      subst hk9
      rw [List.take_of_length_le (by omega), List.take_of_length_le (by omega), HD.out]
      have hcp : ¬ TC < 3 := by have := HT6.out.cap; omega
      obtain ⟨b0, o0, rfl, _⟩ := HT6.out.at (by omega)
      have hb9 := hbW.trans (hB.mono hbW.size)
      have hc : ∀ W, Below w6.heap.size w6 W → True ∧
          Calls Tryz.prog 14 #[.slice (some ⟨b0, o0, none⟩) 9 TC, .slice U 9 UC] W (fun e w' => e = .returned (.bool D) ∧ Below W.heap.size W w') ∧
          Calls Tryz.prog 14 #[.slice U 9 UC, .slice (some ⟨b0, o0, none⟩) 9 TC] W (fun e w' => e = .returned (.bool D) ∧ Below W.heap.size W w') ∧
          Calls Tryz.prog 14 #[.slice (some ⟨b0, o0, none⟩) 9 TC, .slice (some ⟨b0, o0, none⟩) 9 TC] W (fun e w' => e = .returned (.bool true) ∧ Below W.heap.size W w') ∧
          Calls Tryz.prog 14 #[.slice (some ⟨b0, o0, none⟩) 9 TC, .slice (some ⟨b0, o0, none⟩) 3 TC] W (fun e w' => e = .returned (.bool false) ∧ Below W.heap.size W w') ∧
          Calls Tryz.prog 12 #[.slice U 9 UC] W (fun e w' => e = .returned (.bool true) ∧ Below W.heap.size W w') := by
        intro W hb
        have t1 := HT6.out.below hb
        have u1 := HU.out.below hb
        refine ⟨trivial, ?_, ?_, ?_, ?_, ?_⟩
        · have := tsame_any _ _ t u W t1 u1
          rw [HD.out] at this
          exact this
        · have := tsame_any _ _ u t W u1 t1
          rw [show decide (u = t) = D by rw [← HD.out]; exact decide_eq_decide.2 eq_comm] at this
          exact this
        · have := tsame_any _ _ t t W t1 t1
          rw [decide_eq_true rfl] at this
          exact this
        · have := tsame_any _ _ t (t.take 3) W t1 (t1.front hl9 (by decide))
          rw [decide_eq_false fun e => by have := congrArg List.length e; rw [List.length_take] at this; omega] at this
          exact this
        · have := may_any' _ u W u1
          rw [(PT.may_iff u).2 HGU.out.fine] at this
          exact this
      have HC := Lib.hid hc
      have k1 := (HC.out wr hB).2.1
      have hDD : (D == D) = true := beq_self_eq_true D
      clear hc
      go_wp2_with fail
      refine k1.mono ?_
      rintro e w7 ⟨rfl, hB7⟩
      have q7 := hB.trans (hB7.mono hB.size)
      have k2 := (HC.out w7 q7).2.2.1
      clear k1 hB7
      go_wp2_with fail
      refine k2.mono ?_
      rintro e w8 ⟨rfl, hB8⟩
      have q8 := q7.trans (hB8.mono q7.size)
      have k3 := (HC.out w8 q8).2.2.2.1
      clear k2 hB8
      go_wp2_with fail
      refine k3.mono ?_
      rintro e w9 ⟨rfl, hB9⟩
      have q9 := q8.trans (hB9.mono q8.size)
      have k4 := (HC.out w9 q9).2.2.2.2.1
      clear k3 hB9
      go_wp2_with fail
      refine k4.mono ?_
      rintro e w10 ⟨rfl, hB10⟩
      have q10 := q9.trans (hB10.mono q9.size)
      have k5 := (HC.out w10 q10).2.2.2.2.2
      clear k4 hB10
      go_wp2_with fail
      refine k5.mono ?_
      rintro e w11 ⟨rfl, hB11⟩
      have q11 := hbW.trans ((q10.trans (hB11.mono q10.size)).mono hbW.size)
      go_wp2
      go_ret
      exact ⟨rfl, q11⟩
end Go.Proofs.YtniegpdllijjfaaGreatDoor
