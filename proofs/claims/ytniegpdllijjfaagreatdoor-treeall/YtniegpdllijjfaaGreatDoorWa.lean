/-
  The law TreeWays, walked.
-/
import Derived.Test.YtniegpdllijjfaaGreatDoorVk
namespace Go.Proofs.YtniegpdllijjfaaGreatDoor
open Go.RowKit Go.Joins

/-- The tree that numbers make. -/
theorem Pw.start {W w1 w2 : World} {A : Option Addr} {n c g : Nat} (h1 : Below W.heap.size W w1) (hg : w1.heap.size ≤ g) (hx : Bx w2 g 60 #[.slice A n c, .int .i64 0]) (h2 : Below w1.heap.size w1 w2) : Pw W A n c g w2 :=
  ⟨h1.trans (h2.mono h1.size), Nat.le_trans h1.size hg, 0, Nat.zero_le _, hx⟩
set_option maxRecDepth 100000 in
set_option maxHeartbeats 4000000 in
theorem ways_out (A : Option Addr) (n c : Nat) (W : World) (hM : Ml W) (hn : 60 < n) : Calls Tryz.prog 4 #[.slice A n c] W fun e W' => e = .returned (.bool true) ∧ Below W.heap.size W W' := by
  have h8 := begun_any W hM
  have hd : decide ((60 : Int) < (n : Int)) = true := by simp; omega
  go_enter Tryz.func4, Tryz.ntmps4
  go_wp2_with (go_at_call 8; refine h8.mono ?_; rintro e w1 ⟨rfl, hB1⟩)
  go_ret
  exact ⟨rfl, hB1⟩
set_option maxRecDepth 100000 in
set_option maxHeartbeats 16000000 in
theorem ways_law (A : Option Addr) (n c : Nat) (bs : List Nat) (W : World) (hM : Ml W) (hv : Tx W (.slice A n c) bs) (hn : bs.length = n) (h60 : n ≤ 60) : Calls Tryz.prog 4 #[.slice A n c] W fun e W' => e = .returned (.bool true) ∧ Below W.heap.size W W' := by
  have h8 := begun_any W hM
  have hd60 : decide ((60 : Int) < (n : Int)) = false := by simp; omega
  have HM := Lib.hid hM
  have HV := Lib.hid hv
  clear hM hv
  go_enter Tryz.func4, Tryz.ntmps4
  go_wp2_with (go_at_call 8; refine h8.mono ?_; rintro e w1 ⟨rfl, hB1⟩; have h9 := made_any A n c w1)
  refine h9.mono ?_
  rintro e w2 ⟨g, rfl, hg, hx, hB2⟩
  have hP := Pw.start hB1 hg hx hB2
  have h10 := treeP HV.out hn 30 (by decide) w2 hP
  clear h9 hx hg hB1 hB2 hP
  go_wp2_with fail
  refine h10.mono ?_
  rintro e w3 ⟨v, t, rfl, hT, hG, hP3⟩
  have hb3 := hP3.1
  have hl9 := hG.fine.len
  obtain ⟨T, TC, rfl⟩ := hT.form
  rw [hl9] at hT ⊢
  have HT := Lib.hid hT
  have HG := Lib.hid hG
  clear h8 h10 hT hG hP3 HV
  go_wp2
  go_loopw [4] (fun i wr => ∃ k : Nat, k ≤ 9 ∧ i = .int .i64 ((k : Int) + 1) ∧ Below w3.heap.size w3 wr) (fun i _ => 10 - (intOf i).toNat)
  case atStart => exact ⟨0, by decide, rfl, Below.refl _ _⟩
  case round =>
    obtain ⟨k, hk, rfl, hB⟩ := hrel
    by_cases hlt : k < 9
    · have hd : decide ((k : Int) + 1 ≤ 9) = true := by simp; omega
      have hw1 : IntKind.i64.wrap ((k : Int) + 1 - 1) = (k : Int) := by rw [IntKind.wrap_i64]; omega
      have hw2 : IntKind.i64.wrap ((k : Int) + 1 + 1) = (k : Int) + 1 + 1 := by rw [IntKind.wrap_i64]; omega
      have hkc : (((k + 1 : Nat) : Int)) = (k : Int) + 1 := by omega
      obtain ⟨nd, hnd⟩ : ∃ nd, t[k]? = some nd := ⟨_, List.getElem?_eq_getElem (by rw [hl9]; exact hlt)⟩
      obtain ⟨b0, o0, rfl, hb0, hcell⟩ := HT.out.at (by rw [hl9]; omega)
      obtain ⟨g0, _, _⟩ := hcell k nd hnd
      have hc0 : ∀ V, Below w3.heap.size w3 V → V.cell? ⟨b0, o0 + k * 3, none⟩ = some (.int .i64 nd.kind) := fun V hb => (hb.cell (p := ⟨b0, o0 + k * 3, none⟩) hb0).trans g0
      have hway := fun V (hb : Below w3.heap.size w3 V) => ways_any _ t ((k : Int) + 1) V (HT.out.below hb) HG.out.fine
      have hlk := fun V (hb : Below w3.heap.size w3 V) => tlinksI_any _ t ((k : Int) + 1) V (HT.out.below hb)
      have hll := HG.out.fine.ways_links k
      have hnone := HG.out.fine.ways_none hnd
      have hone := HG.out.fine.ways_one hnd
      have hfew := HG.out.fine.ways_few k
      have hsm : ∀ s ∈ PT.waysI t ((k + 1 : Nat) : Int), s.size ≤ 56 := fun s hs => HG.out.fine.ways_small hs
      have hri := HG.out.fine.ways_rise k
      have hfd : ∀ s ∈ PT.waysI t ((k + 1 : Nat) : Int), PT.find t (PT.pp false s) = ((k : Int) + 1, 0) := fun s hs => by
        obtain ⟨l, rfl, hw⟩ := HG.out.fine.ways_mem hs
        rw [HG.out.find_way hw, hkc]
      simp only [PT.waysI_eq HG.out.fine] at hway
      rw [hkc] at hll hnone hone hfew hsm hri hfd
      generalize PT.waysI t ((k : Int) + 1) = U at *
      rw [← hll] at hlk
      have h24 := hway wr hB
      obtain ⟨L, hL⟩ : ∃ L, U.length = L := ⟨_, rfl⟩
      rw [hL] at hlk hnone hone hfew
      have HL := Lib.hid hL
      have HK := Lib.hid (And.intro hc0 hlk)
      have HS := Lib.hid (And.intro hsm (And.intro hri hfd))
      clear hc0 hlk hway hll g0 hcell hnd hsm hri hfd hL
      go_wp2_with fail
      refine h24.mono ?_
      rintro e w4 ⟨v4, rfl, hO4, hB4⟩
      have hb4 := hB.trans (hB4.mono hB.size)
      obtain ⟨A4, c4, rfl, _⟩ := hO4.form
      have HO := Lib.hid hO4
      rw [HL.out] at HO ⊢
      have hc4 := HK.out.1 w4 hb4
      have h21 := HK.out.2 w4 hb4
      have HSS := Lib.hid (HO.out.row (fun s hs => by have := HS.out.1 s hs; omega) (by rw [HL.out]; omega))
      clear h24 hO4 hB4 HO
      by_cases k0 : nd.kind = 0
      · have hL0 := hnone.2 k0
        rw [k0] at hc4
        have hK0 := Lib.hid k0
        have hdL : decide ((0 : Int) < (L : Int)) = false := by simp; omega
        clear hnone hone k0
        go_wp2_with (go_at_call 21; refine h21.mono ?_; rintro e w5 ⟨rfl, hB5⟩; have hb5 := hb4.trans (hB5.mono hb4.size); have hc5 := HK.out.1 w5 hb5; rw [hK0.out] at hc5)
        clear h21 hc4 hc5
        have HO5 := Lib.hid (HSS.out.below hB5)
        clear HSS
        go_loopw [6] (fun j wr => ∃ q : Nat, q ≤ L ∧ j = .int .i64 (q : Int) ∧ Below w5.heap.size w5 wr) (fun j _ => L - (intOf j).toNat)
        case atStart => exact ⟨0, Nat.zero_le _, rfl, Below.refl _ _⟩
        case round =>
          obtain ⟨q, hq, rfl, hB⟩ := hrel
          by_cases hql : q < L
          · omega
          · have hdq : decide ((q : Int) < (L : Int)) = false := by simp; omega
            have hbw := hb5.trans (hB.mono hb5.size)
            go_wp2
            go_roundw
            case rel => exact ⟨k + 1, by omega, by go_num, hbw⟩
            case measure => simp [intOf]; omega
      · have hLp : 0 < L := by rcases Nat.eq_zero_or_pos L with h | h; exact absurd (hnone.1 h) k0; exact h
        have hdL : decide ((0 : Int) < (L : Int)) = true := by simp; omega
        have hkn : (nd.kind != 0) = true := by simpa using k0
        by_cases k2 : nd.kind = 2
        · have hL1 := hone k2
          have hL1' : ((L : Int) != 1) = false := by rw [hL1]; rfl
          rw [k2] at hc4 hkn
          have hK2 := Lib.hid k2
          have HL1 := Lib.hid hL1
          clear hnone hone k0 k2 hL1
          go_wp2_with (go_at_call 21; refine h21.mono ?_; rintro e w5 ⟨rfl, hB5⟩; have hb5 := hb4.trans (hB5.mono hb4.size); have hc5 := HK.out.1 w5 hb5; rw [hK2.out] at hc5)
          clear h21 hc4 hc5 hL1'
          have HO5 := Lib.hid (HSS.out.below hB5)
          clear HSS
          go_loopw [6] (fun j wr => ∃ q : Nat, q ≤ L ∧ j = .int .i64 (q : Int) ∧ Below w5.heap.size w5 wr) (fun j _ => L - (intOf j).toNat)
          case atStart => exact ⟨0, Nat.zero_le _, rfl, Below.refl _ _⟩
          case round =>
            obtain ⟨q, hq, rfl, hB⟩ := hrel
            by_cases hql : q < L
            · have hdq : decide ((q : Int) < (L : Int)) = true := by simp; omega
              obtain ⟨b5, o5, rfl, hbb, hcl⟩ := HO5.out.at (by rw [HL.out]; omega)
              obtain ⟨s, hs⟩ : ∃ s, U[q]? = some s := ⟨_, List.getElem?_eq_getElem (by rw [HL.out]; omega)⟩
              have gs := hcl q s hs
              have hsm := HS.out.1 s (List.mem_of_getElem? hs)
              have hfd := HS.out.2.2 s (List.mem_of_getElem? hs)
              have hbw := hb5.trans (hB.mono hb5.size)
              have h19 := tfind_any _ t s false wr (HM.out.below (hb3.trans (hbw.mono hb3.size))) (HT.out.below hbw) HG.out.fine (by omega)
              rw [hfd] at h19
              have e1 : wr.cell? ⟨b5, o5 + q, none⟩ = some (.string s) := (hB.cell (p := ⟨b5, o5 + q, none⟩) hbb).trans gs
              rcases Nat.eq_zero_or_pos q with hq0 | hq0
              · subst hq0
                rw [Nat.add_zero] at e1 gs
                have hcy : ∀ V, Below w5.heap.size w5 V → V.cell? ⟨b5, o5, none⟩ = some (.string s) := fun V hb => (hb.cell (p := ⟨b5, o5, none⟩) hbb).trans gs
                have HCY := Lib.hid hcy
                clear hcl hs hfd hsm gs hcy
                go_wp2_with (go_at_call 19; refine h19.mono ?_; rintro e w6 ⟨rfl, hB6⟩; have hb6 := hB.trans (hB6.mono hB.size); have e2 := HCY.out w6 hb6)
                go_quiet (fail)
                go_wp2
                go_roundw
                case rel => exact ⟨0 + 1, by omega, by go_num, drewN_below hb6 _⟩
                case measure => simp [intOf]; omega
              · obtain ⟨p, rfl⟩ : ∃ p, q = p + 1 := ⟨q - 1, by omega⟩
                obtain ⟨y, hy⟩ : ∃ y, U[p]? = some y := ⟨_, List.getElem?_eq_getElem (by rw [HL.out]; omega)⟩
                have gy := hcl p y hy
                have hlt2 : PD.lt y s = true := by
                  obtain ⟨l1, rfl⟩ := List.getElem?_eq_some_iff.1 hy
                  obtain ⟨l2, rfl⟩ := List.getElem?_eq_some_iff.1 hs
                  exact (List.pairwise_iff_getElem.1 HS.out.2.1) p (p + 1) l1 l2 (by omega)
                have hless : Op.bytesLess y.toList s.toList = true := hlt2
                have hcy : ∀ V, Below w5.heap.size w5 V → V.cell? ⟨b5, o5 + p, none⟩ = some (.string y) ∧ V.cell? ⟨b5, o5 + (p + 1), none⟩ = some (.string s) := fun V hb => ⟨(hb.cell (p := ⟨b5, o5 + p, none⟩) hbb).trans gy, (hb.cell (p := ⟨b5, o5 + (p + 1), none⟩) hbb).trans gs⟩
                have HCY := Lib.hid hcy
                have hw3 : IntKind.i64.wrap (((p + 1 : Nat) : Int) - 1) = (p : Int) := by rw [IntKind.wrap_i64]; omega
                have hpos : decide ((0 : Int) < ((p + 1 : Nat) : Int)) = true := decide_eq_true (by omega)
                clear hcl hs hy hlt2 gy gs hcy hfd hsm
                go_wp2_with (go_at_call 19; refine h19.mono ?_; rintro e w6 ⟨rfl, hB6⟩; have hb6 := hB.trans (hB6.mono hB.size); obtain ⟨e2, e3⟩ := HCY.out w6 hb6)
                go_quiet (fail)
                go_wp2
                go_roundw
                case rel => exact ⟨p + 1 + 1, by omega, by go_num, drewN_below hb6 _⟩
                case measure => simp [intOf]; omega
            · have hdq : decide ((q : Int) < (L : Int)) = false := by simp; omega
              have hbw := hb5.trans (hB.mono hb5.size)
              go_wp2
              go_roundw
              case rel => exact ⟨k + 1, by omega, by go_num, hbw⟩
              case measure => simp [intOf]; omega
        · have hk2 : (nd.kind == 2) = false := by simpa using k2
          clear hnone hone k0 k2
          go_wp2_with (go_at_call 21; refine h21.mono ?_; rintro e w5 ⟨rfl, hB5⟩; have hb5 := hb4.trans (hB5.mono hb4.size); have hc5 := HK.out.1 w5 hb5)
          clear h21 hc4
          clear hc5
          have HO5 := Lib.hid (HSS.out.below hB5)
          clear HSS
          go_loopw [6] (fun j wr => ∃ q : Nat, q ≤ L ∧ j = .int .i64 (q : Int) ∧ Below w5.heap.size w5 wr) (fun j _ => L - (intOf j).toNat)
          case atStart => exact ⟨0, Nat.zero_le _, rfl, Below.refl _ _⟩
          case round =>
            obtain ⟨q, hq, rfl, hB⟩ := hrel
            by_cases hql : q < L
            · have hdq : decide ((q : Int) < (L : Int)) = true := by simp; omega
              obtain ⟨b5, o5, rfl, hbb, hcl⟩ := HO5.out.at (by rw [HL.out]; omega)
              obtain ⟨s, hs⟩ : ∃ s, U[q]? = some s := ⟨_, List.getElem?_eq_getElem (by rw [HL.out]; omega)⟩
              have gs := hcl q s hs
              have hsm := HS.out.1 s (List.mem_of_getElem? hs)
              have hfd := HS.out.2.2 s (List.mem_of_getElem? hs)
              have hbw := hb5.trans (hB.mono hb5.size)
              have h19 := tfind_any _ t s false wr (HM.out.below (hb3.trans (hbw.mono hb3.size))) (HT.out.below hbw) HG.out.fine (by omega)
              rw [hfd] at h19
              have e1 : wr.cell? ⟨b5, o5 + q, none⟩ = some (.string s) := (hB.cell (p := ⟨b5, o5 + q, none⟩) hbb).trans gs
              rcases Nat.eq_zero_or_pos q with hq0 | hq0
              · subst hq0
                rw [Nat.add_zero] at e1 gs
                have hcy : ∀ V, Below w5.heap.size w5 V → V.cell? ⟨b5, o5, none⟩ = some (.string s) := fun V hb => (hb.cell (p := ⟨b5, o5, none⟩) hbb).trans gs
                have HCY := Lib.hid hcy
                clear hcl hs hfd hsm gs hcy
                go_wp2_with (go_at_call 19; refine h19.mono ?_; rintro e w6 ⟨rfl, hB6⟩; have hb6 := hB.trans (hB6.mono hB.size); have e2 := HCY.out w6 hb6)
                go_quiet (fail)
                go_wp2
                go_roundw
                case rel => exact ⟨0 + 1, by omega, by go_num, drewN_below hb6 _⟩
                case measure => simp [intOf]; omega
              · obtain ⟨p, rfl⟩ : ∃ p, q = p + 1 := ⟨q - 1, by omega⟩
                obtain ⟨y, hy⟩ : ∃ y, U[p]? = some y := ⟨_, List.getElem?_eq_getElem (by rw [HL.out]; omega)⟩
                have gy := hcl p y hy
                have hlt2 : PD.lt y s = true := by
                  obtain ⟨l1, rfl⟩ := List.getElem?_eq_some_iff.1 hy
                  obtain ⟨l2, rfl⟩ := List.getElem?_eq_some_iff.1 hs
                  exact (List.pairwise_iff_getElem.1 HS.out.2.1) p (p + 1) l1 l2 (by omega)
                have hless : Op.bytesLess y.toList s.toList = true := hlt2
                have hcy : ∀ V, Below w5.heap.size w5 V → V.cell? ⟨b5, o5 + p, none⟩ = some (.string y) ∧ V.cell? ⟨b5, o5 + (p + 1), none⟩ = some (.string s) := fun V hb => ⟨(hb.cell (p := ⟨b5, o5 + p, none⟩) hbb).trans gy, (hb.cell (p := ⟨b5, o5 + (p + 1), none⟩) hbb).trans gs⟩
                have HCY := Lib.hid hcy
                have hw3 : IntKind.i64.wrap (((p + 1 : Nat) : Int) - 1) = (p : Int) := by rw [IntKind.wrap_i64]; omega
                have hpos : decide ((0 : Int) < ((p + 1 : Nat) : Int)) = true := decide_eq_true (by omega)
                clear hcl hs hy hlt2 gy gs hcy hfd hsm
                go_wp2_with (go_at_call 19; refine h19.mono ?_; rintro e w6 ⟨rfl, hB6⟩; have hb6 := hB.trans (hB6.mono hB.size); obtain ⟨e2, e3⟩ := HCY.out w6 hb6)
                go_quiet (fail)
                go_wp2
                go_roundw
                case rel => exact ⟨p + 1 + 1, by omega, by go_num, drewN_below hb6 _⟩
                case measure => simp [intOf]; omega
            · have hdq : decide ((q : Int) < (L : Int)) = false := by simp; omega
              have hbw := hb5.trans (hB.mono hb5.size)
              go_wp2
              go_roundw
              case rel => exact ⟨k + 1, by omega, by go_num, hbw⟩
              case measure => simp [intOf]; omega
    · have hk9 : k = 9 := by omega
      subst hk9
      have hb := hb3.trans (hB.mono hb3.size)
      go_wp2
      go_ret
      exact ⟨rfl, hb⟩
end Go.Proofs.YtniegpdllijjfaaGreatDoor
