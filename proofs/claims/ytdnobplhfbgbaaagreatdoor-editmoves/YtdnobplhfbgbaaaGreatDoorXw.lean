/-
  The law EditMoves, walked.
-/
import Derived.Test.YtdnobplhfbgbaaaGreatDoorXv
namespace Go.Proofs.YtdnobplhfbgbaaaGreatDoor
open Go.RowKit Go.Joins

namespace PT
theorem move2_self {t : List N} {f : List ByteArray} : (move2 t f f).1 = t := by
  unfold move2 link3
  repeat' split
  all_goals first | rfl | (exfalso; simp_all)
theorem move_self {t : List N} {p : Option (List ByteArray)} : (move t p p).1 = t := by
  cases p with
  | none => rfl
  | some f => exact move2_self
theorem move_back {t : List N} (g : Fine t) {s1 s2 : ByteArray} (hne : s1 ≠ s2) (h : (move t (pp false s1) (pp false s2)).2 = 0) : ∃ (k : Nat) (nk : N), find t (pp false s1) = ((k : Int) + 1, 0) ∧ k < 9 ∧ t[k]? = some nk ∧ (move t (pp false s1) (pp false s2)).1[k]? = some nk ∧ find (move t (pp false s1) (pp false s2)).1 (pp false s2) = ((k : Int) + 1, 0) ∧ find (move t (pp false s1) (pp false s2)).1 (pp false s1) = (0, 2) ∧ move (move t (pp false s1) (pp false s2)).1 (pp false s2) (pp false s1) = (t, 0) := by
  cases h1 : PN.is false s1 with
  | false => rw [pp_no h1] at h; cases h
  | true =>
    cases h2 : PN.is false s2 with
    | false => rw [pp_no h2, pp_yes h1] at h; cases h
    | true =>
      rw [pp_yes h1, pp_yes h2] at h ⊢
      have hfl : PN.pt false s1 ≠ PN.pt false s2 := fun e => hne (by rw [← (PN.is_some h1).1, ← (PN.is_some h2).1, e])
      obtain ⟨k, nk, b1, b2, b3, b4, b5, b6, b7⟩ := move2_back g h hfl
      have hk : ((k + 1 : Nat) : Int) = (k : Int) + 1 := by omega
      rw [hk] at b1 b5
      exact ⟨k, nk, b1, b2, b3, b4, b5, b6, b7⟩
end PT
set_option maxRecDepth 100000 in
set_option maxHeartbeats 4000000 in
theorem moves_out (A : Option Addr) (n c : Nat) (A' : Option Addr) (n' c' : Nat) (W : World) (hM : Ml W) (hn : 60 < n ∨ 4 < n') : Calls Tryz.prog 6 #[.slice A n c, .slice A' n' c'] W fun e W' => e = .returned (.bool true) ∧ Below W.heap.size W W' := by
  have h8 := ebegun_any W hM
  by_cases h60 : 60 < n
  · have hd : decide ((60 : Int) < (n : Int)) = true := by simp; omega
    go_enter Tryz.func6, Tryz.ntmps6
    go_wp2_with (go_at_call 19; refine h8.mono ?_; rintro e w1 ⟨rfl, hB1⟩)
    go_ret
    exact ⟨rfl, hB1⟩
  · have hd : decide ((60 : Int) < (n : Int)) = false := by simp; omega
    have hd2 : decide ((4 : Int) < (n' : Int)) = true := by simp; omega
    go_enter Tryz.func6, Tryz.ntmps6
    go_wp2_with (go_at_call 19; refine h8.mono ?_; rintro e w1 ⟨rfl, hB1⟩)
    go_ret
    exact ⟨rfl, hB1⟩
set_option maxRecDepth 100000 in
set_option maxHeartbeats 16000000 in
theorem moves_law (A : Option Addr) (n c : Nat) (bs : List Nat) (A' : Option Addr) (n' c' : Nat) (bs' : List Nat) (W : World) (hM : Ml W) (hv : Tx W (.slice A n c) bs) (hn : bs.length = n) (h60 : n ≤ 60) (hv' : Tx W (.slice A' n' c') bs') (hn' : bs'.length = n') (h6 : n' ≤ 4) : Calls Tryz.prog 6 #[.slice A n c, .slice A' n' c'] W fun e W' => e = .returned (.bool true) ∧ Below W.heap.size W W' := by
  have h8 := ebegun_any W hM
  have hd60 : decide ((60 : Int) < (n : Int)) = false := by simp; omega
  have hd6 : decide ((4 : Int) < (n' : Int)) = false := by simp; omega
  have HM := Lib.hid hM
  have HV := Lib.hid (And.intro hv hv')
  clear hM hv hv'
  go_enter Tryz.func6, Tryz.ntmps6
  go_wp2_with (go_at_call 19; refine h8.mono ?_; rintro e w1 ⟨rfl, hB1⟩; have h9 := made_any A n c w1)
  refine h9.mono ?_
  rintro e w2 ⟨g, rfl, hg, hx, hB2⟩
  have hP := Pw.start hB1 hg hx hB2
  have h10 := treeP HV.out.1 hn 30 (by decide) w2 hP
  clear h9 hx hg hB1 hB2 hP
  go_wp2_with fail
  refine h10.mono ?_
  rintro e w3 ⟨v, t, rfl, hT, hG, hP3⟩
  have hb3 := hP3.1
  have hl9 := hG.fine.len
  obtain ⟨T, TC, rfl⟩ := hT.form
  rw [hl9] at hT ⊢
  have HT := Lib.hid hT
  have HG := Lib.hid hG
  have h9 := made_any A' n' c' w3
  clear h8 h10 hT hG hP3
  go_wp2_with fail
  refine h9.mono ?_
  rintro e w5 ⟨g5, rfl, hg5, hx5, hB5⟩
  have hv3 : Tx w3 (.slice A' n' c') bs' := HV.out.2.below hb3
  have h18 := pathP hv3 hn' w5 (Pw.start (Below.refl _ _) hg5 hx5 hB5)
  clear h9 hx5 hg5 hB5
  go_wp2_with fail
  refine h18.mono ?_
  rintro e w6 ⟨s1, rfl, hs1, hP6, _⟩
  have h18 := pathP hv3 hn' w6 hP6
  clear hP6
  go_wp2_with fail
  refine h18.mono ?_
  rintro e w7 ⟨s2, rfl, hs2, hP7, _⟩
  have hb7 := hP7.1
  have hbW := hb3.trans (hb7.mono hb3.size)
  have HB7 := Lib.hid hb7
  have HBW := Lib.hid hbW
  have hz1 : s1.size ≤ 65535 := by omega
  have hz2 : s2.size ≤ 65535 := by omega
  clear h18 hP7 hv3 HV
  obtain ⟨p, hp⟩ : ∃ p, PT.pp false s1 = p := ⟨_, rfl⟩
  obtain ⟨q, hq⟩ : ∃ q, PT.pp false s2 = q := ⟨_, rfl⟩
  have hfr := fun u b V (hg : PT.Fine b) (h : Ts V u b) => rtfind_any u b s1 false V h hg hz1
  have hfs := fun u b V (hg : PT.Fine b) (h : Ts V u b) => rtfind_any u b s2 false V h hg hz2
  have hlk := fun V (hm : Ml V) (h : Ts V (.slice T 9 TC) t) => emoveV (.slice T 9 TC) t false s1 s2 V hm h HG.out.fine hz1 hz2
  have hgx := PT.move_fine HG.out.fine p q
  have hno := fun h => PT.move_no (t := t) (p := p) (q := q) h
  have hbk := fun hne h => PT.move_back HG.out.fine (s1 := s1) (s2 := s2) hne h
  have hself : s1 = s2 → (PT.move t p q).1 = t := fun e => by subst e; rw [← hp, ← hq]; exact PT.move_self
  rw [hp, hq] at hbk
  rw [hp] at hfr
  rw [hq] at hfs
  rw [hp, hq] at hlk
  obtain ⟨⟨x, er⟩, hx⟩ : ∃ x, PT.move t p q = x := ⟨_, rfl⟩
  rw [hx] at hlk hgx hno hbk hself
  dsimp only at hlk hgx hno hbk hself
  obtain ⟨⟨m1, m2⟩, hm⟩ : ∃ m, PT.find t p = m := ⟨_, rfl⟩
  have hf1 := hfr (.slice T 9 TC) t w7 HG.out.fine (HT.out.below hb7)
  rw [hm] at hf1
  have HLK := Lib.hid hlk
  have HGX := Lib.hid hgx
  have HF1 := Lib.hid hf1
  by_cases hss : s1 = s2
  · have hxt := hself hss
    subst hxt
    subst hss
    have hsm := fun u u' V (h : Ts V u x) (h' : Ts V u' x) => rsame_any u u' x x V h h'
    rw [decide_eq_true (rfl : x = x)] at hsm
    have HSM := Lib.hid hsm
    have hsq := seq_yes s1
    clear hm hbk hno hx hgx hfr hfs hlk hf1 hsm hp hq hb7 hbW hb3 hself
    rcases Classical.em (er = 0) with hz | hz
    all_goals
      first | subst hz | (have hqb : (er == 0) = false := by simpa using hz)
      go_wp2_with (first
        | (go_at_call 26; go_loud (refine (HSM.out _ _ _ hT9 (HT.out.below (HB7.out.trans (hb79.mono HB7.out.size)))).mono ?_; rintro e w15 ⟨rfl, hB15⟩))
        | (go_at_call 29; go_loud (refine (HLK.out _ (HM.out.below (HBW.out.trans (hB8.mono HBW.out.size))) (HT.out.below (HB7.out.trans (hB8.mono HB7.out.size)))).mono ?_; rintro e w9 ⟨v9, rfl, hT9, hB9⟩; have hb79 := hB8.trans (hB9.mono hB8.size)))
        | (go_at_call 37; go_loud (refine HF1.out.mono ?_; rintro e w8 ⟨rfl, hB8⟩)))
      go_ret
      exact ⟨rfl, HBW.out.trans ((hb79.trans (hB15.mono hb79.size)).mono HBW.out.size)⟩
  have hsq := seq_no hss
  by_cases hz : er = 0
  · subst hz
    obtain ⟨k, nk, b1, hk9, hnk, hxk, b2, b3, b4⟩ := hbk hss rfl
    have e := hm.symm.trans b1
    injection e with e1 e2
    subst e1 e2
    have hfx := fun u V (h : Ts V u x) => hfs u x V hgx h
    rw [b2] at hfx
    have hft := fun u V (h : Ts V u x) => hfr u x V hgx h
    rw [b3] at hft
    have hdr := fun u V (hm : Ml V) (h : Ts V u x) => emoveV u x false s2 s1 V hm h hgx hz2 hz1
    rw [hp, hq, b4] at hdr
    dsimp only at hdr
    have hsm := fun u u' V (h : Ts V u t) (h' : Ts V u' t) => rsame_any u u' t t V h h'
    rw [decide_eq_true (rfl : t = t)] at hsm
    have HFX := Lib.hid hfx
    have HFT := Lib.hid hft
    have HDR := Lib.hid hdr
    have HSM := Lib.hid hsm
    have hw1 : IntKind.i64.wrap ((k : Int) + 1 - 1) = (k : Int) := by rw [IntKind.wrap_i64]; omega
    have HXK := Lib.hid hxk
    have HTK := Lib.hid hnk
    have HX9 := Lib.hid hgx.len
    clear hm hbk hno b1 b2 b3 b4 hx hgx hfr hfs hlk hf1 hfx hft hdr hsm hxk hnk hp hq hb7 hbW hb3 hself hss
    go_upto_region 15 with (first
      | (go_at_call 29; refine (HDR.out _ _ (HM.out.below (HBW.out.trans (hb7b.mono HBW.out.size))) hT11).mono ?_; rintro e w12 ⟨V17, rfl, hT12, hB12⟩)
      | (go_at_call 37; refine (HFT.out _ _ hT10).mono ?_; rintro e w11 ⟨rfl, hB11⟩; have hb7b := hb7a.trans (hB11.mono hb7a.size); have hT11 := hT10.below hB11)
      | (go_at_call 37; refine (HFX.out _ _ hT9).mono ?_; rintro e w10 ⟨rfl, hB10⟩; have hb7a := hb79.trans (hB10.mono hb79.size); have hT10 := hT9.below hB10)
      | (go_at_call 29; go_loud (refine (HLK.out _ (HM.out.below (HBW.out.trans (hB8.mono HBW.out.size))) (HT.out.below (HB7.out.trans (hB8.mono HB7.out.size)))).mono ?_; rintro e w9 ⟨v9, rfl, hT9, hB9⟩; have hb79 := hB8.trans (hB9.mono hB8.size); obtain ⟨X, XC, hv9⟩ := hT9.form; rw [HX9.out] at hv9; subst hv9))
      | (go_at_call 37; go_loud (refine HF1.out.mono ?_; rintro e w8 ⟨rfl, hB8⟩)))
    have hb7c := hb7b.trans (hB12.mono hb7b.size)
    have hx12 := hT11.below hB12
    have ht12 := HT.out.below (HB7.out.trans (hb7c.mono HB7.out.size))
    obtain ⟨b0, o0, rfl, _, _⟩ := HT.out.at (by rw [hl9]; omega)
    obtain ⟨bx, ox, rfl, _, _⟩ := hT9.at (by rw [HX9.out]; omega)
    have HX11 := Lib.hid hx12
    have HT11 := Lib.hid ht12
    have HY := Lib.hid hT12
    have HB11 := Lib.hid (HBW.out.trans (hb7c.mono HBW.out.size))
    clear hb7c hx12 ht12 hT12 hT11 hT10 hT9 hB12 hB11 hB10 hB9 hB8 hb79 hb7a hb7b
    refine wp_region_grow Tryz.checked.mixed (by kernel_rfl) (fun W => Below w12.heap.size w12 W)
      (fun i v W => match i with
        | 0 => v = .int .i64 0
        | 1 => v = .bool true
        | 2 => v = .bool true
        | 3 => v = .slice (some ⟨bx, ox, none⟩) 9 XC
        | 4 => v = .int .i64 9
        | 5 => v = .bool true
        | 6 => v = .bool true
        | 7 => v = .bool true
        | 8 => v = .int .i64 ((k : Int) + 1)
        | 9 => v = .int .i64 ((k : Int) + 1)
        | 10 => v = .bool true
        | 11 => v = .bool true
        | 12 => v = .bool true
        | 13 => v = .int .i64 2
        | 14 => v = .bool true
        | 15 => v = .bool true
        | 16 => v = .bool true
        | 17 => v = .int .i64 0
        | 18 => v = .bool true
        | 19 => v = .bool true
        | 20 => v = .bool true
        | 21 => v = V17
        | 22 => v = .slice (some ⟨b0, o0, none⟩) 9 TC
        | 23 => v = .bool true
        | 24 => v = .bool true
        | 25 => v = .bool true
        | 26 => v = .slice (some ⟨bx, ox, none⟩) 9 XC
        | 27 => v = .int .i64 ((k : Int) + 1)
        | 28 => v = .int .i64 (k : Int)
        | 29 => v = .pointer (some ⟨bx, ox + k * 3, none⟩)
        | 30 => v = .agg #[.int .i64 nk.kind, .int .i64 nk.mode, .string nk.body]
        | 31 => v = .slice (some ⟨b0, o0, none⟩) 9 TC
        | 32 => v = .int .i64 ((k : Int) + 1)
        | 33 => v = .int .i64 (k : Int)
        | 34 => v = .pointer (some ⟨b0, o0 + k * 3, none⟩)
        | 35 => v = .agg #[.int .i64 nk.kind, .int .i64 nk.mode, .string nk.body]
        | 36 => v = .bool true
        | 37 => v = .bool true
        | _ => v = .bool true) ?hS ?hR ?start ?each ?fin
    case hS =>
      intro W W' h hb
      exact h.trans (hb.mono h.size)
    case hR =>
      intro j v W W' h hb
      rcases j with _ | _ | _ | _ | _ | _ | _ | _ | _ | _ | _ | _ | _ | _ | _ | _ | _ | _ | _ | _ | _ | _ | _ | _ | _ | _ | _ | _ | _ | _ | _ | _ | _ | _ | _ | _ | _ | _ | j <;> first | exact h | exact Es.below h hb | exact Ss.below h hb
    case start => exact (Below.refl _ _).drew
    case each =>
      intro i hi a W hold hp h6 K hK
      rcases i with _ | _ | _ | _ | _ | _ | _ | _ | _ | _ | _ | _ | _ | _ | _ | _ | _ | _ | _ | _ | _ | _ | _ | _ | _ | _ | _ | _ | _ | _ | _ | _ | _ | _ | _ | _ | _ | _ | i
      · skip
        have s14 := hold 14 rfl
        simp [predsOf, Region.binds, slotV] at hp
        refine wpOp_of rfl rfl ?_
        simp at s14
        go_simp
        exact hK _ _ (by simp) (Below.refl _ _) rfl
      · skip
        simp [predsOf, Region.binds, slotV] at hp
        refine wpOp_of rfl rfl ?_
        go_simp
        exact hK _ _ (by simp) (Below.refl _ _) (by simp)
      · skip
        simp [predsOf, Region.binds, slotV] at hp
        refine wpOp_of rfl rfl ?_
        go_simp
        exact hK _ _ (by simp) (Below.refl _ _) (by simp)
      · skip
        have s11 := hold 11 rfl
        simp [predsOf, Region.binds, slotV] at hp
        have hg := slot_bool (x := a.tmps[87]?) (b := true) (by simp [hp])
        refine wpOp_of rfl (by simp [Region.wanted, yielded, hg]) ?_
        simp at s11
        go_simp
        exact hK _ _ (by simp) (Below.refl _ _) rfl
      · skip
        simp [predsOf, Region.binds, slotV] at hp
        have hg := slot_bool (x := a.tmps[87]?) (b := true) (by simp [hp])
        refine wpOp_of rfl (by simp [Region.wanted, yielded, hg]) ?_
        go_simp
        exact hK _ _ (by simp) (Below.refl _ _) (by simp)
      · skip
        simp [predsOf, Region.binds, slotV] at hp
        have hg := slot_bool (x := a.tmps[87]?) (b := true) (by simp [hp])
        refine wpOp_of rfl (by simp [Region.wanted, yielded, hg]) ?_
        go_simp
        exact hK _ _ (by simp) (Below.refl _ _) (by simp)
      · skip
        simp [predsOf, Region.binds, slotV] at hp
        refine wpOp_of rfl rfl ?_
        go_simp
        exact hK _ _ (by simp) (Below.refl _ _) (by simp)
      · skip
        simp [predsOf, Region.binds, slotV] at hp
        refine wpOp_of rfl rfl ?_
        go_simp
        exact hK _ _ (by simp) (Below.refl _ _) (by simp)
      · skip
        have s13 := hold 13 rfl
        simp [predsOf, Region.binds, slotV] at hp
        have hg := slot_bool (x := a.tmps[92]?) (b := true) (by simp [hp])
        refine wpOp_of rfl (by simp [Region.wanted, yielded, hg]) ?_
        simp at s13
        go_simp
        exact hK _ _ (by simp) (Below.refl _ _) rfl
      · skip
        have s9 := hold 9 rfl
        simp [predsOf, Region.binds, slotV] at hp
        have hg := slot_bool (x := a.tmps[92]?) (b := true) (by simp [hp])
        refine wpOp_of rfl (by simp [Region.wanted, yielded, hg]) ?_
        simp at s9
        go_simp
        exact hK _ _ (by simp) (Below.refl _ _) rfl
      · skip
        simp [predsOf, Region.binds, slotV] at hp
        have hg := slot_bool (x := a.tmps[92]?) (b := true) (by simp [hp])
        refine wpOp_of rfl (by simp [Region.wanted, yielded, hg]) ?_
        go_simp
        exact hK _ _ (by simp) (Below.refl _ _) (by simp)
      · skip
        simp [predsOf, Region.binds, slotV] at hp
        refine wpOp_of rfl rfl ?_
        go_simp
        exact hK _ _ (by simp) (Below.refl _ _) (by simp)
      · skip
        simp [predsOf, Region.binds, slotV] at hp
        refine wpOp_of rfl rfl ?_
        go_simp
        exact hK _ _ (by simp) (Below.refl _ _) (by simp)
      · skip
        have s16 := hold 16 rfl
        simp [predsOf, Region.binds, slotV] at hp
        have hg := slot_bool (x := a.tmps[97]?) (b := true) (by simp [hp])
        refine wpOp_of rfl (by simp [Region.wanted, yielded, hg]) ?_
        simp at s16
        go_simp
        exact hK _ _ (by simp) (Below.refl _ _) rfl
      · skip
        simp [predsOf, Region.binds, slotV] at hp
        have hg := slot_bool (x := a.tmps[97]?) (b := true) (by simp [hp])
        refine wpOp_of rfl (by simp [Region.wanted, yielded, hg]) ?_
        go_simp
        exact hK _ _ (by simp) (Below.refl _ _) (by simp)
      · skip
        simp [predsOf, Region.binds, slotV] at hp
        refine wpOp_of rfl rfl ?_
        go_simp
        exact hK _ _ (by simp) (Below.refl _ _) (by simp)
      · skip
        simp [predsOf, Region.binds, slotV] at hp
        refine wpOp_of rfl rfl ?_
        go_simp
        exact hK _ _ (by simp) (Below.refl _ _) (by simp)
      · skip
        have s18 := hold 18 rfl
        simp [predsOf, Region.binds, slotV] at hp
        have hg := slot_bool (x := a.tmps[101]?) (b := true) (by simp [hp])
        refine wpOp_of rfl (by simp [Region.wanted, yielded, hg]) ?_
        simp at s18
        go_simp
        exact hK _ _ (by simp) (Below.refl _ _) rfl
      · skip
        simp [predsOf, Region.binds, slotV] at hp
        have hg := slot_bool (x := a.tmps[101]?) (b := true) (by simp [hp])
        refine wpOp_of rfl (by simp [Region.wanted, yielded, hg]) ?_
        go_simp
        exact hK _ _ (by simp) (Below.refl _ _) (by simp)
      · skip
        simp [predsOf, Region.binds, slotV] at hp
        refine wpOp_of rfl rfl ?_
        go_simp
        exact hK _ _ (by simp) (Below.refl _ _) (by simp)
      · skip
        simp [predsOf, Region.binds, slotV] at hp
        refine wpOp_of rfl rfl ?_
        go_simp
        exact hK _ _ (by simp) (Below.refl _ _) (by simp)
      · skip
        have s17 := hold 17 rfl
        simp [predsOf, Region.binds, slotV] at hp
        have hg := slot_bool (x := a.tmps[105]?) (b := true) (by simp [hp])
        refine wpOp_of rfl (by simp [Region.wanted, yielded, hg]) ?_
        simp at s17
        go_simp
        exact hK _ _ (by simp) (Below.refl _ _) rfl
      · skip
        have s5 := hold 5 rfl
        simp [predsOf, Region.binds, slotV] at hp
        have hg := slot_bool (x := a.tmps[105]?) (b := true) (by simp [hp])
        refine wpOp_of rfl (by simp [Region.wanted, yielded, hg]) ?_
        simp at s5
        go_simp
        exact hK _ _ (by simp) (Below.refl _ _) rfl
      · skip
        simp [predsOf, Region.binds, slotV] at hp
        have hg := slot_bool (x := a.tmps[105]?) (b := true) (by simp [hp])
        refine wpOp_of rfl (by simp [Region.wanted, yielded, hg]) ?_
        go_simp
        refine (HSM.out _ _ W (HY.out.below h6) (HT11.out.below h6)).mono ?_
        rintro e W2 ⟨rfl, hB⟩
        exact hK _ _ (by simp) hB rfl
      · skip
        simp [predsOf, Region.binds, slotV] at hp
        refine wpOp_of rfl rfl ?_
        go_simp
        exact hK _ _ (by simp) (Below.refl _ _) (by simp)
      · skip
        simp [predsOf, Region.binds, slotV] at hp
        refine wpOp_of rfl rfl ?_
        go_simp
        exact hK _ _ (by simp) (Below.refl _ _) (by simp)
      · skip
        have s11 := hold 11 rfl
        simp [predsOf, Region.binds, slotV] at hp
        have hg := slot_bool (x := a.tmps[110]?) (b := true) (by simp [hp])
        refine wpOp_of rfl (by simp [Region.wanted, yielded, hg]) ?_
        simp at s11
        go_simp
        exact hK _ _ (by simp) (Below.refl _ _) rfl
      · skip
        have s9 := hold 9 rfl
        simp [predsOf, Region.binds, slotV] at hp
        have hg := slot_bool (x := a.tmps[110]?) (b := true) (by simp [hp])
        refine wpOp_of rfl (by simp [Region.wanted, yielded, hg]) ?_
        simp at s9
        go_simp
        exact hK _ _ (by simp) (Below.refl _ _) rfl
      · skip
        simp [predsOf, Region.binds, slotV] at hp
        have hg := slot_bool (x := a.tmps[110]?) (b := true) (by simp [hp])
        refine wpOp_of rfl (by simp [Region.wanted, yielded, hg]) ?_
        have hw6 : IntKind.i64.wrap (k : Int) = (k : Int) := by rw [IntKind.wrap_i64]; omega
        go_simp
        exact hK _ _ (by simp) (Below.refl _ _) (by simp)
      · skip
        simp [predsOf, Region.binds, slotV] at hp
        have hg := slot_bool (x := a.tmps[110]?) (b := true) (by simp [hp])
        refine wpOp_of rfl (by simp [Region.wanted, yielded, hg]) ?_
        go_simp
        rw [if_pos (by omega)]
        go_simp
        exact hK _ _ (by simp) (Below.refl _ _) (by simp)
      · skip
        simp [predsOf, Region.binds, slotV] at hp
        have hg := slot_bool (x := a.tmps[110]?) (b := true) (by simp [hp])
        refine wpOp_of rfl (by simp [Region.wanted, yielded, hg]) ?_
        obtain ⟨e1, e2, e3⟩ := (HX11.out.below h6).three HXK.out
        go_simp
        exact hK _ _ (by simp) (Below.refl _ _) (by simp)
      · skip
        have s5 := hold 5 rfl
        simp [predsOf, Region.binds, slotV] at hp
        have hg := slot_bool (x := a.tmps[110]?) (b := true) (by simp [hp])
        refine wpOp_of rfl (by simp [Region.wanted, yielded, hg]) ?_
        simp at s5
        go_simp
        exact hK _ _ (by simp) (Below.refl _ _) rfl
      · skip
        have s9 := hold 9 rfl
        simp [predsOf, Region.binds, slotV] at hp
        have hg := slot_bool (x := a.tmps[110]?) (b := true) (by simp [hp])
        refine wpOp_of rfl (by simp [Region.wanted, yielded, hg]) ?_
        simp at s9
        go_simp
        exact hK _ _ (by simp) (Below.refl _ _) rfl
      · skip
        simp [predsOf, Region.binds, slotV] at hp
        have hg := slot_bool (x := a.tmps[110]?) (b := true) (by simp [hp])
        refine wpOp_of rfl (by simp [Region.wanted, yielded, hg]) ?_
        have hw6 : IntKind.i64.wrap (k : Int) = (k : Int) := by rw [IntKind.wrap_i64]; omega
        go_simp
        exact hK _ _ (by simp) (Below.refl _ _) (by simp)
      · skip
        simp [predsOf, Region.binds, slotV] at hp
        have hg := slot_bool (x := a.tmps[110]?) (b := true) (by simp [hp])
        refine wpOp_of rfl (by simp [Region.wanted, yielded, hg]) ?_
        go_simp
        rw [if_pos (by omega)]
        go_simp
        exact hK _ _ (by simp) (Below.refl _ _) (by simp)
      · skip
        simp [predsOf, Region.binds, slotV] at hp
        have hg := slot_bool (x := a.tmps[110]?) (b := true) (by simp [hp])
        refine wpOp_of rfl (by simp [Region.wanted, yielded, hg]) ?_
        obtain ⟨e1, e2, e3⟩ := (HT11.out.below h6).three HTK.out
        go_simp
        exact hK _ _ (by simp) (Below.refl _ _) (by simp)
      · skip
        simp [predsOf, Region.binds, slotV] at hp
        have hg := slot_bool (x := a.tmps[110]?) (b := true) (by simp [hp])
        refine wpOp_of rfl (by simp [Region.wanted, yielded, hg]) ?_
        have hbq := seq_yes nk.body
        go_simp
        exact hK _ _ (by simp) (Below.refl _ _) (by simp)
      · skip
        simp [predsOf, Region.binds, slotV] at hp
        refine wpOp_of rfl rfl ?_
        go_simp
        exact hK _ _ (by simp) (Below.refl _ _) (by simp)
      · have i0 : i = 0 := by simp at hi; omega
        subst i0
        simp [predsOf, Region.binds, slotV] at hp
        refine wpOp_of rfl rfl ?_
        go_simp
        exact hK _ _ (by simp) (Below.refl _ _) (by simp)
    case fin =>
      intro vs W2 hRs h6
      have r38 := hRs 38 (by decide)
      simp at r38
      have r0 := hRs 0 (by decide)
      have r1 := hRs 1 (by decide)
      have r2 := hRs 2 (by decide)
      have r3 := hRs 3 (by decide)
      have r4 := hRs 4 (by decide)
      have r5 := hRs 5 (by decide)
      have r6 := hRs 6 (by decide)
      have r7 := hRs 7 (by decide)
      have r8 := hRs 8 (by decide)
      have r9 := hRs 9 (by decide)
      have r10 := hRs 10 (by decide)
      have r11 := hRs 11 (by decide)
      have r12 := hRs 12 (by decide)
      have r13 := hRs 13 (by decide)
      have r14 := hRs 14 (by decide)
      have r15 := hRs 15 (by decide)
      have r16 := hRs 16 (by decide)
      have r17 := hRs 17 (by decide)
      have r18 := hRs 18 (by decide)
      have r19 := hRs 19 (by decide)
      have r20 := hRs 20 (by decide)
      have r21 := hRs 21 (by decide)
      have r22 := hRs 22 (by decide)
      have r23 := hRs 23 (by decide)
      have r24 := hRs 24 (by decide)
      have r25 := hRs 25 (by decide)
      have r26 := hRs 26 (by decide)
      have r27 := hRs 27 (by decide)
      have r28 := hRs 28 (by decide)
      have r29 := hRs 29 (by decide)
      have r30 := hRs 30 (by decide)
      have r31 := hRs 31 (by decide)
      have r32 := hRs 32 (by decide)
      have r33 := hRs 33 (by decide)
      have r34 := hRs 34 (by decide)
      have r35 := hRs 35 (by decide)
      have r36 := hRs 36 (by decide)
      have r37 := hRs 37 (by decide)
      simp at r0 r1 r2 r3 r4 r5 r6 r7 r8 r9 r10 r11 r12 r13 r14 r15 r16 r17 r18 r19 r20 r21 r22 r23 r24 r25 r26 r27 r28 r29 r30 r31 r32 r33 r34 r35 r36 r37
      simp only [putAll, List.foldl_cons, List.foldl_nil, Act.put, List.setIfInBounds_toArray, List.set_cons_succ, List.set_cons_zero, r0, r1, r2, r3, r4, r5, r6, r7, r8, r9, r10, r11, r12, r13, r14, r15, r16, r17, r18, r19, r20, r21, r22, r23, r24, r25, r26, r27, r28, r29, r30, r31, r32, r33, r34, r35, r36, r37, r38]
      have hbe := HB11.out.trans (h6.mono HB11.out.size)
      clear hRs r0 r1 r2 r3 r4 r5 r6 r7 r8 r9 r10 r11 r12 r13 r14 r15 r16 r17 r18 r19 r20 r21 r22 r23 r24 r25 r26 r27 r28 r29 r30 r31 r32 r33 r34 r35 r36 r37 r38
      go_wp2
      go_ret
      exact ⟨rfl, hbe⟩
  · have hqb : (er == 0) = false := by simpa using hz
    clear hm hbk hno hx hgx hfr hfs hlk hf1 hp hq hb7 hbW hb3 hself hss
    go_wp2_with (first
      | (go_at_call 29; go_loud (refine (HLK.out _ (HM.out.below (HBW.out.trans (hB8.mono HBW.out.size))) (HT.out.below (HB7.out.trans (hB8.mono HB7.out.size)))).mono ?_; rintro e w9 ⟨v9, rfl, hT9, hB9⟩; have hb79 := hB8.trans (hB9.mono hB8.size)))
      | (go_at_call 37; go_loud (refine HF1.out.mono ?_; rintro e w8 ⟨rfl, hB8⟩)))
    go_ret
    exact ⟨rfl, HBW.out.trans (hb79.mono HBW.out.size)⟩
end Go.Proofs.YtdnobplhfbgbaaaGreatDoor
