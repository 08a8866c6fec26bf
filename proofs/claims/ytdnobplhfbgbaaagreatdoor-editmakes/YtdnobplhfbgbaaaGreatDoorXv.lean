/-
  The law EditLinks, walked.
-/
import Derived.Test.YtdnobplhfbgbaaaGreatDoorXu
namespace Go.Proofs.YtdnobplhfbgbaaaGreatDoor
open Go.RowKit Go.Joins

/-- The tree that numbers make. -/
theorem Pw.start {W w1 w2 : World} {A : Option Addr} {n c g : Nat} (h1 : Below W.heap.size W w1) (hg : w1.heap.size ≤ g) (hx : Bx w2 g 92 #[.slice A n c, .int .i64 0]) (h2 : Below w1.heap.size w1 w2) : Pw W A n c g w2 :=
  ⟨h1.trans (h2.mono h1.size), Nat.le_trans h1.size hg, 0, Nat.zero_le _, hx⟩
namespace PT
theorem sum_few {l : List N} {j : Nat} : (l.map fun n => cnt (ents n) j).sum ≤ l.length * 120 := by
  induction l with
  | nil => simp
  | cons n r ih =>
    have h1 := ents_length n
    have h2 : cnt (ents n) j ≤ (ents n).length := List.countP_le_length
    simp only [List.map_cons, List.sum_cons, List.length_cons]
    omega
theorem Fine.named_few2 {t : List N} (g : Fine t) (j : Nat) : named t j ≤ 1080 := by
  have := sum_few (l := t) (j := j)
  rw [g.len] at this
  exact this
theorem Fine.linksI_le {t : List N} (_ : Fine t) {k : Nat} (hk : 0 < k) : linksI t ((k : Int) + 1) = named t k := by
  have := linksI_named t hk
  rw [show ((k + 1 : Nat) : Int) = (k : Int) + 1 by omega] at this
  exact this
theorem link_back {t : List N} (g : Fine t) {p q : Option (List ByteArray)} (h : (link t p q).2 = 0) : ∃ (k : Nat) (nk : N), find t p = ((k : Int) + 1, 0) ∧ k < 9 ∧ 0 < k ∧ t[k]? = some nk ∧ nk.kind = 1 ∧ find (link t p q).1 q = ((k : Int) + 1, 0) ∧ find t q = (0, 2) ∧ linksI (link t p q).1 ((k : Int) + 1) = linksI t ((k : Int) + 1) + 1 ∧ drop (link t p q).1 q = (t, 0) := by
  cases p with
  | none => cases h
  | some f =>
    cases q with
    | none => cases h
    | some l =>
      obtain ⟨k, nk, h1, h2, h3, h4, h5, h6, h7, h8, h9⟩ := link2_back g h
      have hx : Fine (link2 t f l).1 := link_fine g (some f) (some l)
      refine ⟨k, nk, h1.trans (by rw [show ((k + 1 : Nat) : Int) = (k : Int) + 1 by omega]), h2, h3, h4, h5, h6.trans (by rw [show ((k + 1 : Nat) : Int) = (k : Int) + 1 by omega]), h7, ?_, h9⟩
      rw [g.linksI_le h3, show linksI (link t (some f) (some l)).1 ((k : Int) + 1) = named (link2 t f l).1 k from hx.linksI_le h3, h8]
end PT
set_option maxRecDepth 100000 in
set_option maxHeartbeats 4000000 in
theorem links_out (A : Option Addr) (n c : Nat) (A' : Option Addr) (n' c' : Nat) (W : World) (hM : Ml W) (hn : 60 < n ∨ 4 < n') : Calls Tryz.prog 10 #[.slice A n c, .slice A' n' c'] W fun e W' => e = .returned (.bool true) ∧ Below W.heap.size W W' := by
  have h8 := ebegun_any W hM
  by_cases h60 : 60 < n
  · have hd : decide ((60 : Int) < (n : Int)) = true := by simp; omega
    go_enter Tryz.func10, Tryz.ntmps10
    go_wp2_with (go_at_call 19; refine h8.mono ?_; rintro e w1 ⟨rfl, hB1⟩)
    go_ret
    exact ⟨rfl, hB1⟩
  · have hd : decide ((60 : Int) < (n : Int)) = false := by simp; omega
    have hd2 : decide ((4 : Int) < (n' : Int)) = true := by simp; omega
    go_enter Tryz.func10, Tryz.ntmps10
    go_wp2_with (go_at_call 19; refine h8.mono ?_; rintro e w1 ⟨rfl, hB1⟩)
    go_ret
    exact ⟨rfl, hB1⟩
set_option maxRecDepth 100000 in
set_option maxHeartbeats 16000000 in
theorem links_law (A : Option Addr) (n c : Nat) (bs : List Nat) (A' : Option Addr) (n' c' : Nat) (bs' : List Nat) (W : World) (hM : Ml W) (hv : Tx W (.slice A n c) bs) (hn : bs.length = n) (h60 : n ≤ 60) (hv' : Tx W (.slice A' n' c') bs') (hn' : bs'.length = n') (h6 : n' ≤ 4) : Calls Tryz.prog 10 #[.slice A n c, .slice A' n' c'] W fun e W' => e = .returned (.bool true) ∧ Below W.heap.size W W' := by
  have h8 := ebegun_any W hM
  have hd60 : decide ((60 : Int) < (n : Int)) = false := by simp; omega
  have hd6 : decide ((4 : Int) < (n' : Int)) = false := by simp; omega
  have HM := Lib.hid hM
  have HV := Lib.hid (And.intro hv hv')
  clear hM hv hv'
  go_enter Tryz.func10, Tryz.ntmps10
  go_wp2_with (go_at_call 19; refine h8.mono ?_; rintro e w1 ⟨rfl, hB1⟩; have h9 := made_any A n c w1)
  refine h9.mono ?_
  rintro e w2 ⟨g, rfl, hg, hx, hB2⟩
  have hP := Pw.start hB1 hg hx hB2
  have h10 := treeP HV.out.1 hn 30 (by decide) w2 hP
  clear h9 hx hg hB1 hB2 hP
  go_wp2_with fail
  refine h10.mono ?_
  rintro e w3 ⟨v, t, rfl, hT, hG, hP3⟩
  have hb3 := hP3.1
  have hl9 := hG.fine.len
  obtain ⟨T, TC, rfl⟩ := hT.form
  rw [hl9] at hT ⊢
  have HT := Lib.hid hT
  have HG := Lib.hid hG
  have h9 := made_any A' n' c' w3
  clear h8 h10 hT hG hP3
  go_wp2_with fail
  refine h9.mono ?_
  rintro e w5 ⟨g5, rfl, hg5, hx5, hB5⟩
  have hv3 : Tx w3 (.slice A' n' c') bs' := HV.out.2.below hb3
  have h18 := pathP hv3 hn' w5 (Pw.start (Below.refl _ _) hg5 hx5 hB5)
  clear h9 hx5 hg5 hB5
  go_wp2_with fail
  refine h18.mono ?_
  rintro e w6 ⟨s1, rfl, hs1, hP6, _⟩
  have h18 := pathP hv3 hn' w6 hP6
  clear hP6
  go_wp2_with fail
  refine h18.mono ?_
  rintro e w7 ⟨s2, rfl, hs2, hP7, _⟩
  have hb7 := hP7.1
  have hbW := hb3.trans (hb7.mono hb3.size)
  have HB7 := Lib.hid hb7
  have HBW := Lib.hid hbW
  have hz1 : s1.size ≤ 65535 := by omega
  have hz2 : s2.size ≤ 65535 := by omega
  clear h18 hP7 hv3 HV
  obtain ⟨p, hp⟩ : ∃ p, PT.pp false s1 = p := ⟨_, rfl⟩
  obtain ⟨q, hq⟩ : ∃ q, PT.pp false s2 = q := ⟨_, rfl⟩
  have hfr := fun u b V (hg : PT.Fine b) (h : Ts V u b) => rtfind_any u b s1 false V h hg hz1
  have hfs := fun u b V (hg : PT.Fine b) (h : Ts V u b) => rtfind_any u b s2 false V h hg hz2
  have hlk := fun V (hm : Ml V) (h : Ts V (.slice T 9 TC) t) => elinkV (.slice T 9 TC) t false s1 s2 V hm h HG.out.fine hz1 hz2
  have hgx := PT.link_fine HG.out.fine p q
  have hno := fun h => PT.link_no (t := t) (p := p) (q := q) h
  have hbk := fun h => PT.link_back HG.out.fine (p := p) (q := q) h
  rw [hp] at hfr
  rw [hq] at hfs
  rw [hp, hq] at hlk
  obtain ⟨⟨x, er⟩, hx⟩ : ∃ x, PT.link t p q = x := ⟨_, rfl⟩
  rw [hx] at hlk hgx hno hbk
  dsimp only at hlk hgx hno hbk
  obtain ⟨⟨m1, m2⟩, hm⟩ : ∃ m, PT.find t p = m := ⟨_, rfl⟩
  have hf1 := hfr (.slice T 9 TC) t w7 HG.out.fine (HT.out.below hb7)
  rw [hm] at hf1
  have HLK := Lib.hid hlk
  have HGX := Lib.hid hgx
  by_cases hz : er = 0
  · subst hz
    obtain ⟨k, nk, b1, hk9, hk0, hnk, hk1, b2, b3, b4, b5⟩ := hbk rfl
    have e := hm.symm.trans b1
    injection e with e1 e2
    subst e1 e2
    have hfx := fun u V (h : Ts V u x) => hfs u x V hgx h
    rw [b2] at hfx
    have hft := fun u V (h : Ts V u t) => hfs u t V HG.out.fine h
    rw [b3] at hft
    have hdr := fun u V (hm : Ml V) (h : Ts V u x) => edropV u x false s2 V hm h hgx hz2
    rw [hq, b5] at hdr
    dsimp only at hdr
    have hl1 := fun u V (h : Ts V u x) => rlinks_any u x ((k : Int) + 1) V h
    have hl2 := fun u V (h : Ts V u t) => rlinks_any u t ((k : Int) + 1) V h
    rw [b4] at hl1
    have hfew : PT.linksI t ((k : Int) + 1) ≤ 1080 := by
      rw [HG.out.fine.linksI_le hk0]; exact HG.out.fine.named_few2 k
    generalize PT.linksI t ((k : Int) + 1) = nl at *
    have hsm := fun u u' V (h : Ts V u t) (h' : Ts V u' t) => rsame_any u u' t t V h h'
    rw [decide_eq_true (rfl : t = t)] at hsm
    have HFX := Lib.hid hfx
    have HFT := Lib.hid hft
    have HDR := Lib.hid hdr
    have HL1 := Lib.hid hl1
    have HL2 := Lib.hid hl2
    have HSM := Lib.hid hsm
    have HF1 := Lib.hid hf1
    have hw1 : IntKind.i64.wrap ((k : Int) + 1 - 1) = (k : Int) := by rw [IntKind.wrap_i64]; omega
    have hw2 : IntKind.i64.wrap ((nl : Int) + 1) = (nl : Int) + 1 := by rw [IntKind.wrap_i64]; omega
    obtain ⟨b0, o0, rfl, hb0, hcell⟩ := HT.out.at (by rw [hl9]; omega)
    have hc0 := (hcell k nk hnk).1
    rw [hk1] at hc0
    have HC0 := Lib.hid hc0
    have hnl : (((nl + 1 : Nat) : Int) == (nl : Int) + 1) = true := by simp
    have hnc : ((nl + 1 : Nat) : Int) = (nl : Int) + 1 := by omega
    rw [hnc] at HL1
    clear hm hbk hno b1 b2 b3 b4 b5 hx hgx hfr hfs hlk hf1 hfx hft hdr hl1 hl2 hsm hc0 hcell hnk hk1 hp hq hb7 hbW hnl hnc hb3
    go_wp2_with (first
      | (go_at_call 26; go_loud (refine (HSM.out _ _ _ hT6' (HT.out.below hb10)).mono ?_; rintro e w15 ⟨rfl, hB15⟩))
      | (go_at_call 38; refine (HL2.out _ _ (HT.out.below hb9)).mono ?_; rintro e w14 ⟨rfl, hB14⟩; have hb10 := hb9.trans (hB14.mono hb9.size); have hT6' := (hT6.below hB13).below hB14)
      | (go_at_call 38; go_loud (refine (HL1.out _ _ hT5').mono ?_; rintro e w13 ⟨rfl, hB13⟩; have hb9 := hb8.trans (hB13.mono hb8.size)))
      | (go_at_call 31; go_loud (refine (HDR.out _ _ (HM.out.below (HBW'.trans (hb8a.mono HBW'.size))) hT4').mono ?_; rintro e w12 ⟨v6, rfl, hT6, hB12⟩; have hb8 := hb8b.trans (hB12.mono hb8b.size); have hT5' := hT4'.below hB12; have hc := (hb8.cell (p := ⟨b0, o0 + k * 3, none⟩) hb0).trans HC0.out))
      | (go_at_call 37; refine (HFT.out _ _ (HT.out.below hb7b)).mono ?_; rintro e w11 ⟨rfl, hB11⟩; have hb8b := hb7b.trans (hB11.mono hb7b.size); have hb8a := HB78.trans (hB11.mono HB78.size); have HBW' := HBW.out; have hT4' := hT3'.below hB11)
      | (go_at_call 37; refine (HFX.out _ _ hT9).mono ?_; rintro e w10 ⟨rfl, hB10⟩; have HB78 := hb79.trans (hB10.mono hb79.size); have hb7b := HB7.out.trans (HB78.mono HB7.out.size); have hT3' := hT9.below hB10)
      | (go_at_call 27; go_loud (refine (HLK.out _ (HM.out.below (HBW.out.trans (hB8.mono HBW.out.size))) (HT.out.below (HB7.out.trans (hB8.mono HB7.out.size)))).mono ?_; rintro e w9 ⟨v9, rfl, hT9, hB9⟩; have hb79 := hB8.trans (hB9.mono hB8.size)))
      | (go_at_call 37; go_loud (refine HF1.out.mono ?_; rintro e w8 ⟨rfl, hB8⟩)))
    go_ret
    exact ⟨rfl, HBW.out.trans ((((hb8a.trans (hB12.mono hb8a.size)).trans (hB13.mono (by have := hb8a.size; have := hB12.size; omega))).trans (hB14.mono (by have := hb8a.size; have := hB12.size; have := hB13.size; omega))).trans (hB15.mono (by have := hb8a.size; have := hB12.size; have := hB13.size; have := hB14.size; omega)) |>.mono HBW.out.size)⟩
  · have hqb : (er == 0) = false := by simpa using hz
    have hxt := hno hz
    subst hxt
    have hsm := fun u u' V (h : Ts V u x) (h' : Ts V u' x) => rsame_any u u' x x V h h'
    rw [decide_eq_true (rfl : x = x)] at hsm
    have HSM := Lib.hid hsm
    have HF1 := Lib.hid hf1
    clear hm hbk hno hx hgx hfr hfs hlk hf1 hsm hp hq hb7 hbW hb3 hz
    go_wp2_with (first
      | (go_at_call 26; go_loud (refine (HSM.out _ _ _ hT9 (HT.out.below (HB7.out.trans (hb79.mono HB7.out.size)))).mono ?_; rintro e w15 ⟨rfl, hB15⟩))
      | (go_at_call 27; go_loud (refine (HLK.out _ (HM.out.below (HBW.out.trans (hB8.mono HBW.out.size))) (HT.out.below (HB7.out.trans (hB8.mono HB7.out.size)))).mono ?_; rintro e w9 ⟨v9, rfl, hT9, hB9⟩; have hb79 := hB8.trans (hB9.mono hB8.size)))
      | (go_at_call 37; go_loud (refine HF1.out.mono ?_; rintro e w8 ⟨rfl, hB8⟩)))
    go_ret
    exact ⟨rfl, HBW.out.trans ((hb79.trans (hB15.mono hb79.size)).mono HBW.out.size)⟩
end Go.Proofs.YtdnobplhfbgbaaaGreatDoor
