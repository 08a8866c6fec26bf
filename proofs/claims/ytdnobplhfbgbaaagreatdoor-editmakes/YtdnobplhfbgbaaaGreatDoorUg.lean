/-
  Contract: the document's Make.
-/
import Derived.Test.YtdnobplhfbgbaaaGreatDoorMUe
import Derived.Test.YtdnobplhfbgbaaaGreatDoorMTa
namespace Go.Proofs.YtdnobplhfbgbaaaGreatDoor
open Go.RowKit Go.Joins

theorem Ro.got {w : World} {base M : Nat} {v : Value} {l : List ByteArray} (h : Ro w base v l) (hM : l.length = M) (hl : M ≤ 8 ∧ ∀ x ∈ l, x.size ≤ 6) : ∃ U d, v = .slice U M d ∧ M ≤ d ∧ Ss w (.slice U M d) l := by
  have hs := h.row (fun x hx => by have := hl.2 x hx; omega) (by omega)
  obtain ⟨U, d, rfl, hd⟩ := h.form
  subst hM
  exact ⟨U, d, rfl, hd, hs⟩
theorem rtput_none (V : Value) (t : List PT.N) (d : Nat) (n : PT.N) (s : ByteArray) (z : Int) (w : World) (h : Ts w V t) (hn : t[d]? = some n) (hd : d ≤ 1000000) (hs : s.size ≤ 1048576) (hz : I64 z) (hp : PT.put t d (s, z) = none) : Calls Tryz.prog 76 #[V, .int .i64 ((d : Int) + 1), .agg #[.string s, .int .i64 z]] w fun e w' => e = .returned (.tuple #[V, .bool false]) ∧ Below w.heap.size w w' := by
  refine (rtput_any V t d n s z w h hn hd hs hz).mono ?_
  rintro e w' ⟨v', b, rfl, h1, h2, h3⟩
  cases b with
  | false => exact ⟨by rw [(h1 rfl).2], h3⟩
  | true =>
    obtain ⟨x, hx, _⟩ := h2 rfl
    rw [hp] at hx
    cases hx
theorem rtput_some (V : Value) (t x : List PT.N) (d : Nat) (n : PT.N) (s : ByteArray) (z : Int) (w : World) (h : Ts w V t) (hn : t[d]? = some n) (hd : d ≤ 1000000) (hs : s.size ≤ 1048576) (hz : I64 z) (hp : PT.put t d (s, z) = some x) : Calls Tryz.prog 76 #[V, .int .i64 ((d : Int) + 1), .agg #[.string s, .int .i64 z]] w fun e w' => ∃ v', e = .returned (.tuple #[v', .bool true]) ∧ To 27 w' w.heap.size v' x ∧ Ts w' v' x ∧ Below w.heap.size w w' := by
  refine (rtput_any V t d n s z w h hn hd hs hz).mono ?_
  rintro e w' ⟨v', b, rfl, h1, h2, h3⟩
  cases b with
  | false => rw [(h1 rfl).1] at hp; cases hp
  | true =>
    obtain ⟨y, hy, hO⟩ := h2 rfl
    rw [hp] at hy
    injection hy with hy
    subst hy
    exact ⟨v', rfl, hO, hO.row (PT.put_fit h.2 hp).1, h3⟩
theorem PT.px_ix (i : Nat) : PT.px ((i : Int) + 1) = i := by unfold PT.px; omega
theorem PT.last_mem {l : List ByteArray} (h : l ≠ []) : PT.last l ∈ l := by
  have := PT.last_append h
  rw [this]
  simp [PT.last]
set_option maxRecDepth 100000 in
set_option maxHeartbeats 4000000 in
theorem rmake_no (v : Value) (t : List PT.N) (s : ByteArray) (kind mode ino : Int) (o : Bool) (w : World) (h : Ts w v t) (_ : PT.Fine t) (hs : s.size ≤ 65535) (hno : PN.is o s = false) : Calls Tryz.prog 25 #[v, .string s, .int .i64 kind, .int .i64 mode, .int .i64 ino, .bool o] w fun e w' => ∃ v', e = .returned (.tuple #[v', .int .i64 (PT.make t (PT.pp o s) kind mode ino).2]) ∧ Ts w' v' (PT.make t (PT.pp o s) kind mode ino).1 ∧ Below w.heap.size w w' := by
  have hp := rparts_any s o w hs
  rw [PT.pp_no hno]
  rw [hno] at hp
  rw [show PT.make t none kind mode ino = (t, 1) from rfl]
  have H := Lib.hid h
  clear h hno
  go_enter Tryz.func25, Tryz.ntmps25
  go_wp2_with (go_at_call 72; refine hp.mono ?_; rintro e w1 ⟨u, rfl, hO, hB⟩)
  go_ret2
  exact ⟨_, rfl, H.out.below hB, hB⟩
set_option maxRecDepth 100000 in
set_option maxHeartbeats 4000000 in
theorem rmake_bad (v : Value) (t : List PT.N) (s : ByteArray) (kind mode ino : Int) (o : Bool) (w : World) (h : Ts w v t) (_ : PT.Fine t) (hs : s.size ≤ 65535) (his : PN.is o s = true) (hbad : PT.badMake kind mode ino = true) : Calls Tryz.prog 25 #[v, .string s, .int .i64 kind, .int .i64 mode, .int .i64 ino, .bool o] w fun e w' => ∃ v', e = .returned (.tuple #[v', .int .i64 (PT.make t (PT.pp o s) kind mode ino).2]) ∧ Ts w' v' (PT.make t (PT.pp o s) kind mode ino).1 ∧ Below w.heap.size w w' := by
  have hp := rparts_any s o w hs
  rw [PT.pp_yes his]
  rw [his] at hp
  rw [show PT.make t (some (PN.pt o s)) kind mode ino = (t, 1) from if_pos hbad]
  have H := Lib.hid h
  have hb : (¬ kind = 1 ∧ ¬ kind = 2) ∨ ((kind = 1 ∨ kind = 2) ∧ (mode < 0 ∨ (¬ mode < 0 ∧ (255 < mode ∨ (¬ 255 < mode ∧ (ino < 0 ∨ (¬ ino < 0 ∧ 9 < ino))))))) := by
    simp only [PT.badMake, Bool.or_eq_true, Bool.not_eq_true', Bool.or_eq_false_iff, decide_eq_true_eq, decide_eq_false_iff_not] at hbad
    omega
  clear h his hbad
  rcases hb with ⟨k1, k2⟩ | ⟨k, hb⟩
  · go_enter Tryz.func25, Tryz.ntmps25
    go_wp2_with (go_at_call 72; refine hp.mono ?_; rintro e w1 ⟨u, rfl, hO, hB⟩)
    go_ret2
    exact ⟨_, rfl, H.out.below hB, hB⟩
  · rcases k with rfl | rfl <;> rcases hb with m0 | ⟨m0, m1 | ⟨m1, i0 | ⟨i0, i1⟩⟩⟩
    all_goals
      go_enter Tryz.func25, Tryz.ntmps25
      go_wp2_with (go_at_call 72; refine hp.mono ?_; rintro e w1 ⟨u, rfl, hO, hB⟩)
      go_ret2
      exact ⟨_, rfl, H.out.below hB, hB⟩
set_option maxRecDepth 100000 in
set_option maxHeartbeats 16000000 in
theorem rmake_good (v : Value) (t : List PT.N) (s : ByteArray) (kind mode ino : Int) (o : Bool) (w : World) (h : Ts w v t) (g : PT.Fine t) (hs : s.size ≤ 65535) (his : PN.is o s = true) (hbad : PT.badMake kind mode ino = false) : Calls Tryz.prog 25 #[v, .string s, .int .i64 kind, .int .i64 mode, .int .i64 ino, .bool o] w fun e w' => ∃ v', e = .returned (.tuple #[v', .int .i64 (PT.make t (PT.pp o s) kind mode ino).2]) ∧ Ts w' v' (PT.make t (PT.pp o s) kind mode ino).1 ∧ Below w.heap.size w w' := by
  have hp := rparts_any s o w hs
  have hfine := PT.make_fine g (PT.pp o s) kind mode ino
  rw [PT.pp_yes his] at hfine ⊢
  rw [his] at hp
  have h9 := g.len
  obtain ⟨A, c, rfl⟩ := h.form
  rw [h9] at h ⊢
  have hple := PN.pt_le o s
  generalize PN.pt o s = l at *
  have hb : (kind = 1 ∨ kind = 2) ∧ decide (mode < 0) = false ∧ decide (255 < mode) = false ∧ decide (ino < 0) = false ∧ decide (9 < ino) = false := by
    simp only [PT.badMake, Bool.or_eq_false_iff, Bool.not_eq_false', Bool.or_eq_true, decide_eq_true_eq] at hbad
    exact ⟨hbad.1, hbad.2.1, hbad.2.2.1, hbad.2.2.2.1, hbad.2.2.2.2⟩
  obtain ⟨hk, hm0, hm1, hi0, hi1⟩ := hb
  have hino : 0 ≤ ino ∧ ino ≤ 9 := by simp at hi0 hi1; omega
  have hmk : PT.make t (some l) kind mode ino = PT.make2 t l kind mode ino := if_neg (by rw [hbad]; decide)
  rw [hmk] at hfine ⊢
  unfold PT.make2 at hfine ⊢
  have H := Lib.hid h
  have G := Lib.hid g
  have HPT := Lib.hid hp
  have h9' : ∀ j : Nat, j < 9 → ∃ m, t[j]? = some m := fun j hj => ⟨_, List.getElem?_eq_getElem (by rw [h9]; exact hj)⟩
  obtain ⟨b0, o0, rfl, hb0, hcell⟩ := h.at (by rw [h9]; decide)
  have hkc : ∀ (j : Nat) (m : PT.N) (W : World), t[j]? = some m → Below w.heap.size w W → W.cell? ⟨b0, o0 + j * 3, none⟩ = some (.int .i64 m.kind) := fun j m W hj hW => (hW.cell hb0).trans (hcell j m hj).1
  have HKC := Lib.hid hkc
  clear hp h g hmk hbad h9 his hkc hcell
  generalize hM : l.length = M at *
  have HM := Lib.hid hM
  have HLE := Lib.hid hple
  rcases Classical.em (l = []) with hl | hl
  · subst hl
    rw [if_pos rfl]
    have hM0 : M = 0 := by rw [← hM]; rfl
    subst hM0
    clear hfine hple hM
    rcases hk with rfl | rfl
    all_goals
      go_enter Tryz.func25, Tryz.ntmps25
      go_wp2_with (go_at_call 72; refine HPT.out.mono ?_; rintro e w1 ⟨u, rfl, hO, hB⟩; obtain ⟨U, q, rfl, hq, hSs⟩ := hO.got HM.out HLE.out)
      go_ret2
      exact ⟨_, rfl, H.out.below hB, hB⟩
  rw [if_neg hl] at hfine ⊢
  have hM0 : ¬ (M : Int) = 0 := fun e => hl (List.eq_nil_of_length_eq_zero (by omega))
  have hM1 : ((M : Int) == 0) = false := by simpa using hM0
  have hpl := fun W (hW : Below w.heap.size w W) U q (hq : M ≤ q) (hu : Ss W (.slice U M q) l) => rplace_any (some ⟨b0, o0, none⟩) U c M q t l W (H.out.below hW) G.out hu HM.out hq hl
  rcases Classical.em ((PT.place t l).2 = 0) with hz | hz
  rotate_left
  · rw [if_pos hz]
    rw [if_neg hz] at hpl
    have HPL := Lib.hid hpl
    clear hfine hpl hple hM
    generalize PT.place t l = p at *
    obtain ⟨pa, pe⟩ := p
    dsimp only at *
    have hz1 : (pe == 0) = false := by simpa using hz
    rcases hk with rfl | rfl
    all_goals
      go_enter Tryz.func25, Tryz.ntmps25
      go_wp2_with (first | (go_at_call 72; refine HPT.out.mono ?_; rintro e w1 ⟨u, rfl, hO, hB1⟩; obtain ⟨U, q, rfl, hq, hSs⟩ := hO.got HM.out HLE.out; clear hO) | (go_at_call 73; refine (HPL.out _ hB1 U q hq hSs).mono ?_; rintro e w2 ⟨rfl, hB2⟩; have hb2 := hB1.trans (hB2.mono hB1.size); clear hSs hB2))
      go_ret2
      exact ⟨_, rfl, H.out.below hb2, hb2⟩
  have hnz : ¬ (PT.place t l).2 ≠ 0 := fun e => e hz
  rw [if_neg hnz] at hfine ⊢
  rw [if_pos hz] at hpl
  obtain ⟨d, n, hd, _, hd9, hn, hkn, _⟩ := G.out.place_yes hz
  rw [hd] at hpl hfine ⊢
  simp only [PT.px_succ] at hfine ⊢
  rw [show ((d + 1 : Nat) : Int) = (d : Int) + 1 by omega] at hpl
  have hlx := hple.2 _ (PT.last_mem hl)
  have hnm := fun W (hW : Below w.heap.size w W) => names_ix _ t d W (H.out.below hW) (by omega)
  have HPL := Lib.hid hpl
  have HNM := Lib.hid hnm
  have HPU := Lib.hid (fun z (hz : I64 z) W (hW : Below w.heap.size w W) => rtput_any _ t d n (PT.last l) z W (H.out.below hW) hn (by omega) (by omega) hz)
  generalize PT.last l = x at *
  obtain ⟨m, hm⟩ : ∃ m, PT.names t d = m := ⟨_, rfl⟩
  rw [hm] at hfine HNM ⊢
  obtain ⟨f, hf⟩ : ∃ f, PD.rfind m x = f := ⟨_, rfl⟩
  have HF := Lib.hid hf
  clear hpl hnm hz hnz hd hf hm hple hM hl hM0
  dsimp only at HPL
  obtain ⟨b, hb⟩ : ∃ b, PD.has m x = b := ⟨_, rfl⟩
  rw [hb] at hfine ⊢
  have HBB := Lib.hid hb
  clear hb
  cases b with
  | true =>
    rw [if_pos rfl]
    clear hfine HPU
    rcases hk with rfl | rfl
    all_goals
      go_enter Tryz.func25, Tryz.ntmps25
      go_wp2_with (first | (go_at_call 72; refine HPT.out.mono ?_; rintro e w1 ⟨u, rfl, hO, hB1⟩; obtain ⟨U, q, rfl, hq, hSs⟩ := hO.got HM.out HLE.out; clear hO) | (go_at_call 73; refine (HPL.out _ hB1 U q hq hSs).mono ?_; rintro e w2 ⟨rfl, hB2⟩; have hb2 := hB1.trans (hB2.mono hB1.size); clear hSs hB2) | (go_at_call 75; refine (HNM.out _ hb2).mono ?_; rintro e w3 ⟨v3, rfl, hO3, hF3, hB3⟩; have hb3 := hb2.trans (hB3.mono hb2.size); have hE3 := hO3.row hF3; clear hO3 hF3 hB3) | (go_at_call 74; have hr := rfind_any _ _ x _ hE3; rw [HF.out, HBB.out] at hr; refine hr.mono ?_; rintro e w4 ⟨rfl, hw4⟩; rw [hw4]; clear hw4 hE3 hr))
      go_ret2
      exact ⟨_, rfl, H.out.below hb3, hb3⟩
  | false =>
    rw [if_neg (by decide)] at hfine ⊢
    rcases Classical.em (0 < ino ∧ PT.kindAt t (PT.px ino) ≠ 0) with hi | hi
    · rw [if_pos hi]
      obtain ⟨i, rfl⟩ : ∃ i : Nat, ino = (i : Int) + 1 := ⟨(ino - 1).toNat, by omega⟩
      obtain ⟨z, hzz⟩ := h9' i (by omega)
      rw [PT.px_ix, PT.kindAt_at hzz] at hi
      have HKZ := Lib.hid (fun W hW => HKC.out i z W hzz hW)
      have hzk : (z.kind == 0) = false := by simpa using hi.2
      have hip : decide (0 < (i : Int) + 1) = true := by simp <;> omega
      have hw1 : IntKind.i64.wrap ((i : Int) + 1 - 1) = (i : Int) := by rw [IntKind.wrap_i64]; omega
      have hil : i < 9 := by omega
      generalize z.kind = zk at *
      clear hfine HPU hi hzz
      rcases hk with rfl | rfl
      all_goals
        go_enter Tryz.func25, Tryz.ntmps25
        go_wp2_with (first | (go_at_call 72; refine HPT.out.mono ?_; rintro e w1 ⟨u, rfl, hO, hB1⟩; obtain ⟨U, q, rfl, hq, hSs⟩ := hO.got HM.out HLE.out; clear hO) | (go_at_call 73; refine (HPL.out _ hB1 U q hq hSs).mono ?_; rintro e w2 ⟨rfl, hB2⟩; have hb2 := hB1.trans (hB2.mono hB1.size); clear hSs hB2) | (go_at_call 75; refine (HNM.out _ hb2).mono ?_; rintro e w3 ⟨v3, rfl, hO3, hF3, hB3⟩; have hb3 := hb2.trans (hB3.mono hb2.size); have hE3 := hO3.row hF3; clear hO3 hF3 hB3) | (go_at_call 74; have hr := rfind_any _ _ x _ hE3; rw [HF.out, HBB.out] at hr; refine hr.mono ?_; rintro e w4 ⟨rfl, hw4⟩; rw [hw4]; clear hw4 hE3 hr; have hc9 := HKZ.out _ hb3))
        go_ret2
        exact ⟨_, rfl, H.out.below hb3, hb3⟩
    · rw [if_neg hi] at hfine ⊢
      have hnum : (ino = 0 ∧ PT.numOf t ino = PT.free t 0) ∨ ∃ i : Nat, i < 9 ∧ ino = (i : Int) + 1 ∧ PT.numOf t ino = (i : Int) + 1 ∧ ∃ z, t[i]? = some z ∧ z.kind = 0 := by
        rcases Classical.em (ino = 0) with h0 | h0
        · exact .inl ⟨h0, if_pos h0⟩
        · right
          obtain ⟨i, rfl⟩ : ∃ i : Nat, ino = (i : Int) + 1 := ⟨(ino - 1).toNat, by omega⟩
          obtain ⟨z, hzz⟩ := h9' i (by omega)
          refine ⟨i, by omega, rfl, if_neg h0, z, hzz, ?_⟩
          rw [PT.px_ix, PT.kindAt_at hzz] at hi
          exact Classical.not_not.1 fun e => hi ⟨by omega, e⟩
      obtain ⟨num, hnm0⟩ : ∃ num, PT.numOf t ino = num := ⟨_, rfl⟩
      rw [hnm0] at hfine hnum ⊢
      have hfree : ∀ j : Nat, (∀ (i : Nat) m, i < j → t[i]? = some m → m.kind ≠ 0) → ∀ z, t[j]? = some z → z.kind = 0 → PT.free t 0 = ((j + 1 : Nat) : Int) := fun j h1 z h2 h3 => PT.free_here h1 h2 h3
      have hfno : (∀ (i : Nat) m, i < 9 → t[i]? = some m → m.kind ≠ 0) → PT.free t 0 = 0 := fun h1 => PT.free_no fun i m hm => h1 i m (by have := (List.getElem?_eq_some_iff.1 hm).1; rw [G.out.len] at this; exact this) hm
      have HFR := Lib.hid hfree
      have HFN := Lib.hid hfno
      -- what stands ahead of the loop: ino is nought, or a node that is none
      have hhead : ino = 0 ∨ ∃ (i : Nat) (z : PT.N), i < 9 ∧ ino = (i : Int) + 1 ∧ t[i]? = some z ∧ z.kind = 0 := by
        rcases hnum with ⟨h0, _⟩ | ⟨i, h1, h2, _, z, h3, h4⟩
        · exact .inl h0
        · exact .inr ⟨i, z, h1, h2, h3, h4⟩
      have hstart : (ino = 0 ∧ num = PT.free t 0) ∨ ∃ i : Nat, i < 9 ∧ ino = (i : Int) + 1 ∧ num = (i : Int) + 1 := by
        rcases hnum with ⟨h0, h1⟩ | ⟨i, h1, h2, h3, _⟩
        · exact .inl ⟨h0, h1⟩
        · exact .inr ⟨i, h1, h2, h3⟩
      have HST := Lib.hid hstart
      obtain ⟨R, hR⟩ : ∃ R, (if num = 0 then (t, 8) else PT.make3 t kind mode num (PT.put t d (x, num))) = R := ⟨_, rfl⟩
      rw [hR] at hfine ⊢
      have HR := Lib.hid hR
      have HFI := Lib.hid hfine
      have HN := Lib.hid hn
      clear hi hnum hnm0 hfree hfno hstart hfine hn hkn hR
      rcases hk with hkd | hkd
      all_goals
        have HKD := Lib.hid hkd
        rw [hkd]
        clear hkd
      all_goals
        rcases hhead with h0 | ⟨i, z, hi9, rfl, hzz, hz0⟩
      all_goals
        first
        | subst h0
        | (have HKZ := Lib.hid (fun W hW => HKC.out i z W hzz hW)
           rw [hz0] at HKZ
           have hip : decide (0 < (i : Int) + 1) = true := by simp <;> omega
           have hiz : ((i : Int) + 1 == 0) = false := by simp <;> omega
           have hw1 : IntKind.i64.wrap ((i : Int) + 1 - 1) = (i : Int) := by rw [IntKind.wrap_i64]; omega
           clear hzz hz0)
      all_goals
        go_enter Tryz.func25, Tryz.ntmps25
        go_wp2_with (first | (go_at_call 72; refine HPT.out.mono ?_; rintro e w1 ⟨u, rfl, hO, hB1⟩; obtain ⟨U, q, rfl, hq, hSs⟩ := hO.got HM.out HLE.out; clear hO) | (go_at_call 73; refine (HPL.out _ hB1 U q hq hSs).mono ?_; rintro e w2 ⟨rfl, hB2⟩; have hb2 := hB1.trans (hB2.mono hB1.size); clear hSs hB2) | (go_at_call 75; refine (HNM.out _ hb2).mono ?_; rintro e w3 ⟨v3, rfl, hO3, hF3, hB3⟩; have hb3 := hb2.trans (hB3.mono hb2.size); have hE3 := hO3.row hF3; clear hO3 hF3 hB3) | (go_at_call 74; have hr := rfind_any _ _ x _ hE3; rw [HF.out, HBB.out] at hr; refine hr.mono ?_; rintro e w4 ⟨rfl, hw4⟩; rw [hw4]; clear hw4 hE3 hr; first | (have hc9 := HKZ.out _ hb3) | skip))
        go_loopw [4, 21] (fun zv iv wr => ∃ (k : Nat) (zz : Int), k ≤ 9 ∧ iv = .int .i64 ((k : Int) + 1) ∧ zv = .int .i64 zz ∧ wr = w3 ∧ ((zz = 0 ∧ num = PT.free t 0 ∧ ∀ (j : Nat) m, j < k → t[j]? = some m → m.kind ≠ 0) ∨ ∃ i : Nat, i < 9 ∧ zz = (i : Int) + 1 ∧ num = (i : Int) + 1)) (fun _ iv _ => 10 - (intOf iv).toNat)
        case atStart =>
          rcases HST.out with ⟨h1, h2⟩ | ⟨i', h1, h2, h3⟩
          · first
            | exact ⟨0, 0, by decide, rfl, rfl, rfl, .inl ⟨rfl, h2, fun j m h => by omega⟩⟩
            | (exfalso; omega)
          · first
            | (exfalso; omega)
            | exact ⟨0, _, by decide, rfl, rfl, rfl, .inr ⟨i', h1, h2, h3⟩⟩
        case round =>
          obtain ⟨k, zz, hk9, rfl, rfl, hwr, hcase⟩ := hrel
          rw [hwr]
          clear hwr
          rcases hcase with ⟨rfl, hnf, hnone⟩ | ⟨i2, hi2, rfl, hnum⟩
          · by_cases hkl : k < 9
            · obtain ⟨z, hz⟩ := h9' k hkl
              have hc := HKC.out k z w3 hz hb3
              have hg9 : decide ((k : Int) + 1 ≤ 9) = true := by simp <;> omega
              have hw2 : IntKind.i64.wrap ((k : Int) + 1 - 1) = (k : Int) := by rw [IntKind.wrap_i64]; omega
              by_cases hz0 : z.kind = 0
              · rw [hz0] at hc
                have hfr := HFR.out k hnone z hz hz0
                have HNF := Lib.hid hnf
                have HFR2 := Lib.hid hfr
                clear hz hz0 hnone hnf hfr
                go_wp2
                go_roundw
                case rel => exact ⟨k + 1, (k : Int) + 1, by omega, by go_num, by trivial, by trivial, .inr ⟨k, hkl, rfl, by rw [HNF.out, HFR2.out]; omega⟩⟩
                case measure => simp [intOf]; omega
              · have HNF := Lib.hid hnf
                have HNO := Lib.hid (show ∀ (j : Nat) m, j < k + 1 → t[j]? = some m → m.kind ≠ 0 from fun j m hj hm => by
                  rcases Nat.lt_or_ge j k with h | h
                  · exact hnone j m h hm
                  · rw [show j = k by omega, hz] at hm
                    injection hm with hm
                    rw [← hm]; exact hz0)
                have hzk : (z.kind == 0) = false := by simpa using hz0
                generalize z.kind = zk at *
                clear hz hz0 hnone hnf
                go_wp2
                go_roundw
                case rel => exact ⟨k + 1, 0, by omega, by go_num, by trivial, by trivial, .inl ⟨rfl, HNF.out, HNO.out⟩⟩
                case measure => simp [intOf]; omega
            · have hk9' : k = 9 := by omega
              subst hk9'
              have HN0 := Lib.hid (hnf.trans (HFN.out hnone))
              have hg9 : decide (((9 : Nat) : Int) + 1 ≤ 9) = false := by decide
              clear hnf hnone
              go_wp2
              go_ret2
              rw [show R = (t, 8) from HR.out.symm.trans (if_pos HN0.out)]
              exact ⟨_, rfl, H.out.below hb3, hb3⟩
          · have hz2 : ((i2 : Int) + 1 == 0) = false := by simp <;> omega
            have hI : I64 ((i2 : Int) + 1) := by unfold I64; omega
            have hn0 : ¬ num = 0 := by omega
            have hgk : decide ((k : Int) + 1 ≤ 9) = true ∨ decide ((k : Int) + 1 ≤ 9) = false := by cases decide ((k : Int) + 1 ≤ 9) <;> simp
            cases hpt : PT.put t d (x, (i2 : Int) + 1) with
            | none =>
              have HPN := Lib.hid (rtput_none _ t d n x _ w3 (H.out.below hb3) HN.out (by omega) (by omega) hI hpt)
              have HM3 := Lib.hid (show R = (t, 8) from by rw [← HR.out, if_neg hn0, hnum, hpt]; rfl)
              clear hpt hnum hn0
              rcases hgk with hgk | hgk
              all_goals
                go_wp2_with (go_at_call 76; refine HPN.out.mono ?_; rintro e w5 ⟨rfl, hB5⟩)
                go_ret2
                rw [HM3.out]
                exact ⟨_, rfl, H.out.below (hb3.trans (hB5.mono hb3.size)), hb3.trans (hB5.mono hb3.size)⟩
            | some y =>
              have HPS := Lib.hid (rtput_some _ t y d n x _ w3 (H.out.below hb3) HN.out (by omega) (by omega) hI hpt)
              have hyl : i2 < y.length := by rw [(PT.put_fit G.out.fit hpt).2, G.out.len]; exact hi2
              have HM3 := Lib.hid (show R = (y.set i2 ⟨kind, mode, { data := #[] }⟩, 0) from by rw [← HR.out, if_neg hn0, hnum, hpt]; show (y.set (PT.px ((i2 : Int) + 1)) _, _) = _; rw [PT.px_ix])
              have hff := HFI.out
              rw [HM3.out, HKD.out] at hff
              have HFF := Lib.hid hff.fit
              clear hpt hnum hn0 hff
              rcases hgk with hgk | hgk
              all_goals
                go_wp2_with (first | (go_at_call 76; refine HPS.out.mono ?_; rintro e w5 ⟨v5, rfl, hO5, hT5, hB5⟩; have hb5 := hb3.trans (hB5.mono hb3.size); clear hO5) | (go_at_call 77; refine (with_ix v5 y i2 ⟨_, mode, { data := #[] }⟩ w5 hT5 hyl).mono ?_; rintro e w6 ⟨v6, rfl, hO6, hB6⟩))
                go_ret2
                rw [HM3.out, HKD.out]
                exact ⟨_, rfl, hO6.row HFF.out, hb5.trans (hB6.mono hb5.size)⟩
theorem rmake_any (v : Value) (t : List PT.N) (s : ByteArray) (kind mode ino : Int) (o : Bool) (w : World) (h : Ts w v t) (g : PT.Fine t) (hs : s.size ≤ 65535) : Calls Tryz.prog 25 #[v, .string s, .int .i64 kind, .int .i64 mode, .int .i64 ino, .bool o] w fun e w' => ∃ v', e = .returned (.tuple #[v', .int .i64 (PT.make t (PT.pp o s) kind mode ino).2]) ∧ Ts w' v' (PT.make t (PT.pp o s) kind mode ino).1 ∧ Below w.heap.size w w' := by
  cases his : PN.is o s with
  | false => exact rmake_no v t s kind mode ino o w h g hs his
  | true =>
    cases hbad : PT.badMake kind mode ino with
    | true => exact rmake_bad v t s kind mode ino o w h g hs his hbad
    | false => exact rmake_good v t s kind mode ino o w h g hs his hbad
end Go.Proofs.YtdnobplhfbgbaaaGreatDoor
