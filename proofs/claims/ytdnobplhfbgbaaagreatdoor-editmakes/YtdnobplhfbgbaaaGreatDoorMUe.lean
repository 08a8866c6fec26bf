/-
  Contracts: the document's Find, place, put, take.
  Contracts: the document's put, take.
-/
import Derived.Test.YtdnobplhfbgbaaaGreatDoorUd
namespace Go.Proofs.YtdnobplhfbgbaaaGreatDoor
open Go.RowKit Go.Joins

namespace PT
def find (t : List N) (p : Option (List ByteArray)) : Int × Int := match p with | none => (0, 1) | some l => walk t 0 l
theorem pp_no {o : Bool} {s : ByteArray} (h : PN.is o s = false) : pp o s = none := by rw [pp, h]; rfl
theorem pp_yes {o : Bool} {s : ByteArray} (h : PN.is o s = true) : pp o s = some (PN.pt o s) := by rw [pp, if_pos h]
theorem tl_length (s : ByteArray) : (PD.tl s).length ≤ 120 := by
  cases ht : PD.took s with
  | none => rw [(PD.took_none ht).2]; simp
  | some l =>
    rw [(PD.took_some ht).2]
    rw [PD.took] at ht
    split at ht
    · have hf := Option.filter_eq_some_iff.1 ht
      have := PD.ents_length (Nat.le_refl _) hf.1
      rw [nums_length] at this
      omega
    · cases ht
theorem ents_length (n : N) : (ents n).length ≤ 120 := by
  rw [ents]
  split
  · exact tl_length _
  · simp
theorem ents_fit (n : N) : Fit (ents n) := by
  refine ⟨fun e he => ?_, by have := ents_length n; omega⟩
  have := PD.may_size (ents_may he)
  exact ⟨by omega, by unfold I64; omega⟩
theorem fit_rwth {l : List E} {e : E} (h : Fit l) (he : e.1.size ≤ 1048576 ∧ I64 e.2) (hl : l.length ≤ 120) : Fit (PD.rwth l e) := by
  unfold PD.rwth
  split
  · exact h
  · refine ⟨fun x hx => ?_, by simp; omega⟩
    rcases List.mem_append.1 hx with hx | hx
    · exact h.1 x (List.mem_of_mem_take hx)
    · rcases List.mem_cons.1 hx with rfl | hx
      · exact he
      · exact h.1 x (List.mem_of_mem_drop hx)
end PT
set_option maxHeartbeats 4000000 in
theorem rtfind_any (v : Value) (t : List PT.N) (s : ByteArray) (o : Bool) (w : World) (h : Ts w v t) (g : PT.Fine t) (hs : s.size ≤ 65535) : Calls Tryz.prog 37 #[v, .string s, .bool o] w fun e w' => e = .returned (.tuple #[.int .i64 (PT.find t (PT.pp o s)).1, .int .i64 (PT.find t (PT.pp o s)).2]) ∧ Below w.heap.size w w' := by
  have hp := rparts_any s o w hs
  cases hi : PN.is o s with
  | false =>
    rw [PT.pp_no hi]
    rw [hi] at hp
    clear hi h g
    go_enter Tryz.func37, Tryz.ntmps37
    go_wp2_with (go_at_call 72; refine hp.mono ?_; rintro e w1 ⟨u, rfl, hO, hB⟩)
    go_ret2
    exact ⟨rfl, hB⟩
  | true =>
    rw [PT.pp_yes hi]
    rw [hi] at hp
    have hw := fun W (hW : Below w.heap.size w W) u (hu : Ss W u (PN.pt o s)) => rwalk_any v u t _ W (h.below hW) g hu
    have hf : PT.find t (some (PN.pt o s)) = PT.walk t 0 (PN.pt o s) := rfl
    rw [hf]
    generalize PT.walk t 0 (PN.pt o s) = p at *
    have HW := Lib.hid hw
    clear hi h g hw hf
    go_enter Tryz.func37, Tryz.ntmps37
    go_wp2_with (first | (go_at_call 72; refine hp.mono ?_; rintro e w1 ⟨u, rfl, hO, hB⟩) | (go_at_call 87; refine (HW.out _ hB u hO.small).mono ?_; rintro e w2 ⟨rfl, hB2⟩))
    go_ret2
    exact ⟨rfl, hB.trans (hB2.mono hB.size)⟩

/-- The front of a row of strings. -/
theorem Ss.sub {A : Option Addr} {n c p : Nat} {ss : List ByteArray} (l0 : ss.length = n) (hp : p ≤ n) (hnc : n ≤ c) : ∃ A' c', p ≤ c' ∧ (∀ W, (Instr.slice 35 (.slice A n c) none (some (.int .i64 (p : Int))) none).run Tryz.prog W = .ok (.slice A' p c') W) ∧ ∀ W, Ss W (.slice A n c) ss → Ss W (.slice A' p c') (ss.take p) := by
  refine ⟨if c = 0 then A else A.map (·.add (0 * 1)), c - 0, by omega, fun W => ?_, fun W h => ?_⟩
  · rw [run_slice_h W 35 A n c (by kernel_rfl) .i64 (p : Int) (by omega) (by omega)]
    kernel_rfl
  · obtain ⟨⟨A', c', hv, hl, hA⟩, hb, hm⟩ := h
    injection hv with e1 e2 e3
    subst e1 e3
    have hlen : (ss.take p).length = p := by rw [List.length_take]; omega
    refine ⟨⟨_, c, by rw [hlen]; rfl, by simp, fun hn => ?_⟩, fun s hs => hb s (List.mem_of_mem_take hs), by rw [hlen]; omega⟩
    rw [hlen] at hn
    obtain ⟨b, o, rfl, hbs, hc⟩ := hA (by omega)
    refine ⟨b, o, ?_, hbs, fun j hj => ?_⟩
    · rw [if_neg (by omega)]
      simp [Addr.add_lit]
    · rw [hlen] at hj
      rw [hc j (by omega)]
      have h1 : j < p := by omega
      simp [h1]
set_option maxHeartbeats 4000000 in
theorem rplace_any (A U : Option Addr) (c M d : Nat) (t : List PT.N) (l : List ByteArray) (w : World) (h : Ts w (.slice A 9 c) t) (g : PT.Fine t) (hs : Ss w (.slice U M d) l) (hM : l.length = M) (hd : M ≤ d) (h0 : l ≠ []) : Calls Tryz.prog 73 #[.slice A 9 c, .slice U M d] w fun e w' => e = .returned (.tuple #[.int .i64 (PT.place t l).1, .string (if (PT.place t l).2 = 0 then PT.last l else { data := #[] }), .int .i64 (PT.place t l).2]) ∧ Below w.heap.size w w' := by
  obtain ⟨m, hm⟩ : ∃ m, M = m + 1 := by
    cases l with
    | nil => exact absurd rfl h0
    | cons a r => exact ⟨r.length, by rw [← hM]; rfl⟩
  have hl := hs.2.2
  rw [hM] at hl
  obtain ⟨Uf, df, hdf, hrun, hsub⟩ := Ss.sub (A := U) (n := M) (c := d) (p := m) hM (by omega) hd
  have hdl : l.take m = l.dropLast := by rw [List.dropLast_eq_take, hM, hm]; rfl
  have hwk := rwalk_any (.slice A 9 c) (.slice Uf m df) t (l.take m) w h g (hsub w hs)
  rw [hdl] at hwk
  have hw1 : IntKind.i64.wrap ((M : Int) - 1) = (m : Int) := by rw [IntKind.wrap_i64]; omega
  have hpl : PT.place t l = (if (PT.walk t 0 l.dropLast).2 = 0 then (if PT.kindAt t (PT.px (PT.walk t 0 l.dropLast).1) = 2 then ((PT.walk t 0 l.dropLast).1, 0) else (0, 5)) else (0, (PT.walk t 0 l.dropLast).2)) := rfl
  have hlast : l[m]? = some (PT.last l) := by
    have := PT.last_append h0
    have hll : l.dropLast.length = m := by rw [List.length_dropLast, hM, hm]; rfl
    rw [this, List.getElem?_append_right (by omega), hll]
    simp [PT.last]
  clear hdl hsub
  rcases Classical.em ((PT.walk t 0 l.dropLast).2 = 0) with hz | hz
  · obtain ⟨k, n, hk, hk9, hn, _, _⟩ := g.walk_yes hz
    rw [hk] at hwk
    rw [hk] at hpl
    simp only [if_true, PT.px_succ, PT.kindAt_at hn] at hpl
    obtain ⟨b0, o0, rfl, hb0, hcell⟩ := h.at (by rw [g.len]; decide)
    obtain ⟨g0, g1, g2⟩ := hcell k n hn
    obtain ⟨kd, md, s⟩ := n
    dsimp only at g0 hpl
    have hw2 : IntKind.i64.wrap ((k : Int) + 1 - 1) = (k : Int) := by rw [IntKind.wrap_i64]; omega
    rw [show ((k + 1 : Nat) : Int) = (k : Int) + 1 by omega] at hwk hpl
    by_cases hk2 : kd = 2
    · subst hk2
      rw [if_pos rfl] at hpl
      rw [hpl]
      obtain ⟨b1, o1, rfl, hb1, hcs⟩ := hs.at (by rw [hM]; omega)
      have hlc := hcs m _ hlast
      have hmM : m < M := by omega
      have HL := Lib.hid hlc
      have HG := Lib.hid g0
      generalize PT.last l = x at *
      clear hpl hz hk hn hcell g1 g2 h g hs hcs hlast hlc h0 hM hm
      go_enter Tryz.func73, Tryz.ntmps73
      go_wp2_with (go_at_call 87; refine hwk.mono ?_; rintro e w1 ⟨rfl, hB⟩; have hc0 := (hB.cell (p := ⟨b0, o0 + k * 3, none⟩) hb0).trans HG.out; have hc1 := (hB.cell (p := ⟨b1, o1 + m, none⟩) hb1).trans HL.out)
      go_quiet (fail)
      go_wp2
      go_ret3
      exact ⟨rfl, drewN_below hB _⟩
    · rw [if_neg hk2] at hpl
      rw [hpl]
      have HG := Lib.hid g0
      clear hpl hz hk hn hcell g1 g2 h g hs hlast h0 hM hm g0
      go_enter Tryz.func73, Tryz.ntmps73
      go_wp2_with (go_at_call 87; refine hwk.mono ?_; rintro e w1 ⟨rfl, hB⟩; have hc0 := (hB.cell (p := ⟨b0, o0 + k * 3, none⟩) hb0).trans HG.out)
      go_ret3
      exact ⟨rfl, hB⟩
  · rcases PT.walk_two t 0 l.dropLast with ⟨k, hk⟩ | ⟨hk1, hk2⟩
    · rw [hk] at hz
      exact absurd rfl hz
    · rw [if_neg hz] at hpl
      rw [hpl]
      generalize PT.walk t 0 l.dropLast = p at *
      obtain ⟨pa, pe⟩ := p
      dsimp only at *
      subst hk1
      have hz1 : (pe == 0) = false := by simpa using hz
      have hif : (if pe = 0 then PT.last l else ({ data := #[] } : ByteArray)) = { data := #[] } := if_neg hz
      rw [hif]
      clear hpl h g hs hlast h0 hM hm hif
      go_enter Tryz.func73, Tryz.ntmps73
      go_wp2_with (go_at_call 87; refine hwk.mono ?_; rintro e w1 ⟨rfl, hB⟩)
      go_ret3
      exact ⟨rfl, hB⟩
end Go.Proofs.YtdnobplhfbgbaaaGreatDoor
namespace Go.Proofs.YtdnobplhfbgbaaaGreatDoor
open Go.RowKit Go.Joins

theorem with_ix (v : Value) (t : List PT.N) (k : Nat) (n : PT.N) (w : World) (h : Ts w v t) (hk : k < t.length) : Calls Tryz.prog 77 #[v, .int .i64 ((k : Int) + 1), .agg #[.int .i64 n.kind, .int .i64 n.mode, .string n.body]] w fun e w' => ∃ v', e = .returned v' ∧ To 27 w' w.heap.size v' (t.set k n) ∧ Below w.heap.size w w' := by
  have := with_any v t k n w h hk
  rw [show ((k + 1 : Nat) : Int) = (k : Int) + 1 by omega] at this
  exact this
set_option maxRecDepth 100000 in
set_option maxHeartbeats 8000000 in
theorem rtput_any (V : Value) (t : List PT.N) (d : Nat) (n : PT.N) (s : ByteArray) (z : Int) (w : World) (h : Ts w V t) (hn : t[d]? = some n) (hd : d ≤ 1000000) (hs : s.size ≤ 1048576) (hz : I64 z) : Calls Tryz.prog 76 #[V, .int .i64 ((d : Int) + 1), .agg #[.string s, .int .i64 z]] w fun e w' => ∃ v' b, e = .returned (.tuple #[v', .bool b]) ∧ (b = false → PT.put t d (s, z) = none ∧ v' = V) ∧ (b = true → ∃ x, PT.put t d (s, z) = some x ∧ To 27 w' w.heap.size v' x) ∧ Below w.heap.size w w' := by
  have hnm := fun W (hW : Below w.heap.size w W) => names_ix V t d W (h.below hW) hd
  rw [PT.names_at hn] at hnm
  have hpN : PD.ok (PD.rwth (PT.ents n) (s, z)) = false → PT.put t d (s, z) = none := fun e => by
    rw [PT.put, hn]
    simp only
    rw [e]; rfl
  have hpY : PD.ok (PD.rwth (PT.ents n) (s, z)) = true → PT.put t d (s, z) = some (t.set d ⟨n.kind, n.mode, PD.put (PD.rwth (PT.ents n) (s, z))⟩) := fun e => by
    rw [PT.put, hn]
    simp only
    rw [if_pos e]; rfl
  have hfit := PT.fit_rwth (e := (s, z)) (PT.ents_fit n) ⟨hs, hz⟩ (PT.ents_length n)
  have hel := PT.ents_length n
  have hbn : PD.has (PT.ents n) (s, z).1 = true → PD.rwth (PT.ents n) (s, z) = PT.ents n := fun e => by rw [PD.rwth, if_pos e]
  have hww : ∀ (u : Value) (W : World), Es W u (PT.ents n) → Calls Tryz.prog 122 #[u, .agg #[.string s, .int .i64 z]] W fun e w' => ∃ v', e = .returned (.tuple #[v', .bool (!PD.has (PT.ents n) s)]) ∧ Es w' v' (PD.rwth (PT.ents n) (s, z)) ∧ Below W.heap.size W w' := fun u W hu => by
    refine (rwith_any u _ s z W hu (by omega)).mono ?_
    rintro e w1 ⟨v1, rfl, h1, h2, hB⟩
    refine ⟨v1, rfl, ?_, hB⟩
    cases hb : PD.has (PT.ents n) s with
    | true => rw [h1 hb, hbn hb]; exact hu.below hB
    | false => exact (h2 hb).row hfit
  generalize PD.rwth (PT.ents n) (s, z) = r at *
  generalize PD.has (PT.ents n) s = b at *
  generalize PT.ents n = m at *
  obtain ⟨A, c, rfl⟩ := h.form
  have HNM := Lib.hid hnm
  have HW := Lib.hid hww
  have HPN := Lib.hid hpN
  have HPY := Lib.hid hpY
  have H := Lib.hid h
  have hB := al w (.cells #[.string s, .int .i64 z] 75)
  have hbx := Bx.new w 75 #[.string s, .int .i64 z]
  generalize hL : t.length = L at *
  have HL := Lib.hid hL
  have hdL : d < L := by rw [← hL]; exact (List.getElem?_eq_some_iff.1 hn).1
  have hwt := fun b' W (hW : Below w.heap.size w W) => with_ix (.slice A L c) t d ⟨n.kind, n.mode, b'⟩ W (h.below hW) (by rw [hL]; exact hdL)
  have HWT := Lib.hid hwt
  obtain ⟨b0, o0, rfl, hb0, hcell⟩ := h.at (by rw [hL]; omega)
  have hc0 := fun W (hW : Below w.heap.size w W) => (show W.cell? ⟨b0, o0 + d * 3, none⟩ = _ ∧ W.cell? ⟨b0, o0 + d * 3 + 1, none⟩ = _ ∧ W.cell? ⟨b0, o0 + d * 3 + 2, none⟩ = _ from ⟨(hW.cell hb0).trans (hcell d n hn).1, (hW.cell hb0).trans (hcell d n hn).2.1, (hW.cell hb0).trans (hcell d n hn).2.2⟩)
  have HC := Lib.hid hc0
  clear hwt hc0 hcell hb0
  clear hnm hww hpN hpY h hbn hel hL
  go_enter Tryz.func76, Tryz.ntmps76
  go_upto_region 1 with fail
  generalize w.alloc (.cells #[.string s, .int .i64 z] 75) = w2 at *
  have hBz : w.heap.size ≤ w2.heap.size := hB.size
  generalize hgx : w.heap.size = gx at *
  refine wp_region_grow Tryz.checked.mixed (by kernel_rfl) (fun W => Below w2.heap.size w2 W)
    (fun i v W => match i with
      | 0 => v = .slice (some ⟨b0, o0, none⟩) L c
      | 1 => v = .int .i64 ((d : Int) + 1)
      | 2 => Es W v m
      | 3 => v = .agg #[.string s, .int .i64 z]
      | 4 => ∃ v', v = .tuple #[v', .bool (!b)] ∧ Es W v' r
      | 5 => ∃ v', v = .tuple #[v', .bool (!b)] ∧ Es W v' r
      | 6 => Es W v r
      | 7 => v = .bool (!b)
      | 8 => Es W v r
      | _ => v = .bool (!b)) ?hS ?hR ?start ?each ?fin
  case hS =>
    intro W W' h hb
    exact h.trans (hb.mono h.size)
  case hR =>
    intro j v W W' h hb
    rcases j with _ | _ | _ | _ | _ | _ | _ | _ | _ | j <;> first | exact h | exact Es.below h hb | exact ⟨h.choose, h.choose_spec.1, h.choose_spec.2.below hb⟩
  case start => exact (Below.refl _ _).drew
  case each =>
    intro i hi a W hold hp h6 K hK
    rcases i with _ | _ | _ | _ | _ | _ | _ | _ | _ | i
    · have s := hold 0 rfl
      simp [predsOf, Region.binds, slotV] at hp
      refine wpOp_of rfl rfl ?_
      simp at s
      go_simp
      exact hK _ _ (by simp) (Below.refl _ _) rfl
    · have s := hold 1 rfl
      simp [predsOf, Region.binds, slotV] at hp
      refine wpOp_of rfl rfl ?_
      simp at s
      go_simp
      exact hK _ _ (by simp) (Below.refl _ _) rfl
    · simp [predsOf, Region.binds, slotV] at hp
      refine wpOp_of rfl rfl ?_
      go_simp
      refine (HNM.out W (hB.trans (h6.mono hBz))).mono ?_
      rintro e W2 ⟨v2, rfl, hO, hF, hB'⟩
      exact hK _ _ (by simp) hB' (hO.row hF)
    · have s5 := hold 5 rfl
      simp [predsOf, Region.binds, slotV] at hp
      refine wpOp_of rfl rfl ?_
      simp at s5
      obtain ⟨c0, c1⟩ := (hbx.on h6).pair
      go_simp
      exact hK _ _ (by simp) (Below.refl _ _) rfl
    · simp [predsOf, Region.binds, slotV] at hp
      refine wpOp_of rfl rfl ?_
      obtain ⟨p1, p2⟩ := hp
      have hr := HW.out _ W p1
      go_simp
      refine hr.mono ?_
      rintro e W2 ⟨v2, rfl, hE, hB'⟩
      exact hK _ _ (by simp) hB' ⟨v2, rfl, hE⟩
    · simp [predsOf, Region.binds, slotV] at hp
      refine wpOp_of rfl rfl ?_
      obtain ⟨v2, e2, hE⟩ := hp
      go_simp
      exact hK _ _ (by simp) (Below.refl _ _) ⟨v2, rfl, hE⟩
    · simp [predsOf, Region.binds, slotV] at hp
      refine wpOp_of rfl rfl ?_
      obtain ⟨v2, e2, hE⟩ := hp
      go_simp
      exact hK _ _ (by simp) (Below.refl _ _) hE
    · simp [predsOf, Region.binds, slotV] at hp
      refine wpOp_of rfl rfl ?_
      obtain ⟨v2, e2, hE⟩ := hp
      go_simp
      exact hK _ _ (by simp) (Below.refl _ _) rfl
    · simp [predsOf, Region.binds, slotV] at hp
      refine wpOp_of rfl rfl ?_
      go_simp
      exact hK _ _ (by simp) (Below.refl _ _) hp.1
    · have i0 : i = 0 := by simp at hi; omega
      subst i0
      simp [predsOf, Region.binds, slotV] at hp
      refine wpOp_of rfl rfl ?_
      go_simp
      exact hK _ _ (by simp) (Below.refl _ _) (by simp)
  case fin =>
    intro vs W hRs h6
    have r0 := hRs 0 (by decide)
    have r1 := hRs 1 (by decide)
    have r3 := hRs 3 (by decide)
    have r7 := hRs 7 (by decide)
    have r8 := hRs 8 (by decide)
    have r9 := hRs 9 (by decide)
    simp at r0 r1 r3 r7 r8 r9
    simp only [putAll, List.foldl_cons, List.foldl_nil, Act.put, List.setIfInBounds_toArray, List.set_cons_succ, List.set_cons_zero, r0, r1, r3, r7, r9]
    have hbW := hB.trans (h6.mono hBz)
    have hbxW := hbx.on h6
    have h6z := h6.size
    generalize vs (some 8) = V8 at *
    generalize vs (some 16) = V16 at *
    generalize vs (some 18) = V18 at *
    generalize vs (some 13) = V13 at *
    generalize vs (some 19) = V19 at *
    clear hRs h6 hbx HNM HW r0 r1 r3 r7 r9
    obtain ⟨A8, c8, rfl⟩ := r8.form
    have hpt := rput_any _ _ W r8
    cases hok : PD.ok r with
    | false =>
      rw [hok] at hpt
      have hN : PT.put t d (s, z) = none := HPN.out hok
      clear r8 H HPN HPY
      go_wp2_with (go_at_call 123; refine hpt.mono ?_; rintro e w3 ⟨rfl, hB3⟩)
      go_ret2
      exact ⟨_, _, rfl, fun _ => ⟨hN, rfl⟩, fun e => (by cases e), hgx ▸ hbW.trans (hB3.mono (Nat.le_trans hBz h6z))⟩
    | true =>
      rw [hok] at hpt
      have hY := HPY.out hok
      clear r8 HPN HPY
      go_wp2_with (first | (go_at_call 123; refine hpt.mono ?_; rintro e w3 ⟨rfl, hB3⟩; have hb3 := hbW.trans (hB3.mono (Nat.le_trans hBz h6z)); obtain ⟨c0, c1, c2⟩ := HC.out w3 hb3; have hz3 := Nat.le_trans (Nat.le_trans hBz h6z) hB3.size) | (go_at_call 77; refine (HWT.out _ _ (hb3.alloc hz3 _)).mono ?_; rintro e w4 ⟨v4, rfl, hO4, hB4⟩))
      go_ret2
      have hz4 : gx ≤ (w3.alloc (.cells #[.int .i64 n.kind, .int .i64 n.mode, .string (PD.put r)] 27)).heap.size := by simp; omega
      exact ⟨_, _, rfl, fun e => (by cases e), fun _ => ⟨_, hY, by rw [hgx]; exact hO4.base hz4⟩, by rw [hgx]; exact (hb3.alloc hz3 _).trans (hB4.mono hz4)⟩

theorem PT.fit_rless {l : List E} {x : ByteArray} (h : Fit l) : Fit (PD.rless l x) := by
  unfold PD.rless
  split
  · exact h.sub (fun e he => (List.mem_filter.1 he).1) (List.length_filter_le _ _)
  · exact h
set_option maxRecDepth 100000 in
set_option maxHeartbeats 8000000 in
theorem rttake_any (v : Value) (t : List PT.N) (d : Nat) (n : PT.N) (s : ByteArray) (w : World) (h : Ts w v t) (hn : t[d]? = some n) (hd : d ≤ 1000000) : Calls Tryz.prog 83 #[v, .int .i64 ((d : Int) + 1), .string s] w fun e w' => ∃ v', e = .returned v' ∧ To 27 w' w.heap.size v' (PT.take t d s) ∧ Below w.heap.size w w' := by
  have hnm := fun W (hW : Below w.heap.size w W) => names_ix v t d W (h.below hW) hd
  rw [PT.names_at hn] at hnm
  have hT : PT.take t d s = t.set d ⟨n.kind, n.mode, PD.put (PD.rless (PT.ents n) s)⟩ := by
    rw [PT.take, hn]
    rfl
  rw [hT]
  have hfit := PT.fit_rless (x := s) (PT.ents_fit n)
  have hbn : PD.has (PT.ents n) s = false → PD.rless (PT.ents n) s = PT.ents n := fun e => by rw [PD.rless, if_neg (by rw [e]; decide)]
  have hww : ∀ (u : Value) (W : World), Es W u (PT.ents n) → Calls Tryz.prog 130 #[u, .string s] W fun e w' => ∃ v', e = .returned (.tuple #[v', .bool (PD.has (PT.ents n) s)]) ∧ Es w' v' (PD.rless (PT.ents n) s) ∧ Below W.heap.size W w' := fun u W hu => by
    refine (rless_any u _ s W hu).mono ?_
    rintro e w1 ⟨v1, rfl, h1, h2, hB⟩
    refine ⟨v1, rfl, ?_, hB⟩
    cases hb : PD.has (PT.ents n) s with
    | false => rw [h1 hb, hbn hb]; exact hu.below hB
    | true => exact (h2 hb).row hfit
  generalize PD.rless (PT.ents n) s = r at *
  generalize PD.has (PT.ents n) s = b at *
  generalize PT.ents n = m at *
  obtain ⟨A, c, rfl⟩ := h.form
  have HNM := Lib.hid hnm
  have HW := Lib.hid hww
  generalize hL : t.length = L at *
  have hdL : d < L := by rw [← hL]; exact (List.getElem?_eq_some_iff.1 hn).1
  have hwt := fun b' W (hW : Below w.heap.size w W) => with_ix (.slice A L c) t d ⟨n.kind, n.mode, b'⟩ W (h.below hW) (by rw [hL]; exact hdL)
  have HWT := Lib.hid hwt
  obtain ⟨b0, o0, rfl, hb0, hcell⟩ := h.at (by rw [hL]; omega)
  have hc0 := fun W (hW : Below w.heap.size w W) => (show W.cell? ⟨b0, o0 + d * 3, none⟩ = _ ∧ W.cell? ⟨b0, o0 + d * 3 + 1, none⟩ = _ ∧ W.cell? ⟨b0, o0 + d * 3 + 2, none⟩ = _ from ⟨(hW.cell hb0).trans (hcell d n hn).1, (hW.cell hb0).trans (hcell d n hn).2.1, (hW.cell hb0).trans (hcell d n hn).2.2⟩)
  have HC := Lib.hid hc0
  have hw1 : IntKind.i64.wrap ((d : Int) + 1 - 1) = (d : Int) := by rw [IntKind.wrap_i64]; omega
  clear hwt hc0 hcell hb0 hnm hww h hbn hL hT
  go_enter Tryz.func83, Tryz.ntmps83
  go_wp2_with (first
    | (go_at_call 75; refine (HNM.out _ (Below.refl _ _)).mono ?_; rintro e w1 ⟨v1, rfl, hO1, hF1, hB1⟩; have hE1 := hO1.row hF1; clear hO1 hF1)
    | (go_at_call 130; refine (HW.out _ _ hE1).mono ?_; rintro e w2 ⟨v2, rfl, hE2, hB2⟩; have hb2 := hB1.trans (hB2.mono hB1.size); clear hE1 hB2)
    | (go_at_call 123; refine (rput_any _ _ _ hE2).mono ?_; rintro e w3 ⟨rfl, hB3⟩; have hb3 := hb2.trans (hB3.mono hb2.size); obtain ⟨c0, c1, c2⟩ := HC.out w3 hb3; have hz3 := hb3.size; clear hE2)
    | (go_at_call 77; refine (HWT.out _ _ (hb3.alloc hz3 _)).mono ?_; rintro e w4 ⟨v4, rfl, hO4, hB4⟩))
  go_ret
  have hz4 : w.heap.size ≤ (w3.alloc (.cells #[.int .i64 n.kind, .int .i64 n.mode, .string (PD.put r)] 27)).heap.size := by simp; omega
  exact ⟨_, rfl, hO4.base hz4, (hb3.alloc hz3 _).trans (hB4.mono hz4)⟩
end Go.Proofs.YtdnobplhfbgbaaaGreatDoor
