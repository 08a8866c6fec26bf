/-
  Plain: what tree asks of the links is what the document counts.
  Contracts: tree's May; Links as the document has them.
-/
import Derived.Test.YtdnobplhfbgbaaaGreatDoorMUx
namespace Go.Proofs.YtdnobplhfbgbaaaGreatDoor
open Go.RowKit Go.Joins

namespace PT
theorem cntL_append (a b : List Lk) (z : Int) : cntL (a ++ b) z = cntL a z + cntL b z := by simp [cntL]
theorem cntL_inside {t : List N} {j : Nat} {n : N} (h : t[j]? = some n) (z : Int) : cntL (inside t ((j : Int) + 1)) z = cntI (ents n) z := by
  unfold inside cntL cntI
  rw [atz_at h, List.countP_map]
  rfl
theorem cntI_cnt (n : N) (k : Nat) : cntI (ents n) ((k : Int) + 1) = cnt (ents n) k := by
  unfold cntI cnt
  refine List.countP_congr fun e he => ?_
  have hm := ents_may he
  simp only [PD.may, Bool.and_eq_true, decide_eq_true_eq] at hm
  unfold ix
  simp only [decide_eq_true_eq, beq_iff_eq]
  omega
theorem cntL_to (t : List N) (z : Int) : ∀ j, j ≤ t.length → cntL (linksTo t j) z = ((t.take j).map fun n => cntI (ents n) z).sum
  | 0, _ => by simp [linksTo, cntL]
  | j + 1, h => by
    obtain ⟨n, hn⟩ : ∃ n, t[j]? = some n := ⟨_, List.getElem?_eq_getElem (by omega)⟩
    rw [linksTo_succ, cntL_append, cntL_to t z j (by omega), cntL_inside hn, List.take_add_one, hn]
    simp
theorem cntL_links {t : List N} (h9 : t.length = 9) (k : Nat) : cntL (links t) ((k : Int) + 1) = named t k := by
  unfold links named
  rw [cntL_to t _ 9 (by omega), List.take_of_length_le (by omega)]
  congr 1
  exact List.map_congr_left fun n _ => cntI_cnt n k
theorem links_sum (t : List N) (z : Int) : ((List.range t.length).map fun i : Nat => cntL (inside t ((i : Int) + 1)) z).sum = namedI t z := by
  have key : ∀ j, j ≤ t.length → ((List.range j).map fun i : Nat => cntL (inside t ((i : Int) + 1)) z).sum = ((t.take j).map fun n => cntI (ents n) z).sum := by
    intro j
    induction j with
    | zero => intro _; simp
    | succ j ih =>
      intro h
      obtain ⟨n, hn⟩ : ∃ n, t[j]? = some n := ⟨_, List.getElem?_eq_getElem (by omega)⟩
      rw [List.range_succ, List.map_append, List.sum_append, ih (by omega), List.take_add_one, hn]
      simp [cntL_inside hn]
  rw [key _ (Nat.le_refl _), List.take_of_length_le (Nat.le_refl _)]
  rfl
theorem links_mem {t : List N} {x : Lk} : ∀ j, j ≤ t.length → (x ∈ linksTo t j ↔ ∃ (i : Nat) (e : E), i < j ∧ e ∈ names t i ∧ x = (e, atz t e.2, (i : Int) + 1))
  | 0, _ => by simp [linksTo]
  | j + 1, h => by
    obtain ⟨n, hn⟩ : ∃ n, t[j]? = some n := ⟨_, List.getElem?_eq_getElem (by omega)⟩
    rw [linksTo_succ, List.mem_append, links_mem j (by omega)]
    constructor
    · rintro (⟨i, e, h1, h2, h3⟩ | h1)
      · exact ⟨i, e, by omega, h2, h3⟩
      · obtain ⟨e, he, rfl⟩ := List.mem_map.1 h1
        rw [atz_at hn] at he
        exact ⟨j, e, by omega, by rw [names_at hn]; exact he, rfl⟩
    · rintro ⟨i, e, h1, h2, rfl⟩
      by_cases hij : i = j
      · subst hij
        right
        refine List.mem_map.2 ⟨e, ?_, rfl⟩
        rw [atz_at hn, ← names_at hn]
        exact h2
      · exact .inl ⟨i, e, by omega, h2, rfl⟩
/-- What tree asks, of a list of nine. -/
def treeB (t : List N) : Bool := t.all shapeB && (decide ((atz t 1).kind = 2) && ((links t).all (leadB (links t)) && wholeB t))
theorem atz_ix {t : List N} {k : Nat} {e : E} (he : e ∈ names t k) {n : N} (h : t[ix e]? = some n) : atz t e.2 = n := by
  rw [ix_int he, show ((ix e + 1 : Nat) : Int) = (ix e : Int) + 1 by omega]
  exact atz_at h
theorem mem_lt {t : List N} {k : Nat} {e : E} (he : e ∈ names t k) : k < t.length := by
  rcases Nat.lt_or_ge k t.length with h | h
  · exact h
  · rw [names, List.getElem?_eq_none h] at he
    cases he
theorem leadB_iff (l : List Lk) (x : Lk) : leadB l x = true ↔ x.1.2 ≠ 1 ∧ x.2.1.kind ≠ 0 ∧ (x.2.1.kind = 2 → cntL l x.1.2 ≤ 1) := by
  unfold leadB
  simp only [Bool.and_eq_true, Bool.not_eq_true', decide_eq_false_iff_not, decide_eq_true_eq, Bool.and_eq_false_iff]
  constructor
  · rintro ⟨h1, h2, h3⟩
    exact ⟨h1, h2, fun h => by rcases h3 with h3 | h3 <;> omega⟩
  · rintro ⟨h1, h2, h3⟩
    refine ⟨h1, h2, ?_⟩
    by_cases h : x.2.1.kind = 2
    · exact .inr (by have := h3 h; omega)
    · exact .inl h
theorem wholeB_iff {t : List N} (h9 : t.length = 9) : wholeB t = true ↔ ∀ (k : Nat) n, t[k]? = some n → n.kind ≠ 0 → Reach t k := by
  have hs := seen_reach (t := t) (fun _ _ he => ix_lt he)
  unfold wholeB
  rw [List.all_eq_true]
  constructor
  · intro h k n hn hk
    have hlt := (List.getElem?_eq_some_iff.1 hn).1
    have h1 := h k (List.mem_range.2 (by omega))
    rw [atz_at hn] at h1
    simp only [Bool.not_eq_true', Bool.and_eq_false_iff, decide_eq_false_iff_not, Bool.not_eq_false'] at h1
    rcases h1 with h1 | h1
    · exact absurd hk h1
    · exact (hs k).1 (gb_true.1 h1)
  · intro h k hk
    have hlt := List.mem_range.1 hk
    obtain ⟨n, hn⟩ : ∃ n, t[k]? = some n := ⟨_, List.getElem?_eq_getElem (by omega)⟩
    rw [atz_at hn]
    simp only [Bool.not_eq_true', Bool.and_eq_false_iff, decide_eq_false_iff_not, Bool.not_eq_false']
    by_cases h0 : n.kind ≠ 0
    · exact .inr (gb_true.2 ((hs k).2 (h k n hn h0)))
    · exact .inl h0
theorem reach_named {t : List N} {k : Nat} (h : Reach t k) (h0 : 0 < k) : 0 < named t k := by
  cases h with
  | root => omega
  | step _ he => exact named_pos he
theorem treeB_iff {t : List N} (h9 : t.length = 9) : treeB t = true ↔ Fine t := by
  unfold treeB
  simp only [Bool.and_eq_true, decide_eq_true_eq, List.all_eq_true]
  rw [wholeB_iff h9]
  have hc := cntL_links h9
  have hm := fun x => links_mem (t := t) (x := x) 9 (by omega)
  constructor
  · rintro ⟨h1, h2, h3, h4⟩
    have hl : ∀ (k : Nat) e, e ∈ names t k → e.2 ≠ 1 ∧ (atz t e.2).kind ≠ 0 ∧ ((atz t e.2).kind = 2 → cntL (links t) e.2 ≤ 1) := fun k e he => by
      have hx := (hm (e, atz t e.2, (k : Int) + 1)).2 ⟨k, e, by have := mem_lt he; omega, he, rfl⟩
      exact (leadB_iff _ _).1 (h3 _ hx)
    have hpos : ∀ k : Nat, 0 < named t k → ∃ (i : Nat) (e : E), e ∈ names t i ∧ ix e = k := fun k hk => by
      rw [← hc k, cntL, List.countP_pos_iff] at hk
      obtain ⟨x, hx, hxk⟩ := hk
      obtain ⟨i, e, _, he, rfl⟩ := (hm x).1 hx
      refine ⟨i, e, he, ?_⟩
      have hi := ix_int he
      simp only [decide_eq_true_eq] at hxk
      omega
    obtain ⟨r, hr⟩ : ∃ r, t[0]? = some r := ⟨_, List.getElem?_eq_getElem (by omega)⟩
    refine ⟨h9, ⟨r, hr, ?_⟩, fun k n hn => (shape_iff n).1 (h1 n (List.mem_of_getElem? hn)), fun k e he => ?_, ?_, fun k n h0 hn hk => ?_, h4⟩
    · rw [show (1 : Int) = ((0 : Nat) : Int) + 1 from rfl, atz_at hr] at h2
      exact h2
    · obtain ⟨n, hn⟩ : ∃ n, t[ix e]? = some n := ⟨_, List.getElem?_eq_getElem (by have := ix_lt he; omega)⟩
      have := (hl k e he).2.1
      rw [atz_ix he hn] at this
      exact ⟨n, hn, this⟩
    · rcases Nat.eq_zero_or_pos (named t 0) with h | h
      · exact h
      · obtain ⟨i, e, he, hie⟩ := hpos 0 h
        have h5 := ix_int he
        have h6 := (hl i e he).1
        rw [hie] at h5
        omega
    · have h5 := reach_named (h4 k n hn (by omega)) h0
      obtain ⟨i, e, he, hie⟩ := hpos k h5
      subst hie
      have h6 := (hl i e he).2.2
      rw [atz_ix he hn] at h6
      have h7 := h6 hk
      rw [ix_int he, show ((ix e + 1 : Nat) : Int) = (ix e : Int) + 1 by omega, hc] at h7
      omega
  · intro g
    obtain ⟨r, hr, hr2⟩ := g.root
    refine ⟨fun n hn => ?_, ?_, fun x hx => ?_, g.reach⟩
    · obtain ⟨k, hk⟩ := List.mem_iff_getElem?.1 hn
      exact (shape_iff n).2 (g.shape k n hk)
    · rw [show (1 : Int) = ((0 : Nat) : Int) + 1 from rfl, atz_at hr]
      exact hr2
    · obtain ⟨i, e, _, he, rfl⟩ := (hm x).1 hx
      obtain ⟨n, hn, hn0⟩ := g.there i e he
      have hp := g.ix_pos he
      rw [leadB_iff]
      simp only
      rw [atz_ix he hn]
      refine ⟨?_, hn0, fun h2 => ?_⟩
      · have := ix_int he
        omega
      · have h1 := g.one _ n hp hn h2
        rw [ix_int he, show ((ix e + 1 : Nat) : Int) = (ix e : Int) + 1 by omega, hc]
        omega
theorem treeB_may {t : List N} (h9 : t.length = 9) : treeB t = mayB t := by
  have h1 := treeB_iff h9
  have h2 := may_iff t
  cases ha : treeB t <;> cases hb : mayB t
  · rfl
  · exact absurd (h1.2 (h2.1 hb)) (by rw [ha]; decide)
  · exact absurd (h2.2 (h1.1 ha)) (by rw [hb]; decide)
  · rfl
theorem may_nine {t : List N} (h : t.length ≠ 9) : mayB t = false := by
  unfold mayB
  rw [decide_eq_false h]
  rfl
end PT
end Go.Proofs.YtdnobplhfbgbaaaGreatDoor
namespace Go.Proofs.YtdnobplhfbgbaaaGreatDoor
open Go.RowKit Go.Joins

set_option maxHeartbeats 4000000 in
theorem tlinksI_any (v : Value) (t : List PT.N) (z : Int) (w : World) (h : Ts w v t) : Calls Tryz.prog 18 #[v, .int .i64 z] w fun e w' => e = .returned (.int .i64 (PT.linksI t z : Nat)) ∧ Below w.heap.size w w' := by
  have hl := links_any v t z w h
  rw [PT.links_sum] at hl
  exact hl
set_option maxRecDepth 100000 in
set_option maxHeartbeats 8000000 in
theorem may_any' (v : Value) (t : List PT.N) (w : World) (h : Ts w v t) : Calls Tryz.prog 15 #[v] w fun e w' => e = .returned (.bool (PT.mayB t)) ∧ Below w.heap.size w w' := by
  by_cases h9 : t.length = 9
  · rw [← PT.treeB_may h9]
    have hfi := fit_any v t w h
    have hat := fun W hb => at_any v t 1 W (h.below hb)
    have hfo := folder_any (PT.atz t 1)
    have hli := fun W hb => tlinks_any v t W (h.below hb) h9
    have hle := fun u W hu hl => lead_any u (PT.links t) W hu hl
    have hwh := fun u W hb hu hl => whole_any v u t W (h.below hb) h9 hu hl
    have hf := h.form
    rw [h9] at hf
    obtain ⟨A, c, hf⟩ := hf
    unfold PT.treeB
    generalize t.all PT.shapeB = F at *
    generalize PT.atz t 1 = n at *
    generalize decide (n.kind = 2) = D at *
    generalize PT.wholeB t = G at *
    generalize PT.links t = l at *
    generalize l.all (leadB l) = E at *
    clear h h9
    subst hf
    have HAT := Lib.hid hat
    have HLI := Lib.hid hli
    have HLE := Lib.hid hle
    have HWH := Lib.hid hwh
    have HFO := Lib.hid hfo
    clear hat hli hle hwh hfo
    cases F
    · go_enter Tryz.func15, Tryz.ntmps15
      go_wp2_with (go_at_call 56; refine hfi.mono ?_; rintro e w1 ⟨rfl, hB1⟩)
      go_ret
      exact ⟨rfl, hB1⟩
    · cases D
      · go_enter Tryz.func15, Tryz.ntmps15
        go_wp2_with (first | (go_at_call 58; refine hfo2.mono ?_; rintro e w3 ⟨rfl, hB3⟩) | (go_at_call 57; refine hat1.mono ?_; rintro e w2 ⟨rfl, hB2⟩; have hb2 := hB1.trans (hB2.mono hB1.size); have hfo2 := HFO.out w2) | (go_at_call 56; refine hfi.mono ?_; rintro e w1 ⟨rfl, hB1⟩; have hat1 := HAT.out w1 hB1))
        go_ret
        exact ⟨rfl, hb2.trans (hB3.mono hb2.size)⟩
      · cases E
        · go_enter Tryz.func15, Tryz.ntmps15
          go_wp2_with (first | (go_at_call 60; refine hle5.mono ?_; rintro e w5 ⟨rfl, hB5⟩) | (go_at_call 59; refine hli3.mono ?_; rintro e w4 ⟨v4, rfl, hO4, hl4, hB4⟩; have hb4 := hb3.trans (hB4.mono hb3.size); have hle5 := HLE.out v4 w4 hO4.row hl4) | (go_at_call 58; refine hfo2.mono ?_; rintro e w3 ⟨rfl, hB3⟩; have hb3 := hb2.trans (hB3.mono hb2.size); have hli3 := HLI.out w3 hb3) | (go_at_call 57; refine hat1.mono ?_; rintro e w2 ⟨rfl, hB2⟩; have hb2 := hB1.trans (hB2.mono hB1.size); have hfo2 := HFO.out w2) | (go_at_call 56; refine hfi.mono ?_; rintro e w1 ⟨rfl, hB1⟩; have hat1 := HAT.out w1 hB1))
          go_ret
          exact ⟨rfl, hb4.trans (hB5.mono hb4.size)⟩
        · go_enter Tryz.func15, Tryz.ntmps15
          go_wp2_with (first | (go_at_call 61; refine hwh6.mono ?_; rintro e w6 ⟨rfl, hB6⟩) | (go_at_call 60; refine hle5.mono ?_; rintro e w5 ⟨rfl, hB5⟩; have hb5 := hb4.trans (hB5.mono hb4.size); have hwh6 := HWH.out v4 w5 hb5 (hO4.row.below hB5) hl4) | (go_at_call 59; refine hli3.mono ?_; rintro e w4 ⟨v4, rfl, hO4, hl4, hB4⟩; have hb4 := hb3.trans (hB4.mono hb3.size); have hle5 := HLE.out v4 w4 hO4.row hl4) | (go_at_call 58; refine hfo2.mono ?_; rintro e w3 ⟨rfl, hB3⟩; have hb3 := hb2.trans (hB3.mono hb2.size); have hli3 := HLI.out w3 hb3) | (go_at_call 57; refine hat1.mono ?_; rintro e w2 ⟨rfl, hB2⟩; have hb2 := hB1.trans (hB2.mono hB1.size); have hfo2 := HFO.out w2) | (go_at_call 56; refine hfi.mono ?_; rintro e w1 ⟨rfl, hB1⟩; have hat1 := HAT.out w1 hB1))
          go_ret
          exact ⟨rfl, hb5.trans (hB6.mono hb5.size)⟩
  · rw [PT.may_nine h9]
    obtain ⟨A, c, rfl⟩ := h.form
    have hne : ((t.length : Int) == 9) = false := by simpa using (by omega : ¬ (t.length : Int) = 9)
    have hne2 : ¬ (t.length : Int) = 9 := by omega
    generalize t.length = L at *
    clear h h9
    go_enter Tryz.func15, Tryz.ntmps15
    go_wp2
    go_ret
    exact ⟨rfl, Below.refl _ _⟩
end Go.Proofs.YtdnobplhfbgbaaaGreatDoor
