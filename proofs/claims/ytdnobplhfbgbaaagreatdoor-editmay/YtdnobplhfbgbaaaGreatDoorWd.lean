/-
  Contract: the document's MayTree.
-/
import Derived.Test.YtdnobplhfbgbaaaGreatDoorMVa
import Derived.Test.YtdnobplhfbgbaaaGreatDoorMTa
namespace Go.Proofs.YtdnobplhfbgbaaaGreatDoor
open Go.RowKit Go.Joins

namespace PT
theorem cnt_le_length (l : List E) (j : Nat) : cnt l j ≤ l.length := List.countP_le_length
theorem ents_few (n : N) : (ents n).length ≤ 120 := ents_length n
theorem named_bound : ∀ (t : List N) (j : Nat), named t j ≤ t.length * 120
  | [], _ => by simp [named]
  | n :: r, j => by
    have h1 := named_bound r j
    have h2 := cnt_le_length (ents n) j
    have h3 := ents_few n
    simp only [named, List.map_cons, List.sum_cons, List.length_cons] at h1 ⊢
    omega
theorem named_snoc {t : List N} {i : Nat} {n : N} (h : t[i]? = some n) (j : Nat) : named (t.take (i + 1)) j = named (t.take i) j + cnt (ents n) j := by
  unfold named
  rw [List.take_add_one, h]
  simp
theorem cnt_snoc {l : List E} {q : Nat} {e : E} (h : l[q]? = some e) (j : Nat) : cnt (l.take (q + 1)) j = cnt (l.take q) j + if j = ix e then 1 else 0 := by
  rw [List.take_add_one, h, Option.toList_some, cnt_append, cnt_cons]
  by_cases hj : ix e = j
  · rw [if_pos hj, if_pos hj.symm]; simp [cnt]
  · rw [if_neg hj, if_neg (Ne.symm hj)]; simp [cnt]
/-- The cells of the document's counts: one for nought, one for each node. -/
def nb (F : Nat → Nat) : Array Value := ((0 :: (List.range 9).map F).map fun n : Nat => Value.int .i64 (n : Int)).toArray
theorem nb_at (F : Nat → Nat) {k : Nat} (h : k < 9) : (nb F)[k + 1]? = some (.int .i64 (F k : Int)) := by
  unfold nb
  simp [List.getElem?_range h]
theorem nb_set (F G : Nat → Nat) {k : Nat} (h : k < 9) (hG : ∀ j, j < 9 → G j = F j + if j = k then 1 else 0) : (nb F).setIfInBounds (k + 1) (.int .i64 ((F k : Int) + 1)) = nb G := by
  rw [show (F k : Int) + 1 = ((F k + 1 : Nat) : Int) by omega]
  unfold nb
  rw [List.setIfInBounds_toArray, List.map_cons, List.set_cons_succ, List.map_cons]
  congr 2
  apply List.ext_getElem?
  intro j
  by_cases hj : j < 9
  · by_cases hjk : k = j
    · subst hjk
      rw [List.getElem?_set_self (by simpa using h)]
      simp [List.getElem?_range h, hG k h]
    · rw [List.getElem?_set_ne hjk]
      simp [List.getElem?_range hj, hG j hj, Ne.symm hjk]
  · rw [List.getElem?_eq_none (by simp; omega), List.getElem?_eq_none (by simp; omega)]
theorem nb_zero : madeCells #[.int .i64 0] 10 = nb fun _ => 0 := by kernel_rfl
theorem cb_zero : madeCells #[.bool false] 10 = cb (List.replicate 9 false) := by kernel_rfl
theorem okB_gb {t : List N} {k : Nat} {n : N} (h : t[k]? = some n) : okB t k = (!(decide (0 < named t k) && decide (n.kind = 0)) && (!(decide (n.kind ≠ 0) && !gb (seen t) k) && (!(decide (k = 0) && decide (0 < named t k)) && !(decide (0 < k) && (decide (n.kind = 2) && decide (named t k ≠ 1)))))) := by
  have hg : decide ((seen t)[k]? = some true) = gb (seen t) k := by
    cases hc : gb (seen t) k with
    | true => exact decide_eq_true (gb_true.1 hc)
    | false => exact decide_eq_false fun e => by rw [gb_true.2 e] at hc; cases hc
  unfold okB
  rw [h]
  simp only [hg]
theorem may_shape {t : List N} {n : N} {k : Nat} (h : t[k]? = some n) (hs : shapeB n = false) : mayB t = false := by
  cases hm : mayB t with
  | false => rfl
  | true =>
    simp only [mayB, Bool.and_eq_true, List.all_eq_true] at hm
    have := hm.2.2.1 n (List.mem_of_getElem? h)
    rw [hs] at this
    cases this
theorem may_ok {t : List N} {k : Nat} (hk : k < 9) (ho : okB t k = false) : mayB t = false := by
  cases hm : mayB t with
  | false => rfl
  | true =>
    simp only [mayB, Bool.and_eq_true, List.all_eq_true] at hm
    have := hm.2.2.2 k (List.mem_range.2 hk)
    rw [ho] at this
    cases this
theorem may_root {t : List N} {n : N} (h : t[0]? = some n) (hk : n.kind ≠ 2) : mayB t = false := by
  cases hm : mayB t with
  | false => rfl
  | true =>
    simp only [mayB, Bool.and_eq_true, h, decide_eq_true_eq] at hm
    exact absurd hm.2.1 hk
theorem may_all {t : List N} {n : N} (h9 : t.length = 9) (h : t[0]? = some n) (hk : n.kind = 2) (hs : ∀ (k : Nat) n, t[k]? = some n → shapeB n = true) (ho : ∀ k, k < 9 → okB t k = true) : mayB t = true := by
  simp only [mayB, Bool.and_eq_true, decide_eq_true_eq, h, List.all_eq_true, List.mem_range]
  refine ⟨h9, hk, fun n hn => ?_, ho⟩
  obtain ⟨k, hk⟩ := List.mem_iff_getElem?.1 hn
  exact hs k n hk
/-- A sweep's look at a folder that is seen, entry by entry. -/
def lk (S : List Bool) (l : List E) : List Bool := l.foldl (fun S e => S.set (ix e) true) S
theorem lk_snoc {S : List Bool} {l : List E} {q : Nat} {e : E} (h : l[q]? = some e) : lk S (l.take (q + 1)) = (lk S (l.take q)).set (ix e) true := by
  unfold lk
  rw [List.take_add_one, h, Option.toList_some, List.foldl_append]
  rfl
theorem lk_length (S : List Bool) (l : List E) : (lk S l).length = S.length := ((fold_sub l S).1).symm
theorem lk_stays {S : List Bool} {k : Nat} (h : gb S k = true) (l : List E) : gb (lk S l) k = true := gb_true.2 ((fold_sub l S).2 k (gb_true.1 h))
theorem look_yes {t : List N} {k : Nat} {S : List Bool} (h : gb S k = true) : look t k S = lk S (names t k) := if_pos (gb_true.1 h)
theorem look_no {t : List N} {k : Nat} {S : List Bool} (h : gb S k = false) : look t k S = S := if_neg fun e => by rw [gb_true.2 e] at h; cases h
end PT
theorem Nx.own {g : Nat} {w w' : World} (h : Nx g w w') (i : Nat) (u : Value) : Nx g w (w'.setCell ⟨g, i, none⟩ u) :=
  ⟨by simpa [World.setCell] using h.1, fun k hk hne => (Below.heap_setCell w' ⟨g, i, none⟩ u k hne).trans (h.2 k hk hne)⟩
theorem Nx.refl (g : Nat) (w : World) : Nx g w w := ⟨Nat.le_refl _, fun _ _ _ => rfl⟩
/-- A row of entries of one's own that has some: its block and its cells. -/
theorem Eo.box {w : World} {base : Nat} {A : Option Addr} {n c : Nat} {m : List E} (h : Eo w base (.slice A n c) m) (hn : m.length = n) (h0 : 0 < n) (hF : Fit m) : ∃ g cur, A = some ⟨g, 0, none⟩ ∧ base ≤ g ∧ Bx w g 75 cur ∧ ∀ (j : Nat) (x : E), m[j]? = some x → cur[j * 2]? = some (.string x.1) ∧ cur[j * 2 + 1]? = some (.int .i64 x.2) := by
  obtain ⟨g, c', cur, hv, hg, hb, _⟩ := own_box h (by omega)
  injection hv with e1 e2 e3
  subst e1
  obtain ⟨b, o, e, _, hc⟩ := (h.row hF).at (by omega)
  injection e with e
  injection e with e4 e5
  subst e4 e5
  refine ⟨g, cur, rfl, hg, hb, fun j x hx => ?_⟩
  have := hc j x hx
  simp only [Nat.zero_add] at this
  exact ⟨by rw [← hb.cell]; exact this.1, by rw [← hb.cell]; exact this.2⟩
theorem Tryz.info4 : (Tryz.prog.info? 4).map (fun i => (i.zero, i.size, i.bytes)) = some (some (.bool false), 1, 1) := by kernel_rfl
theorem makeInts (w : World) : (Instr.makeSlice 43 (.int .i64 10) (.int .i64 10)).run Tryz.prog w = .ok (.slice (some ⟨w.heap.size, 0, none⟩) 10 10) (w.alloc (.cells (PT.nb fun _ => 0) 3)) := by
  obtain ⟨i0, hi, hz0, hz1, hz2⟩ := info_parts Tryz.info3
  have h := run_make (P := Tryz.prog) w 43 3 i0 (.int .i64 0) (by kernel_rfl) hi hz0 .i64 .i64 10 10 (by decide) (by decide) (by rw [hz2]; decide) (by decide)
  rw [hz1] at h
  rw [← PT.nb_zero]
  exact h
theorem makeBools (w : World) : (Instr.makeSlice 50 (.int .i64 10) (.int .i64 10)).run Tryz.prog w = .ok (.slice (some ⟨w.heap.size, 0, none⟩) 10 10) (w.alloc (.cells (PT.cb (List.replicate 9 false)) 4)) := by
  obtain ⟨i0, hi, hz0, hz1, hz2⟩ := info_parts Tryz.info4
  have h := run_make (P := Tryz.prog) w 50 4 i0 (.bool false) (by kernel_rfl) hi hz0 .i64 .i64 10 10 (by decide) (by decide) (by rw [hz2]; decide) (by decide)
  rw [hz1] at h
  rw [← PT.cb_zero]
  exact h

set_option maxRecDepth 100000 in
set_option maxHeartbeats 32000000 in
theorem rmaytree_any (v : Value) (t : List PT.N) (w : World) (h : Ts w v t) : Calls Tryz.prog 36 #[v] w fun e w' => e = .returned (.bool (PT.mayB t)) ∧ Below w.heap.size w w' := by
  obtain ⟨A, c, rfl⟩ := h.form
  have hl := h.2.2
  by_cases h9 : t.length = 9
  · rw [h9] at h ⊢
    obtain ⟨b0, o0, rfl, hb0, hcell⟩ := h.at (by omega)
    obtain ⟨r0, hr0⟩ : ∃ r0, t[0]? = some r0 := ⟨_, List.getElem?_eq_getElem (by omega)⟩
    obtain ⟨g0, _, _⟩ := hcell 0 r0 hr0
    rw [Nat.zero_mul, Nat.add_zero] at g0
    by_cases hk2 : r0.kind = 2
    · have hsf : ∀ (k : Nat) n, t[k]? = some n → PT.shapeB n = false → PT.mayB t = false := fun k n h1 h2 => PT.may_shape h1 h2
      have hof : ∀ k, k < 9 → PT.okB t k = false → PT.mayB t = false := fun k h1 h2 => PT.may_ok h1 h2
      have hall : (∀ (k : Nat) n, t[k]? = some n → PT.shapeB n = true) → (∀ k, k < 9 → PT.okB t k = true) → PT.mayB t = true := fun h1 h2 => PT.may_all h9 hr0 hk2 h1 h2
      rw [hk2] at g0
      have hc : ∀ V, Below w.heap.size w V → ∀ (j : Nat) (x : PT.N), t[j]? = some x → V.cell? ⟨b0, o0 + j * 3, none⟩ = some (.int .i64 x.kind) ∧ V.cell? ⟨b0, o0 + j * 3 + 1, none⟩ = some (.int .i64 x.mode) ∧ V.cell? ⟨b0, o0 + j * 3 + 2, none⟩ = some (.string x.body) := fun V hb j x hx =>
        ⟨(hb.cell (p := ⟨b0, o0 + j * 3, none⟩) hb0).trans (hcell j x hx).1, (hb.cell (p := ⟨b0, o0 + j * 3 + 1, none⟩) hb0).trans (hcell j x hx).2.1, (hb.cell (p := ⟨b0, o0 + j * 3 + 2, none⟩) hb0).trans (hcell j x hx).2.2⟩
      have hnm := fun V (hb : Below w.heap.size w V) k (hk : k < 9) => names_any (.slice (some ⟨b0, o0, none⟩) 9 c) t k V (h.below hb) (by omega)
      have hsz : ∀ n ∈ t, n.body.size ≤ 60000 := fun n hn => (h.2.1 n hn).2.2
      obtain ⟨R, hR⟩ : ∃ R, PT.mayB t = R := ⟨_, rfl⟩
      rw [hR] at hsf hof hall ⊢
      have HSF0 := Lib.hid hsf
      have HOF := Lib.hid hof
      have HALL := Lib.hid hall
      have HC := Lib.hid hc
      have HNM := Lib.hid hnm
      have HSZ := Lib.hid hsz
      have hmk := makeInts w
      have hB0 := al w (.cells (PT.nb fun _ => 0) 3)
      have hx0 := Bx.new w 3 (PT.nb fun _ => 0)
      have hgw : w.heap.size ≤ w.heap.size := Nat.le_refl _
      clear hsf hof hall hc hnm hsz hcell hb0 h hl hR hr0 hk2
      go_enter Tryz.func36, Tryz.ntmps36
      go_upto_region 4 with fail
      generalize w.alloc (.cells (PT.nb fun _ => 0) 3) = w1 at *
      generalize hg : w.heap.size = g at *
      clear hmk g0 hgw
      go_wp2
      go_loopw [4] (fun ii wr => ∃ i : Nat, i ≤ 9 ∧ ii = .int .i64 (i : Int) ∧ Bx wr g 3 (PT.nb (PT.named (t.take i))) ∧ Below g w wr ∧ ∀ (k : Nat) n, k < i → t[k]? = some n → PT.shapeB n = true) (fun ii _ => 9 - (intOf ii).toNat)
      case atStart => exact ⟨0, by decide, rfl, hx0, hB0, fun k n h => absurd h (by omega)⟩
      case round =>
        obtain ⟨i, hi, rfl, hx, hB, hsh⟩ := hrel
        by_cases hlt : i < 9
        · have hd : decide ((i : Int) < 9) = true := by simp; omega
          obtain ⟨n, hn⟩ : ∃ n, t[i]? = some n := ⟨_, List.getElem?_eq_getElem (by rw [h9]; exact hlt)⟩
          obtain ⟨g0, g1, g2⟩ := HC.out wr (hg ▸ hB) i n hn
          have hsnoc := fun j => PT.named_snoc hn j
          have hsf := HSF0.out i n hn
          have hsz := HSZ.out n (List.mem_of_getElem? hn)
          have hbound := PT.named_bound (t.take i)
          have htl : (t.take i).length ≤ 9 := by rw [List.length_take]; omega
          have htk := fun V => rtake_any n.body V (HSZ.out n (List.mem_of_getElem? hn))
          have hE := PT.ents n
          obtain ⟨kd, md, s⟩ := n
          dsimp only at g0 g1 g2 hsz htk
          have HSF := Lib.hid hsf
          have HX := Lib.hid hn
          have HSH := Lib.hid hsh
          have hbn := hB.alloc (hg ▸ hB.size) (.cells #[.int .i64 kd, .int .i64 md, .string s] 27)
          have hbx := Bx.new wr 27 #[.int .i64 kd, .int .i64 md, .string s]
          have hxn := hx.alloc (.cells #[.int .i64 kd, .int .i64 md, .string s] 27)
          have hgl := hx.lt
          have i0 : (0 : Int) ≤ (i : Int) := by omega
          have i1 : (i : Int) < 9 := by omega
          clear hsf hn hsh hx hE
          go_upto_region 8 with fail
          generalize wr.alloc (.cells #[.int .i64 kd, .int .i64 md, .string s] 27) = w2 at *
          generalize hgx : wr.heap.size = gx at *
          obtain ⟨c0, c1, c2⟩ := hbx.tri
          have HXN := Lib.hid hxn
          have HBN := Lib.hid hbn
          have HSN := Lib.hid hsnoc
          clear g0 g1 g2 hxn hbn hsnoc
          by_cases k0 : kd = 0
          · subst k0
            have hents : ∀ j, PT.cnt (PT.ents ⟨0, md, s⟩) j = 0 := fun j => by rw [PT.ents_none (show (0 : Int) ≠ 2 by decide)]; rfl
            have hF : PT.named (t.take (i + 1)) = PT.named (t.take i) := by
              funext j
              rw [HSN.out j, hents j]; rfl
            have HFF := Lib.hid hF
            clear hents hF htk
            have hbe : Below w.heap.size w w2 := by rw [hg]; exact HBN.out
            by_cases hm0 : md = 0
            · subst hm0
              by_cases hs0 : s = { data := #[] }
              · subst hs0
                have HOK : Hid (PT.shapeB ⟨0, 0, { data := #[] }⟩ = true) := Lib.hid (by decide +kernel)
                go_wp2
                go_roundw
                case rel => exact ⟨i + 1, by omega, by go_num, by rw [HFF.out]; exact HXN.out, HBN.out, fun k n hk h => by
                  rcases Nat.lt_or_ge k i with h1 | h1
                  · exact HSH.out k n h1 h
                  · obtain rfl : k = i := by omega
                    rw [HX.out] at h
                    injection h with h
                    rw [← h]
                    exact HOK.out⟩
                case measure => simp [intOf]; omega
              · have HF := Lib.hid (HSF.out (by unfold PT.shapeB; rw [if_pos rfl]; exact decide_eq_false fun e => hs0 (by injection e)))
                have hsq : (s.toList == ({ data := #[] } : ByteArray).toList) = false := seq_no hs0
                have hse : s.toList.isEmpty = false := by
                  cases hc : s.toList with
                  | nil =>
                    have hs1 : s = { data := #[] } := PD.toList_inj (by rw [hc, ByteArray.toList_eq])
                    exact absurd hs1 hs0
                  | cons a r => rfl
                go_wp2
                go_ret
                exact ⟨by rw [HF.out]; rfl, by first | exact hbe | (rw [← hg]; exact hbe)⟩
            · have HF := Lib.hid (HSF.out (by unfold PT.shapeB; rw [if_pos rfl]; exact decide_eq_false fun e => hm0 (by injection e)))
              have hmq : (md == 0) = false := by simpa using hm0
              go_wp2
              go_ret
              exact ⟨by rw [HF.out]; rfl, by first | exact hbe | (rw [← hg]; exact hbe)⟩
          · by_cases k1 : kd = 1
            · subst k1
              have hents : ∀ j, PT.cnt (PT.ents ⟨1, md, s⟩) j = 0 := fun j => by rw [PT.ents_none (show (1 : Int) ≠ 2 by decide)]; rfl
              have hF : PT.named (t.take (i + 1)) = PT.named (t.take i) := by
                funext j
                rw [HSN.out j, hents j]; rfl
              have HFF := Lib.hid hF
              have HTK : Hid (True) := Lib.hid trivial
              clear hents hF htk k0
              by_cases m0 : md < 0
              · have HF := Lib.hid (HSF.out (by unfold PT.shapeB; simp [m0]; omega))
                have d0 : decide (md < 0) = true := by simpa using m0
                go_wp2
                go_ret
                exact ⟨by rw [HF.out]; rfl, by first | exact HBN.out | (rw [hg]; exact HBN.out)⟩
              · have d0 : decide (md < 0) = false := by simpa using m0
                by_cases m1 : 255 < md
                · have HF := Lib.hid (HSF.out (by unfold PT.shapeB; simp; omega))
                  have d1 : decide (255 < md) = true := by simpa using m1
                  go_wp2
                  go_ret
                  exact ⟨by rw [HF.out]; rfl, by first | exact HBN.out | (rw [hg]; exact HBN.out)⟩
                · have d1 : decide (255 < md) = false := by simpa using m1
                  by_cases m2 : 120 < s.size
                  · have HF := Lib.hid (HSF.out (by unfold PT.shapeB; simp; omega))
                    have d2 : decide ((120 : Int) < (s.size : Int)) = true := decide_eq_true (by omega)
                    go_wp2
                    go_ret
                    exact ⟨by rw [HF.out]; rfl, by first | exact HBN.out | (rw [hg]; exact HBN.out)⟩
                  · have HOK : Hid (PT.shapeB ⟨1, md, s⟩ = true) := Lib.hid (by unfold PT.shapeB; simp [HTK.out]; omega)
                    have d2 : decide ((120 : Int) < (s.size : Int)) = false := decide_eq_false (by omega)
                    go_wp2
                    go_roundw
                    case rel => exact ⟨i + 1, by omega, by go_num, by rw [HFF.out]; exact HXN.out, HBN.out, fun k n hk h => by
                      rcases Nat.lt_or_ge k i with h1 | h1
                      · exact HSH.out k n h1 h
                      · obtain rfl : k = i := by omega
                        rw [HX.out] at h
                        injection h with h
                        rw [← h]
                        exact HOK.out⟩
                    case measure => simp [intOf]; omega
            · have hk0 : (kd == 0) = false := by simpa using k0
              have hk1 : (kd == 1) = false := by simpa using k1
              by_cases k2 : kd = 2
              · subst k2
                clear k0 k1
                cases htkb : PD.tk s
                · have HF := Lib.hid (HSF.out (by unfold PT.shapeB; simp [htkb]))
                  have h38 := htk w2
                  rw [htkb] at h38
                  have hbe := HBN.out
                  clear htk htkb
                  go_wp2_with fail
                  refine h38.mono ?_
                  rintro e w3 ⟨v3, rfl, hO, hFt, hB3⟩
                  have hb3 := hbe.trans (hB3.mono (by rw [← hg]; exact hbe.size))
                  obtain ⟨Am, cm, rfl, _⟩ := hO.cap
                  clear h38 hO hFt hB3
                  go_wp2
                  go_ret
                  exact ⟨by rw [HF.out]; rfl, by first | exact hb3 | (rw [hg]; exact hb3) | (rw [← hg]; exact hb3)⟩
                · have HTK := Lib.hid htkb
                  have h38 := htk w2
                  rw [htkb] at h38
                  clear htk htkb
                  have hem : PT.ents ⟨2, md, s⟩ = PD.tl s := if_pos rfl
                  have hsn := HSN.out
                  rw [hem] at hsn
                  have hmay := PD.tl_may s
                  go_wp2_with fail
                  refine h38.mono ?_
                  rintro e w3 ⟨v3, rfl, hO, hFt, hB3⟩
                  obtain ⟨Am, cm, rfl, _⟩ := hO.cap
                  have hml := hFt.2
                  have HX3 := Lib.hid (HXN.out.on hB3)
                  have hbx3 := hbx.on hB3
                  have hb3 := HBN.out.trans (hB3.mono (by rw [← hg]; exact HBN.out.size))
                  have hg3 : g < w2.heap.size := HXN.out.lt
                  have hgx3 : gx ≠ g := by omega
                  generalize PD.tl s = m at *
                  obtain ⟨M, hM⟩ : ∃ M, m.length = M := ⟨_, rfl⟩
                  rw [hM] at hml hO ⊢
                  have HO := Lib.hid (And.intro hO hFt)
                  have HM := Lib.hid hM
                  have HMAY := Lib.hid hmay
                  have HSN2 := Lib.hid hsn
                  have HB3 := Lib.hid hb3
                  have HBX3 := Lib.hid hbx3
                  clear h38 hO hFt hM hmay hsn hb3 hbx3 hB3 hbx c0 c1 c2 HSN hem
                  go_wp2
                  go_loopw [8] (fun qq wr => ∃ q : Nat, q ≤ M ∧ qq = .int .i64 (q : Int) ∧ Bx wr g 3 (PT.nb fun j => PT.named (t.take i) j + PT.cnt (m.take q) j) ∧ Nx g w3 wr ∧ Below g w wr) (fun qq _ => M - (intOf qq).toNat)
                  case atStart => exact ⟨0, Nat.zero_le _, rfl, HX3.out, Nx.refl _ _, HB3.out⟩
                  case round =>
                    obtain ⟨q, hq, rfl, hx, hN, hB⟩ := hrel
                    by_cases hql : q < M
                    · have hdq : decide ((q : Int) < (M : Int)) = true := by simp; omega
                      obtain ⟨g4, cur, rfl, hg4, hb4, hcc⟩ := HO.out.1.box HM.out (by omega) HO.out.2
                      obtain ⟨e, he⟩ : ∃ e, m[q]? = some e := ⟨_, List.getElem?_eq_getElem (by rw [HM.out]; omega)⟩
                      have hey := (hcc q e he).2
                      have hbW := hb4.nx hN (by omega)
                      have e1 := (hbW.cell (q * 2 + 1)).trans hey
                      have hcs := fun j => PT.cnt_snoc he j
                      have hme := PD.may_size (HMAY.out e (List.mem_of_getElem? he))
                      have hie : e.2 = ((PT.ix e : Nat) : Int) + 1 := by unfold PT.ix; omega
                      have hi9 : PT.ix e < 9 := by unfold PT.ix; omega
                      rw [hie] at e1
                      generalize PT.ix e = a at *
                      have hcn := PT.cnt_le_length (m.take q) a
                      have hcl : (m.take q).length ≤ M := by rw [List.length_take, HM.out]; omega
                      have hnb := hbound a
                      have hset := fun u => (hx.set (a + 1) u)
                      have hGG := PT.nb_set (fun j => PT.named (t.take i) j + PT.cnt (m.take q) j) (fun j => PT.named (t.take i) j + PT.cnt (m.take (q + 1)) j) (k := a) (by omega) (fun j _ => by simp only [hcs j]; omega)
                      have hca := (hx.cell (a + 1)).trans (PT.nb_at _ (k := a) (by omega))
                      have hfa := hx.frozen (a + 1)
                      have hst : Bx (wr.setCell ⟨g, a + 1, none⟩ (.int .i64 (((PT.named (t.take i) a + PT.cnt (m.take q) a : Nat) : Int) + 1))) g 3 (PT.nb fun j => PT.named (t.take i) j + PT.cnt (m.take (q + 1)) j) := (hset _).trans (by rw [hGG])
                      have HST := Lib.hid hst
                      have hFb : PT.named (t.take i) a + PT.cnt (m.take q) a ≤ 1000000 := by omega
                      generalize PT.named (t.take i) a + PT.cnt (m.take q) a = F at *
                      have hwF : IntKind.i64.wrap ((F : Int) + 1) = (F : Int) + 1 := by rw [IntKind.wrap_i64]; omega
                      have na : ((a : Int) + 1).toNat = a + 1 := by omega
                      have HNN := Lib.hid (And.intro hN hB)
                      clear hcc he hey hbW hb4 hcs hme hie hset hGG hst hcn hcl hnb hx hN hB
                      go_wp2
                      go_roundw
                      case rel => exact ⟨q + 1, by omega, by go_num, HST.out, HNN.out.1.own _ _, HNN.out.2.setCell (p := ⟨g, a + 1, none⟩) (Nat.le_refl _) _⟩
                      case measure => simp [intOf]; omega
                    · have hqM : q = M := by omega
                      subst hqM
                      have hFF : PT.named (t.take (i + 1)) = fun j => PT.named (t.take i) j + PT.cnt (m.take m.length) j := by
                        funext j
                        rw [HSN2.out j, List.take_of_length_le (Nat.le_refl _)]
                      rw [← HM.out, ← hFF] at hx
                      have HXX := Lib.hid hx
                      have HBB := Lib.hid hB
                      have hbe : Below w.heap.size w wr := by rw [hg]; exact hB
                      obtain ⟨c0, c1, c2⟩ := (HBX3.out.nx hN hgx3).tri
                      have hdq : decide ((q : Int) < (q : Int)) = false := by simp
                      clear hFF hx hB hN
                      by_cases m0 : md < 0
                      · have HF := Lib.hid (HSF.out (by unfold PT.shapeB; simp [m0]; omega))
                        have d0 : decide (md < 0) = true := by simpa using m0
                        go_wp2
                        go_ret
                        exact ⟨by rw [HF.out]; rfl, by first | exact HBB.out | (rw [hg]; exact HBB.out)⟩
                      · have d0 : decide (md < 0) = false := by simpa using m0
                        by_cases m1 : 255 < md
                        · have HF := Lib.hid (HSF.out (by unfold PT.shapeB; simp; omega))
                          have d1 : decide (255 < md) = true := by simpa using m1
                          go_wp2
                          go_ret
                          exact ⟨by rw [HF.out]; rfl, by first | exact HBB.out | (rw [hg]; exact HBB.out)⟩
                        · have d1 : decide (255 < md) = false := by simpa using m1
                          by_cases m2 : 120 < s.size
                          · have HF := Lib.hid (HSF.out (by unfold PT.shapeB; simp; omega))
                            have d2 : decide ((120 : Int) < (s.size : Int)) = true := decide_eq_true (by omega)
                            go_wp2
                            go_ret
                            exact ⟨by rw [HF.out]; rfl, by first | exact HBB.out | (rw [hg]; exact HBB.out)⟩
                          · have HOK : Hid (PT.shapeB ⟨2, md, s⟩ = true) := Lib.hid (by unfold PT.shapeB; simp [HTK.out]; omega)
                            have d2 : decide ((120 : Int) < (s.size : Int)) = false := decide_eq_false (by omega)
                            go_wp2
                            go_roundw
                            case rel => exact ⟨i + 1, by omega, by go_num, HXX.out, HBB.out, fun k n hk h => by
                              rcases Nat.lt_or_ge k i with h1 | h1
                              · exact HSH.out k n h1 h
                              · obtain rfl : k = i := by omega
                                rw [HX.out] at h
                                injection h with h
                                rw [← h]
                                exact HOK.out⟩
                            case measure => simp [intOf]; omega
              · have hk2 : (kd == 2) = false := by simpa using k2
                have HF := Lib.hid (HSF.out (by unfold PT.shapeB; simp [k0, k1, k2]))
                have hbe := HBN.out
                clear htk k0 k1 k2
                go_wp2
                go_ret
                exact ⟨by rw [HF.out]; rfl, by first | exact hbe | (rw [hg]; exact hbe) | (rw [← hg]; exact hbe)⟩
        · have hi9 : i = 9 := by omega
          rw [List.take_of_length_le (by rw [h9]; omega)] at hx
          have hsa : ∀ (k : Nat) n, t[k]? = some n → PT.shapeB n = true := fun k n hk => hsh k n (by have := (List.getElem?_eq_some_iff.1 hk).1; omega) hk
          have HSA := Lib.hid hsa
          have HNX := Lib.hid hx
          have hd : decide ((i : Int) < 9) = false := decide_eq_false (by omega)
          clear hsh hsa hx HSF0 hi9
          have hmk := makeBools wr
          have hz1 : (PT.cb (List.replicate 9 false))[1]? = some (.bool false) := rfl
          have hz2 := PT.cb_first
          obtain ⟨Z, hZ⟩ : ∃ Z, PT.cb (List.replicate 9 false) = Z := ⟨_, rfl⟩
          rw [hZ] at hmk hz1 hz2
          have hB2 := hB.alloc (by have := hB.size; omega) (.cells Z 4)
          have hy2 := Bx.new wr 4 Z
          have hx2 := HNX.out.alloc (.cells Z 4)
          have hgw : g < wr.heap.size := HNX.out.lt
          clear HNX hB
          go_upto_region 25 with fail
          generalize wr.alloc (.cells Z 4) = w4 at *
          generalize hg2 : wr.heap.size = g2 at *
          have hne : g ≠ g2 := by omega
          have hf1 := hy2.frozen 1
          have hc1 : w4.cell? ⟨g2, 1, none⟩ = some (.bool false) := (hy2.cell 1).trans hz1
          have hs2 := hy2.set 1 (.bool true)
          rw [hz2] at hs2
          have hn2 := hx2.far (p := ⟨g2, 1, none⟩) hne (.bool true)
          have hB3 := hB2.setCell (p := ⟨g2, 1, none⟩) (by omega : g ≤ g2) (.bool true)
          have H2 := Lib.hid (And.intro hs2 (And.intro hn2 hB3))
          clear hs2 hn2 hB3 hB2 hx2 hy2 hmk hz1 hz2 hZ
          go_wp2
          clear hf1 hc1
          go_loopw [10] (fun rr wr => ∃ r : Nat, r ≤ 9 ∧ rr = .int .i64 (r : Int) ∧ Bx wr g2 4 (PT.cb (PT.iter (PT.sweep t 9) r PT.first)) ∧ Bx wr g 3 (PT.nb (PT.named t)) ∧ Below g w wr) (fun rr _ => 9 - (intOf rr).toNat)
          case atStart => exact ⟨0, by decide, rfl, H2.out.1, H2.out.2.1, H2.out.2.2⟩
          case round =>
            obtain ⟨r, hr, rfl, hy, hx, hB⟩ := hrel
            by_cases hlt : r < 9
            · have hd : decide ((r : Int) < 9) = true := by simp; omega
              have hlS : (PT.iter (PT.sweep t 9) r PT.first).length = 9 := (PT.iter_sub (PT.sweep_sub t 9) (S := PT.first) r).1.symm
              have hnx : PT.iter (PT.sweep t 9) (r + 1) PT.first = PT.sweep t 9 (PT.iter (PT.sweep t 9) r PT.first) := rfl
              generalize PT.iter (PT.sweep t 9) r PT.first = S at *
              have HSTEP := Lib.hid hnx
              have HI := Lib.hid (And.intro hy (And.intro hx hB))
              clear hnx hy hx hB
              go_wp2
              go_loopw [11] (fun ii wr => ∃ j : Nat, j ≤ 9 ∧ ii = .int .i64 ((j : Int) + 1) ∧ Bx wr g2 4 (PT.cb (PT.sweep t j S)) ∧ Bx wr g 3 (PT.nb (PT.named t)) ∧ Below g w wr) (fun ii _ => 10 - (intOf ii).toNat)
              case atStart => exact ⟨0, by decide, rfl, HI.out.1, HI.out.2.1, HI.out.2.2⟩
              case round =>
                obtain ⟨j, hj, rfl, hy, hx, hB⟩ := hrel
                by_cases hjl : j < 9
                · have hd2 : decide ((j : Int) + 1 ≤ 9) = true := by simp; omega
                  have hlS2 : (PT.sweep t j S).length = 9 := ((PT.sweep_sub t j S).1.symm).trans hlS
                  have hst : PT.sweep t (j + 1) S = PT.look t j (PT.sweep t j S) := rfl
                  have h30 := HNM.out wr (hg ▸ hB) j hjl
                  rw [show ((j + 1 : Nat) : Int) = (j : Int) + 1 by omega] at h30
                  have hmay : ∀ e ∈ PT.names t j, 1 ≤ e.2 ∧ e.2 ≤ 9 := fun e he => (PD.may_size (PT.names_may he)).2.2
                  generalize PT.sweep t j S = S2 at *
                  have HST := Lib.hid hst
                  have HI2 := Lib.hid (And.intro hy (And.intro hx hB))
                  clear hst hy hx
                  go_wp2_with fail
                  refine h30.mono ?_
                  rintro e w6 ⟨v6, rfl, hO, hFt, hB6⟩
                  have hyl := HI2.out.1.lt
                  have hy6 := HI2.out.1.on hB6
                  have hx6 := HI2.out.2.1.on hB6
                  have hb6 := hB.trans (hB6.mono (by have := hB.size; omega))
                  obtain ⟨Am, cm, rfl, _⟩ := hO.cap
                  have hml := hFt.2
                  have hlook1 : PT.gb S2 j = true → PT.look t j S2 = PT.lk S2 (PT.names t j) := PT.look_yes
                  have hlook2 : PT.gb S2 j = false → PT.look t j S2 = S2 := PT.look_no
                  generalize PT.names t j = m at *
                  obtain ⟨M, hM⟩ : ∃ M, m.length = M := ⟨_, rfl⟩
                  rw [hM] at hml hO ⊢
                  have HO := Lib.hid (And.intro hO hFt)
                  have HM := Lib.hid hM
                  have HMAY := Lib.hid hmay
                  have HLK := Lib.hid (And.intro hlook1 hlook2)
                  have HI6 := Lib.hid (And.intro hy6 (And.intro hx6 hb6))
                  clear h30 hO hFt hM hmay hlook1 hlook2 hy6 hx6 hb6 hB6 hB
                  go_wp2
                  go_loopw [13] (fun qq wr => ∃ q : Nat, q ≤ M ∧ qq = .int .i64 (q : Int) ∧ (q = 0 ∨ PT.gb S2 j = true) ∧ Bx wr g2 4 (PT.cb (PT.lk S2 (m.take q))) ∧ Bx wr g 3 (PT.nb (PT.named t)) ∧ Nx g2 w6 wr ∧ Below g w wr) (fun qq _ => M - (intOf qq).toNat)
                  case atStart => exact ⟨0, Nat.zero_le _, rfl, .inl rfl, HI6.out.1, HI6.out.2.1, Nx.refl _ _, HI6.out.2.2⟩
                  case round =>
                    obtain ⟨q, hq, rfl, hq0, hy, hx, hN, hB⟩ := hrel
                    have hll : (PT.lk S2 (m.take q)).length = 9 := (PT.lk_length _ _).trans hlS2
                    have hcj := (hy.cell (j + 1)).trans (PT.cb_at (S := PT.lk S2 (m.take q)) (k := j) (by omega))
                    have nj : ((j : Int) + 1).toNat = j + 1 := by omega
                    by_cases hql : q < M
                    · have hdq : decide ((q : Int) < (M : Int)) = true := by simp; omega
                      cases hgb : PT.gb S2 j
                      · have hq00 : q = 0 := hq0.resolve_right (by rw [hgb]; decide)
                        subst hq00
                        have hl0 : PT.lk S2 (m.take 0) = S2 := rfl
                        rw [hl0, hgb] at hcj
                        rw [hl0] at hy
                        have HY : Hid (Bx wr g2 4 (PT.cb (PT.sweep t (j + 1) S))) := Lib.hid (by rw [HST.out, HLK.out.2 hgb]; exact hy)
                        have HQ := Lib.hid (And.intro hx hB)
                        clear hy hx hB hN hl0 hll hgb
                        go_wp2
                        go_roundw
                        case rel => exact ⟨j + 1, by omega, by go_num, HY.out, HQ.out.1, HQ.out.2⟩
                        case measure => simp [intOf]; omega
                      · rw [PT.lk_stays hgb] at hcj
                        obtain ⟨g4, cur, rfl, hg4, hb4, hcc⟩ := HO.out.1.box HM.out (by omega) HO.out.2
                        obtain ⟨e, he⟩ : ∃ e, m[q]? = some e := ⟨_, List.getElem?_eq_getElem (by rw [HM.out]; omega)⟩
                        have hey := (hcc q e he).2
                        have hbW := hb4.nx hN (by omega)
                        have e1 := (hbW.cell (q * 2 + 1)).trans hey
                        have hsn := PT.lk_snoc (S := S2) he
                        have hme := HMAY.out e (List.mem_of_getElem? he)
                        have hie : e.2 = ((PT.ix e : Nat) : Int) + 1 := by unfold PT.ix; omega
                        have hi9 : PT.ix e < 9 := by unfold PT.ix; omega
                        rw [hie] at e1
                        generalize PT.ix e = a at *
                        have hset := hy.set (a + 1) (.bool true)
                        rw [PT.cb_set, ← hsn] at hset
                        have hfa := hy.frozen (a + 1)
                        have hca := (hy.cell (a + 1)).trans (PT.cb_at (S := PT.lk S2 (m.take q)) (k := a) (by omega))
                        have na : ((a : Int) + 1).toNat = a + 1 := by omega
                        have HQ := Lib.hid (And.intro hset (And.intro (hx.far (p := ⟨g2, a + 1, none⟩) hne (.bool true)) (And.intro (hN.own (a + 1) (.bool true)) (hB.setCell (p := ⟨g2, a + 1, none⟩) (by omega : g ≤ g2) (.bool true)))))
                        have HG := Lib.hid hgb
                        clear hcc he hey hbW hb4 hsn hme hie hset hy hx hN hB hll hgb hq0
                        generalize PT.gb (PT.lk S2 (m.take q)) a = z at *
                        go_wp2
                        go_roundw
                        case rel => exact ⟨q + 1, by omega, by go_num, .inr (by first | exact HG.out | trivial), HQ.out.1, HQ.out.2.1, HQ.out.2.2.1, HQ.out.2.2.2⟩
                        case measure => simp [intOf]; omega
                    · have hqM : q = M := by omega
                      have hfin : PT.lk S2 (m.take q) = PT.look t j S2 := by
                        rw [hqM, ← HM.out, List.take_of_length_le (Nat.le_refl _)]
                        cases hgb : PT.gb S2 j with
                        | true => exact (HLK.out.1 hgb).symm
                        | false =>
                          have hq00 : q = 0 := hq0.resolve_right (by rw [hgb]; decide)
                          have : m = [] := List.length_eq_zero_iff.1 (by rw [HM.out]; omega)
                          rw [HLK.out.2 hgb, this]
                          rfl
                      rw [hfin, ← HST.out] at hy
                      have HQ := Lib.hid (And.intro hy (And.intro hx hB))
                      have hdq : decide ((q : Int) < (M : Int)) = false := by simp; omega
                      clear hfin hy hx hB hN hcj hll hq0 hqM
                      go_wp2
                      go_roundw
                      case rel => exact ⟨j + 1, by omega, by go_num, HQ.out.1, HQ.out.2.1, HQ.out.2.2⟩
                      case measure => simp [intOf]; omega
                · have hj9 : j = 9 := by omega
                  rw [hj9, ← HSTEP.out] at hy
                  have HQ := Lib.hid (And.intro hy (And.intro hx hB))
                  have hd2 : decide ((j : Int) + 1 ≤ 9) = false := decide_eq_false (by omega)
                  clear hy hx hB hj9
                  go_wp2
                  go_roundw
                  case rel => exact ⟨r + 1, by omega, by go_num, HQ.out.1, HQ.out.2.1, HQ.out.2.2⟩
                  case measure => simp [intOf]; omega
            · have hr9 : r = 9 := by omega
              have hsee : PT.iter (PT.sweep t 9) 9 PT.first = PT.seen t := rfl
              rw [hr9, hsee] at hy
              have hsl : (PT.seen t).length = 9 := (PT.iter_sub (PT.sweep_sub t 9) (S := PT.first) 9).1.symm
              have HQ := Lib.hid (And.intro hy (And.intro hx hB))
              have HSL := Lib.hid hsl
              have hd : decide ((r : Int) < 9) = false := decide_eq_false (by omega)
              clear hy hx hB hsee hsl hr9
              go_wp2
              clear hd
              go_loopw [14] (fun ii wr => ∃ k : Nat, k ≤ 9 ∧ ii = .int .i64 ((k : Int) + 1) ∧ Bx wr g2 4 (PT.cb (PT.seen t)) ∧ Bx wr g 3 (PT.nb (PT.named t)) ∧ Below g w wr ∧ ∀ j, j < k → PT.okB t j = true) (fun ii _ => 10 - (intOf ii).toNat)
              case atStart => exact ⟨0, by decide, rfl, HQ.out.1, HQ.out.2.1, HQ.out.2.2, fun j h => absurd h (by omega)⟩
              case round =>
                obtain ⟨k, hk, rfl, hy, hx, hB, hok0⟩ := hrel
                by_cases hlt : k < 9
                · have hd : decide ((k : Int) + 1 ≤ 9) = true := by simp; omega
                  obtain ⟨n, hn⟩ : ∃ n, t[k]? = some n := ⟨_, List.getElem?_eq_getElem (by rw [h9]; exact hlt)⟩
                  have hok := PT.okB_gb hn
                  have c0 := (HC.out wr (hg ▸ hB) k n hn).1
                  have c1 := (hx.cell (k + 1)).trans (PT.nb_at (PT.named t) hlt)
                  have c2 := (hy.cell (k + 1)).trans (PT.cb_at (S := PT.seen t) (k := k) (by rw [HSL.out]; exact hlt))
                  have nk : ((k : Int) + 1).toNat = k + 1 := by omega
                  have hw1 : IntKind.i64.wrap ((k : Int) + 1 - 1) = (k : Int) := by rw [IntKind.wrap_i64]; omega
                  have hnb := PT.named_bound t k
                  rw [h9] at hnb
                  have HQ := Lib.hid (And.intro hy (And.intro hx (And.intro hB hok0)))
                  have HBE : Hid (Below w.heap.size w wr) := Lib.hid (by rw [hg]; exact hB)
                  generalize PT.named t k = F at *
                  generalize PT.gb (PT.seen t) k = sn at *
                  generalize n.kind = kd at *
                  clear hy hx hB hok0 hn
                  by_cases k0 : kd = 0
                  · subst k0
                    by_cases hF : 0 < F
                    · have dF : decide ((0 : Int) < (F : Int)) = true := decide_eq_true (by omega)
                      have HF := Lib.hid (HOF.out k hlt (by rw [hok]; simp [hF]))
                      clear hok
                      go_wp2
                      go_ret
                      exact ⟨by rw [HF.out]; rfl, by first | exact HBE.out | (rw [← hg]; exact HBE.out)⟩
                    · have dF : decide ((0 : Int) < (F : Int)) = false := decide_eq_false (by omega)
                      by_cases hz : k = 0
                      · subst hz
                        simp only [Nat.zero_mul, Nat.add_zero, Nat.zero_add] at c0 c1 c2
                        have hw0 : IntKind.i64.wrap 0 = 0 := by rw [IntKind.wrap_i64]; rfl
                        have nk0 : (1 : Int).toNat = 1 := rfl
                        clear nk hw1 hd
                        have HOK : Hid (PT.okB t 0 = true) := Lib.hid (by rw [hok]; simp [hF])
                        clear hok
                        go_wp2
                        go_roundw
                        case rel => exact ⟨0 + 1, by omega, by go_num, HQ.out.1, HQ.out.2.1, HQ.out.2.2.1, fun j hj => by
                          rcases Nat.lt_or_ge j 0 with h1 | h1
                          · exact HQ.out.2.2.2 j h1
                          · obtain rfl : j = 0 := by omega
                            exact HOK.out⟩
                        case measure => first | (simp [intOf]; omega) | simp [intOf]
                      · have dz : (((k : Int) + 1) == 1) = false := by rw [beq_eq_false_iff_ne]; omega
                        have dz2 : decide ((1 : Int) < (k : Int) + 1) = true := decide_eq_true (by omega)
                        have HOK : Hid (PT.okB t k = true) := Lib.hid (by rw [hok]; simp [hF, hz])
                        clear hok
                        go_wp2
                        go_roundw
                        case rel => exact ⟨k + 1, by omega, by go_num, HQ.out.1, HQ.out.2.1, HQ.out.2.2.1, fun j hj => by
                          rcases Nat.lt_or_ge j k with h1 | h1
                          · exact HQ.out.2.2.2 j h1
                          · obtain rfl : j = k := by omega
                            exact HOK.out⟩
                        case measure => first | (simp [intOf]; omega) | simp [intOf]
                  · have hkn : (kd != 0) = true := by simpa using k0
                    cases sn
                    · by_cases hF : 0 < F
                      · have dF : decide ((0 : Int) < (F : Int)) = true := decide_eq_true (by omega)
                        have HF := Lib.hid (HOF.out k hlt (by rw [hok]; simp [k0]))
                        clear hok
                        go_wp2
                        go_ret
                        exact ⟨by rw [HF.out]; rfl, by first | exact HBE.out | (rw [← hg]; exact HBE.out)⟩
                      · have dF : decide ((0 : Int) < (F : Int)) = false := decide_eq_false (by omega)
                        have HF := Lib.hid (HOF.out k hlt (by rw [hok]; simp [k0]))
                        clear hok
                        go_wp2
                        go_ret
                        exact ⟨by rw [HF.out]; rfl, by first | exact HBE.out | (rw [← hg]; exact HBE.out)⟩
                    · by_cases hz : k = 0
                      · subst hz
                        simp only [Nat.zero_mul, Nat.add_zero, Nat.zero_add] at c0 c1 c2
                        have hw0 : IntKind.i64.wrap 0 = 0 := by rw [IntKind.wrap_i64]; rfl
                        have nk0 : (1 : Int).toNat = 1 := rfl
                        clear nk hw1 hd
                        by_cases hF : 0 < F
                        · have dF : decide ((0 : Int) < (F : Int)) = true := decide_eq_true (by omega)
                          have HF := Lib.hid (HOF.out 0 hlt (by rw [hok]; simp [hF]))
                          clear hok
                          go_wp2
                          go_ret
                          exact ⟨by rw [HF.out]; rfl, by first | exact HBE.out | (rw [← hg]; exact HBE.out)⟩
                        · have dF : decide ((0 : Int) < (F : Int)) = false := decide_eq_false (by omega)
                          have HOK : Hid (PT.okB t 0 = true) := Lib.hid (by rw [hok]; simp [hF, k0])
                          clear hok
                          go_wp2
                          go_roundw
                          case rel => exact ⟨0 + 1, by omega, by go_num, HQ.out.1, HQ.out.2.1, HQ.out.2.2.1, fun j hj => by
                            rcases Nat.lt_or_ge j 0 with h1 | h1
                            · exact HQ.out.2.2.2 j h1
                            · obtain rfl : j = 0 := by omega
                              exact HOK.out⟩
                          case measure => first | (simp [intOf]; omega) | simp [intOf]
                      · have dz : (((k : Int) + 1) == 1) = false := by rw [beq_eq_false_iff_ne]; omega
                        have dz2 : decide ((1 : Int) < (k : Int) + 1) = true := decide_eq_true (by omega)
                        have hkp : 0 < k := by omega
                        by_cases k2 : kd = 2
                        · subst k2
                          by_cases hF : 0 < F
                          · have dF : decide ((0 : Int) < (F : Int)) = true := decide_eq_true (by omega)
                            by_cases hF1 : F = 1
                            · subst hF1
                              have HOK : Hid (PT.okB t k = true) := Lib.hid (by rw [hok]; simp [hz])
                              clear hok
                              go_wp2
                              go_roundw
                              case rel => exact ⟨k + 1, by omega, by go_num, HQ.out.1, HQ.out.2.1, HQ.out.2.2.1, fun j hj => by
                                rcases Nat.lt_or_ge j k with h1 | h1
                                · exact HQ.out.2.2.2 j h1
                                · obtain rfl : j = k := by omega
                                  exact HOK.out⟩
                              case measure => first | (simp [intOf]; omega) | simp [intOf]
                            · have dF1 : ((F : Int) != 1) = true := by rw [bne_iff_ne]; omega
                              have HF := Lib.hid (HOF.out k hlt (by rw [hok]; simp [hz, hkp, hF1]))
                              clear hok
                              go_wp2
                              go_ret
                              exact ⟨by rw [HF.out]; rfl, by first | exact HBE.out | (rw [← hg]; exact HBE.out)⟩
                          · have dF : decide ((0 : Int) < (F : Int)) = false := decide_eq_false (by omega)
                            have dF1 : ((F : Int) != 1) = true := by rw [bne_iff_ne]; omega
                            have hF1 : F ≠ 1 := by omega
                            have HF := Lib.hid (HOF.out k hlt (by rw [hok]; simp [hz, hkp, hF1]))
                            clear hok
                            go_wp2
                            go_ret
                            exact ⟨by rw [HF.out]; rfl, by first | exact HBE.out | (rw [← hg]; exact HBE.out)⟩
                        · have hk2 : (kd == 2) = false := by simpa using k2
                          by_cases hF : 0 < F
                          · have dF : decide ((0 : Int) < (F : Int)) = true := decide_eq_true (by omega)
                            have HOK : Hid (PT.okB t k = true) := Lib.hid (by rw [hok]; simp [k0, k2, hz, hF])
                            clear hok
                            go_wp2
                            go_roundw
                            case rel => exact ⟨k + 1, by omega, by go_num, HQ.out.1, HQ.out.2.1, HQ.out.2.2.1, fun j hj => by
                              rcases Nat.lt_or_ge j k with h1 | h1
                              · exact HQ.out.2.2.2 j h1
                              · obtain rfl : j = k := by omega
                                exact HOK.out⟩
                            case measure => first | (simp [intOf]; omega) | simp [intOf]
                          · have dF : decide ((0 : Int) < (F : Int)) = false := decide_eq_false (by omega)
                            have HOK : Hid (PT.okB t k = true) := Lib.hid (by rw [hok]; simp [k0, k2, hz, hF])
                            clear hok
                            go_wp2
                            go_roundw
                            case rel => exact ⟨k + 1, by omega, by go_num, HQ.out.1, HQ.out.2.1, HQ.out.2.2.1, fun j hj => by
                              rcases Nat.lt_or_ge j k with h1 | h1
                              · exact HQ.out.2.2.2 j h1
                              · obtain rfl : j = k := by omega
                                exact HOK.out⟩
                            case measure => first | (simp [intOf]; omega) | simp [intOf]
                · have hk9 : k = 9 := by omega
                  rw [hk9] at hok0
                  have HT := Lib.hid (HALL.out HSA.out hok0)
                  have hd : decide ((k : Int) + 1 ≤ 9) = false := decide_eq_false (by omega)
                  have hbe : Below w.heap.size w wr := by rw [hg]; exact hB
                  clear hy hx hok0 hk9
                  go_wp2
                  go_ret
                  exact ⟨by rw [HT.out]; rfl, by first | exact hbe | (rw [← hg]; exact hbe)⟩
    · have HF := Lib.hid (PT.may_root hr0 hk2)
      have hkn : (r0.kind != 2) = true := by simpa using hk2
      clear h hl hr0 hk2 hcell hb0
      go_enter Tryz.func36, Tryz.ntmps36
      go_wp2
      go_ret
      exact ⟨by rw [HF.out]; rfl, Below.refl _ _⟩
  · have HF := Lib.hid (PT.may_nine h9)
    generalize t.length = L at *
    have hLn : ((L : Int) != 9) = true := by rw [bne_iff_ne]; omega
    clear h h9
    go_enter Tryz.func36, Tryz.ntmps36
    go_wp2
    go_ret
    exact ⟨by rw [HF.out]; rfl, Below.refl _ _⟩
end Go.Proofs.YtdnobplhfbgbaaaGreatDoor
