/-
  Contract: the document's Ways: going down, then sorted by putting one text at a time.
-/
import Derived.Test.YtniegpdllijjfaaGreatDoorVi
namespace Go.Proofs.YtniegpdllijjfaaGreatDoor
open Go.RowKit Go.Joins

namespace PT
theorem ins_at : ∀ {S : List ByteArray} {x : ByteArray} {q : Nat}, S.Pairwise (fun a b => PD.lt a b = true) → q ≤ S.length → (∀ y ∈ S.drop q, PD.lt x y = true) → (∀ y, q ≠ 0 → S[q - 1]? = some y → PD.lt x y = false) → insR S x = S.take q ++ x :: S.drop q
  | [], x, q, _, hq, _, _ => by
    obtain rfl : q = 0 := by simpa using hq
    rfl
  | y :: r, x, 0, _, _, h1, _ => by
    rw [insR, if_pos (h1 y (by simp))]
    rfl
  | y :: r, x, q + 1, hr, hq, h1, h2 => by
    obtain ⟨r1, r2⟩ := List.pairwise_cons.1 hr
    have hno : ¬ PD.lt x y = true := by
      intro hxy
      rcases Nat.eq_zero_or_pos q with h0 | h0
      · subst h0
        have := h2 y (by omega) rfl
        rw [hxy] at this
        cases this
      · have hlt : q - 1 < r.length := by simp at hq; omega
        have hg : (y :: r)[q + 1 - 1]? = some r[q - 1] := by
          rw [show q + 1 - 1 = (q - 1) + 1 by omega, List.getElem?_cons_succ, List.getElem?_eq_getElem hlt]
        have h3 := h2 _ (by omega) hg
        have h4 := PD.lt_trans hxy (r1 _ (List.getElem_mem hlt))
        rw [h4] at h3
        cases h3
    rw [insR, if_neg hno, List.take_succ_cons, List.drop_succ_cons, ins_at (q := q) r2 (by simpa using hq) (by simpa using h1) ?_]
    · rfl
    · intro z hz hg
      refine h2 z (by omega) ?_
      rw [show q + 1 - 1 = (q - 1) + 1 by omega, List.getElem?_cons_succ]
      exact hg
theorem swap_at {S R : List ByteArray} {x y : ByteArray} {q : Nat} (hy : S[q]? = some y) : ((S.take (q + 1) ++ x :: (S.drop (q + 1) ++ R)).set q x).set (q + 1) y = S.take q ++ x :: (S.drop q ++ R) := by
  obtain ⟨hlt, hg⟩ := List.getElem?_eq_some_iff.1 hy
  have hl : (S.take q).length = q := by rw [List.length_take]; omega
  rw [List.drop_eq_getElem_cons hlt, hg, List.take_add_one, hy]
  generalize S.drop (q + 1) = T at *
  generalize S.take q = P at *
  subst hl
  simp [List.set_append]
theorem row_q {S R : List ByteArray} {x : ByteArray} {q : Nat} (hq : q ≤ S.length) : (S.take q ++ x :: (S.drop q ++ R))[q]? = some x := by
  have hl : (S.take q).length = q := by rw [List.length_take]; omega
  rw [List.getElem?_append_right (by omega), hl]
  simp
theorem row_p {S R : List ByteArray} {x : ByteArray} {q : Nat} (hq : q < S.length) : (S.take (q + 1) ++ x :: (S.drop (q + 1) ++ R))[q]? = S[q]? := by
  rw [List.getElem?_append_left (by rw [List.length_take]; omega), List.getElem?_take, if_pos (by omega)]
theorem sort_one (U : List ByteArray) : sort (U.take 1) ++ U.drop 1 = U := by
  cases U with
  | nil => rfl
  | cons x r => rfl
theorem sort_step {U : List ByteArray} {i : Nat} {x : ByteArray} (h : U[i]? = some x) : sort (U.take (i + 1)) = insR (sort (U.take i)) x := by
  rw [List.take_add_one, h, Option.toList_some, sort_snoc]
theorem drop_step {U : List ByteArray} {i : Nat} {x : ByteArray} (h : U[i]? = some x) : U.drop i = x :: U.drop (i + 1) := by
  obtain ⟨hlt, hg⟩ := List.getElem?_eq_some_iff.1 h
  rw [List.drop_eq_getElem_cons hlt, hg]
/-- Which node is asked for: where there is no such number, one that no entry leads to. -/
def jz (z : Int) : Nat := if z < 1 then 20 else px z
theorem jz_ix {t : List N} (z : Int) (k : Nat) (e : E) (he : e ∈ names t k) : e.2 = z ↔ ix e = jz z := by
  have h1 := ix_int he
  have h2 := ix_lt he
  unfold jz px
  split <;> omega
theorem waysI_down {t : List N} (g : Fine t) {z : Int} (hz : z ≠ 1) : waysI t z = sort ((down t 9 0 [] (jz z)).map txt) := by
  have hm : (down t 9 0 [] (jz z)).map txt = (down t 9 0 [] (jz z)).map PN.path := by
    apply List.map_congr_left
    intro l hl
    exact (txt_path (g.all_ways.1 hl).1).symm
  unfold waysI
  rw [if_neg hz, hm]
  split
  · rename_i h1
    rw [jz, if_pos h1]
    have : down t 9 0 [] 20 = [] := by
      rw [List.eq_nil_iff_forall_not_mem]
      intro q hq
      obtain ⟨n, hn, _⟩ := g.way_there (g.all_ways.1 hq).2
      have := (List.getElem?_eq_some_iff.1 hn).1
      rw [g.len] at this
      omega
    rw [this]
    rfl
  · rename_i h1
    rw [jz, if_neg h1]
    rfl
theorem Fine.txts_nodup {t : List N} (g : Fine t) (j : Nat) : ((down t 9 0 [] j).map txt).Nodup := by
  have hm : (down t 9 0 [] j).map txt = (down t 9 0 [] j).map PN.path := by
    apply List.map_congr_left
    intro l hl
    exact (txt_path (g.all_ways.1 hl).1).symm
  rw [hm]
  exact paths_nodup g (down_nodup t 9 0 [] j) fun l hl => (g.all_ways.1 hl).2
end PT
theorem Ro.set {w : World} {base g n c : Nat} {l : List ByteArray} (h : Ro w base (.slice (some ⟨g, 0, none⟩) n c) l) (hn : l.length = n) (k : Nat) (x : ByteArray) : Ro (w.setCell ⟨g, k, none⟩ (.string x)) base (.slice (some ⟨g, 0, none⟩) n c) (l.set k x) := by
  subst hn
  have h1 := own_set h k (.string x)
  unfold Ro
  rw [List.length_set, List.map_set]
  exact h1
theorem Ro.block {w : World} {base : Nat} {v : Value} {l : List ByteArray} (h : Ro w base v l) (h0 : 0 < l.length) : ∃ g c, v = .slice (some ⟨g, 0, none⟩) l.length c ∧ base ≤ g := by
  rcases h.2 with ⟨_, hn⟩ | ⟨g, cap, cur, hv, hg, _⟩
  · omega
  · exact ⟨g, cap, hv, hg⟩
theorem Ro.at {w : World} {base g n c : Nat} {l : List ByteArray} (h : Ro w base (.slice (some ⟨g, 0, none⟩) n c) l) {k : Nat} {x : ByteArray} (hx : l[k]? = some x) : w.cell? ⟨g, k, none⟩ = some (.string x) ∧ w.frozen? ⟨g, k, none⟩ = false := by
  rcases h.2 with ⟨hv, _⟩ | ⟨g', cap, cur, hv, hg, hh, hn, hm, hs, ht⟩
  · cases hv
  · injection hv with e1 e2 e3
    injection e1 with e1
    injection e1 with e1
    subst e1
    have hb : Bx w g 9 cur := hh
    refine ⟨?_, hb.frozen k⟩
    have hlt := (List.getElem?_eq_some_iff.1 hx).1
    have hc : cur.toList[k]? = some (.string x) := by
      have : (l.map Value.string)[k]? = some (.string x) := by rw [List.getElem?_map, hx]; rfl
      rw [← ht, List.getElem?_take, if_pos (by omega)] at this
      exact this
    rw [hb.cell k, ← Array.getElem?_toList]
    exact hc
set_option maxRecDepth 100000 in
set_option maxHeartbeats 16000000 in
theorem rWays_any (v : Value) (t : List PT.N) (z : Int) (w : World) (h : Ts w v t) (g : PT.Fine t) : Calls Tryz.prog 25 #[v, .int .i64 z] w fun e w' => ∃ v', e = .returned v' ∧ Ro w' w.heap.size v' (PT.waysI t z) ∧ Below w.heap.size w w' := by
  by_cases hz1 : z = 1
  · subst hz1
    rw [show PT.waysI t 1 = [{ data := #[47] }] from by rw [PT.waysI, if_pos rfl, PT.path_root]]
    clear h g
    go_enter Tryz.func25, Tryz.ntmps25
    go_wp2
    go_ret
    exact ⟨_, rfl, own_one _ _ _ _ (Nat.le_refl _) (Bx.new w 9 _), al _ _⟩
  · rw [PT.waysI_down g hz1]
    have hd : Calls Tryz.prog 48 #[v, .int .i64 1, .int .i64 z, .string { data := #[] }, .int .i64 0] w fun e w' => ∃ v', e = .returned v' ∧ Ro w' w.heap.size v' ((PT.down t 9 0 [] (PT.jz z)).map PT.txt) ∧ Below w.heap.size w w' :=
      rways_any g z (PT.jz z) (fun k e he => PT.jz_ix z k e he) 9 0 rfl 0 [] v w .root h
    have hnd := g.txts_nodup (PT.jz z)
    have hfew := g.down_few (.root) 9 (PT.jz z)
    generalize (PT.down t 9 0 [] (PT.jz z)).map PT.txt = U at *
    have hzz : (z == 1) = false := by simpa using hz1
    have HD := Lib.hid hd
    obtain ⟨R, hR⟩ : ∃ R, PT.sort U = R := ⟨_, rfl⟩
    rw [hR]
    have HSR := Lib.hid hR
    clear h g hd hR
    go_enter Tryz.func25, Tryz.ntmps25
    go_wp2_with (go_at_call 48; refine HD.out.mono ?_; rintro e w1 ⟨v1, rfl, hO1, hB1⟩)
    by_cases hU : U.length = 0
    · have hU0 : U = [] := List.length_eq_zero_iff.1 hU
      obtain ⟨A, c, rfl, _⟩ := hO1.form
      rw [hU0] at hO1 ⊢
      have hR := HSR.out
      rw [hU0, show PT.sort [] = [] from rfl] at hR
      subst hR
      have HO := Lib.hid hO1
      rw [show ([] : List ByteArray).length = 0 from rfl] at HO ⊢
      clear hO1 hU hU0 hnd hfew HD
      go_loopw [6] (fun i wr => i = .int .i64 1 ∧ Below w1.heap.size w1 wr) (fun _ _ => 0)
      case atStart => exact ⟨rfl, Below.refl _ _⟩
      case round =>
        obtain ⟨rfl, hB⟩ := hrel
        have hb := hB1.trans (hB.mono hB1.size)
        go_wp2
        go_ret
        exact ⟨_, rfl, HO.out.on hB, hb⟩
    · obtain ⟨b, c, rfl, hbb⟩ := hO1.block (by omega)
      obtain ⟨n, hn⟩ : ∃ n, U.length = n := ⟨_, rfl⟩
      rw [hn] at hO1 hfew hU ⊢
      have HN := Lib.hid hn
      have HND := Lib.hid hnd
      have HO1 := Lib.hid hO1
      clear hn hnd hO1 HD
      go_loopw [6] (fun ii wr => ∃ i : Nat, 1 ≤ i ∧ i ≤ n ∧ ii = .int .i64 (i : Int) ∧ Ro wr w.heap.size (.slice (some ⟨b, 0, none⟩) n c) (PT.sort (U.take i) ++ U.drop i) ∧ Below w.heap.size w wr) (fun ii _ => n - (intOf ii).toNat)
      case atStart => exact ⟨1, Nat.le_refl _, by omega, rfl, by rw [PT.sort_one]; exact HO1.out, hB1⟩
      case round =>
        obtain ⟨i, hi1, hin, rfl, hO, hB⟩ := hrel
        by_cases hlt : i < n
        · have hdec : decide ((i : Int) < (n : Int)) = true := by simp; omega
          obtain ⟨x, hx⟩ : ∃ x, U[i]? = some x := ⟨_, List.getElem?_eq_getElem (by rw [HN.out]; omega)⟩
          have hst := PT.sort_step hx
          have hds := PT.drop_step hx
          have hSl : (PT.sort (U.take i)).length = i := by rw [PT.sort_length, List.length_take, HN.out]; omega
          have hSr : (PT.sort (U.take i)).Pairwise (fun a b => PD.lt a b = true) := PT.sort_rises (List.Sublist.nodup (List.take_sublist _ _) HND.out)
          have hRl : (U.drop (i + 1)).length + i + 1 = n := by rw [List.length_drop, HN.out]; omega
          rw [hds] at hO
          generalize PT.sort (U.take i) = S at *
          generalize hR0 : U.drop (i + 1) = R0 at *
          have HR0 := Lib.hid hR0
          have HST := Lib.hid (And.intro hst (And.intro hSl (And.intro hSr hRl)))
          have HO := Lib.hid hO
          clear hst hSl hSr hRl hds hx hO hR0
          go_wp2
          go_loopw [7] (fun kk wq => ∃ q : Nat, q ≤ i ∧ kk = .int .i64 (q : Int) ∧ Ro wq w.heap.size (.slice (some ⟨b, 0, none⟩) n c) (S.take q ++ x :: (S.drop q ++ R0)) ∧ (∀ y ∈ S.drop q, PD.lt x y = true) ∧ Below w.heap.size w wq) (fun kk _ => (intOf kk).toNat)
          case atStart => exact ⟨i, Nat.le_refl _, rfl, by rw [← HST.out.2.1, List.take_of_length_le (Nat.le_refl _), List.drop_of_length_le (Nat.le_refl _)]; exact HO.out, by rw [← HST.out.2.1, List.drop_of_length_le (Nat.le_refl _)]; simp, hB⟩
          case round =>
            obtain ⟨q, hqi, rfl, hO, hgt, hB⟩ := hrel
            have hlen : (S.take q ++ x :: (S.drop q ++ R0)).length = n := by
              have h1 := HST.out.2.1
              have h2 := HST.out.2.2.2
              rw [List.length_append, List.length_cons, List.length_append, List.length_take, List.length_drop]
              omega
            have hins := fun h2 => PT.ins_at (S := S) (x := x) (q := q) HST.out.2.2.1 (by rw [HST.out.2.1]; exact hqi) hgt h2
            obtain ⟨c1, f1⟩ := hO.at (PT.row_q (S := S) (R := R0) (x := x) (q := q) (by rw [HST.out.2.1]; exact hqi))
            rcases Nat.eq_zero_or_pos q with hq0 | hq0
            · subst hq0
              have hR2 : ∀ j, Ro (wr.drewN j) w.heap.size (.slice (some ⟨b, 0, none⟩) n c) (PT.sort (U.take (i + 1)) ++ U.drop (i + 1)) := fun j => by
                rw [HST.out.1, hins (fun y h => absurd rfl h), HR0.out]
                simpa using hO.on (drewN_below (Below.refl _ _) j)
              have HR := Lib.hid hR2
              clear hR2 hO hgt hins hlen c1 f1
              go_wp2_with fail
              go_quiet (fail)
              go_wp2
              go_roundw
              case rel => exact ⟨i + 1, by omega, by omega, by go_num, HR.out _, drewN_below hB _⟩
              case measure => simp [intOf]; omega
            · obtain ⟨p, rfl⟩ : ∃ p, q = p + 1 := ⟨q - 1, by omega⟩
              obtain ⟨y, hy⟩ : ∃ y, S[p]? = some y := ⟨_, List.getElem?_eq_getElem (by rw [HST.out.2.1]; omega)⟩
              obtain ⟨c0, f0⟩ := hO.at ((PT.row_p (S := S) (R := R0) (x := x) (q := p) (by rw [HST.out.2.1]; omega)).trans hy)
              cases hxy : PD.lt x y
              · have hR2 : ∀ j, Ro (wr.drewN j) w.heap.size (.slice (some ⟨b, 0, none⟩) n c) (PT.sort (U.take (i + 1)) ++ U.drop (i + 1)) := fun j => by
                  rw [HST.out.1, hins (fun z _ hz => by rw [show p + 1 - 1 = p by omega, hy] at hz; injection hz with hz; subst hz; exact hxy), HR0.out]
                  simpa using hO.on (drewN_below (Below.refl _ _) j)
                have HR := Lib.hid hR2
                rcases Classical.em (y = x) with hyx | hyx
                · subst hyx
                  have hless : Op.bytesLess y.toList y.toList = false := PD.lt_irrefl y
                  have hsq := seq_yes y
                  have hw1 : IntKind.i64.wrap (((p + 1 : Nat) : Int) - 1) = (p : Int) := by rw [IntKind.wrap_i64]; omega
                  have hpos : decide ((0 : Int) < ((p + 1 : Nat) : Int)) = true := decide_eq_true (by omega)
                  clear hR2 hO hgt hins hlen f1 f0 hy hxy
                  go_wp2_with fail
                  go_quiet (fail)
                  go_wp2
                  go_roundw
                  case rel => exact ⟨i + 1, by omega, by omega, by go_num, HR.out _, drewN_below hB _⟩
                  case measure => simp [intOf]; omega
                · have hless : Op.bytesLess y.toList x.toList = true := PD.lt_total hxy fun e => hyx e.symm
                  have hw1 : IntKind.i64.wrap (((p + 1 : Nat) : Int) - 1) = (p : Int) := by rw [IntKind.wrap_i64]; omega
                  have hpos : decide ((0 : Int) < ((p + 1 : Nat) : Int)) = true := decide_eq_true (by omega)
                  clear hR2 hO hgt hins hlen f1 f0 hy hxy
                  go_wp2_with fail
                  go_quiet (fail)
                  go_wp2
                  go_roundw
                  case rel => exact ⟨i + 1, by omega, by omega, by go_num, HR.out _, drewN_below hB _⟩
                  case measure => simp [intOf]; omega
              · have hS2 : ∀ j, Ro ((((wr.drewN j).setCell ⟨b, p, none⟩ (.string x))).setCell ⟨b, p + 1, none⟩ (.string y)) w.heap.size (.slice (some ⟨b, 0, none⟩) n c) (S.take p ++ x :: (S.drop p ++ R0)) := fun j => by
                  have h1 := ((hO.on (drewN_below (Below.refl _ _) j)).set hlen p x).set (by rw [List.length_set]; exact hlen) (p + 1) y
                  rw [PT.swap_at hy] at h1
                  exact h1
                have hg2 : ∀ z ∈ S.drop p, PD.lt x z = true := by
                  intro z hz
                  obtain ⟨hpl, hpe⟩ := List.getElem?_eq_some_iff.1 hy
                  rw [List.drop_eq_getElem_cons hpl, hpe] at hz
                  rcases List.mem_cons.1 hz with rfl | hz
                  · exact hxy
                  · exact hgt z hz
                have HS2 := Lib.hid (And.intro hS2 hg2)
                have hless : Op.bytesLess y.toList x.toList = false := PD.lt_asymm hxy
                have hsq : (y.toList == x.toList) = false := seq_no fun e => by rw [e, PD.lt_irrefl] at hxy; cases hxy
                have hw1 : IntKind.i64.wrap (((p + 1 : Nat) : Int) - 1) = (p : Int) := by rw [IntKind.wrap_i64]; omega
                have hpos : decide ((0 : Int) < ((p + 1 : Nat) : Int)) = true := decide_eq_true (by omega)
                clear hS2 hg2 hO hgt hins hlen hy hxy
                go_wp2_with fail
                go_quiet (fail)
                go_wp2_with fail
                go_region
                go_wp2
                go_roundw
                case rel => exact ⟨p, by omega, by go_num, HS2.out.1 _, HS2.out.2, ((drewN_below hB _).setCell (p := ⟨b, p, none⟩) hbb _).setCell (p := ⟨b, p + 1, none⟩) hbb _⟩
                case measure => simp [intOf]
        · have hin' : i = n := by omega
          rw [hin'] at hO
          have hdec : decide ((i : Int) < (n : Int)) = false := by simp; omega
          have hE : PT.sort (U.take n) ++ U.drop n = PT.sort U := by
            rw [List.take_of_length_le (by rw [HN.out]; omega), List.drop_of_length_le (by rw [HN.out]; omega), List.append_nil]
          rw [hE, HSR.out] at hO
          have HO := Lib.hid hO
          clear hO hE
          go_wp2
          go_ret
          exact ⟨_, rfl, HO.out, hB⟩
end Go.Proofs.YtniegpdllijjfaaGreatDoor
