/-
  Plain: sweeps link by link are sweeps folder by folder.
  Contract: tree's whole.
-/
import Derived.Test.YtdnobplhfbgbaaaGreatDoorMUv
namespace Go.Proofs.YtdnobplhfbgbaaaGreatDoor
open Go.RowKit Go.Joins

namespace PT
/-- Whether node k is seen. -/
def gb (S : List Bool) (k : Nat) : Bool := S[k]?.getD false
theorem gb_true {S : List Bool} {k : Nat} : gb S k = true ↔ S[k]? = some true := by
  unfold gb
  cases h : S[k]? with
  | none => simp
  | some b => simp
/-- What one link leads to is seen, too. -/
def one (S : List Bool) (x : Lk) : List Bool := S.set (px x.1.2) (gb S (px x.1.2) || gb S (px x.2.2))
theorem one_length (S : List Bool) (x : Lk) : (one S x).length = S.length := by simp [one]
theorem one_fold : ∀ (l : List Lk) (S : List Bool), (l.foldl one S).length = S.length
  | [], _ => rfl
  | x :: r, S => by rw [List.foldl_cons, one_fold r, one_length]
theorem set_gb (S : List Bool) (j : Nat) : S.set j (gb S j) = S := by
  apply List.ext_getElem?
  intro i
  by_cases h : j = i
  · subst h
    by_cases hl : j < S.length
    · rw [List.getElem?_set_self hl]
      unfold gb
      rw [List.getElem?_eq_getElem hl]
      rfl
    · rw [List.getElem?_eq_none (by simp; omega), List.getElem?_eq_none (by omega)]
  · rw [List.getElem?_set_ne h]
theorem fold_look (f : E → N) (k : Nat) : ∀ (l : List E) (S : List Bool), (l.map fun e => ((e, f e, (k : Int) + 1) : Lk)).foldl one S = if S[k]? = some true then l.foldl (fun S e => S.set (ix e) true) S else S
  | [], S => by simp
  | e :: r, S => by
    have hp : px ((k : Int) + 1) = k := by unfold px; omega
    have hone : one S (e, f e, (k : Int) + 1) = S.set (ix e) (gb S (ix e) || gb S k) := by
      unfold one
      simp only [hp]
      rfl
    rw [List.map_cons, List.foldl_cons, fold_look f k r, hone]
    by_cases h : S[k]? = some true
    · have hg := gb_true.2 h
      rw [if_pos h, hg, Bool.or_true, List.foldl_cons]
      refine if_pos ?_
      by_cases hx : ix e = k
      · rw [← hx] at h ⊢
        exact List.getElem?_set_self (List.getElem?_eq_some_iff.1 h).1
      · rw [List.getElem?_set_ne hx]; exact h
    · have hg : gb S k = false := by
        cases hc : gb S k with
        | false => rfl
        | true => exact absurd (gb_true.1 hc) h
      rw [hg, Bool.or_false, set_gb, if_neg h, if_neg h]
theorem inside_look (t : List N) (k : Nat) (hk : k < t.length) (S : List Bool) : (inside t ((k : Int) + 1)).foldl one S = look t k S := by
  obtain ⟨n, hn⟩ : ∃ n, t[k]? = some n := ⟨_, List.getElem?_eq_getElem hk⟩
  unfold inside look
  rw [atz_at hn, names_at hn]
  exact fold_look (fun e => atz t e.2) k (ents n) S
theorem links_sweep (t : List N) (S : List Bool) : ∀ k, k ≤ t.length → (linksTo t k).foldl one S = sweep t k S
  | 0, _ => by simp [linksTo, sweep]
  | k + 1, h => by
    rw [linksTo_succ, List.foldl_append, links_sweep t S k (by omega), inside_look t k (by omega)]
    rfl
theorem links_in (t : List N) : ∀ k, ∀ x ∈ linksTo t k, (1 ≤ x.1.2 ∧ x.1.2 ≤ 9) ∧ 1 ≤ x.2.2 ∧ x.2.2 ≤ (k : Int)
  | 0, x, h => by simp [linksTo] at h
  | k + 1, x, h => by
    rw [linksTo_succ] at h
    rcases List.mem_append.1 h with h | h
    · have := links_in t k x h
      omega
    · obtain ⟨e, he, rfl⟩ := List.mem_map.1 h
      have hm := ents_may he
      simp only [PD.may, Bool.and_eq_true, decide_eq_true_eq] at hm
      simp only
      omega
/-- Whether all that is there is seen. -/
def wholeB (t : List N) : Bool := (List.range 9).all fun k => !(decide ((atz t ((k : Int) + 1)).kind ≠ 0) && !gb (seen t) k)
def cb (S : List Bool) : Array Value := ((false :: S).map Value.bool).toArray
theorem cb_size (S : List Bool) : (cb S).size = S.length + 1 := by simp [cb]
theorem cb_at {S : List Bool} {k : Nat} (h : k < S.length) : (cb S)[k + 1]? = some (.bool (gb S k)) := by
  unfold cb gb
  simp [List.getElem?_eq_getElem h]
theorem cb_set (S : List Bool) (k : Nat) (b : Bool) : (cb S).setIfInBounds (k + 1) (.bool b) = cb (S.set k b) := by
  unfold cb
  rw [List.setIfInBounds_toArray, List.map_cons, List.set_cons_succ, List.map_cons, List.map_set]
theorem cb_first : (cb (List.replicate 9 false)).setIfInBounds 1 (.bool true) = cb first := cb_set _ 0 true
end PT
end Go.Proofs.YtdnobplhfbgbaaaGreatDoor
namespace Go.Proofs.YtdnobplhfbgbaaaGreatDoor
open Go.RowKit Go.Joins

set_option maxRecDepth 100000 in
set_option maxHeartbeats 8000000 in
theorem whole_any (v u : Value) (t : List PT.N) (w : World) (h : Ts w v t) (h9 : t.length = 9) (hs : Ks w u (PT.links t)) (hl : (PT.links t).length ≤ 1000000) : Calls Tryz.prog 61 #[v, u] w fun e w' => e = .returned (.bool (PT.wholeB t)) ∧ Below w.heap.size w w' := by
  have hin := fun x hx => PT.links_in t 9 x hx
  have hsw := fun S => PT.links_sweep t S 9 (Nat.le_of_eq h9.symm)
  rw [show PT.linksTo t 9 = PT.links t from rfl] at hin hsw
  obtain ⟨l, hll⟩ : ∃ l, PT.links t = l := ⟨_, rfl⟩
  rw [hll] at hs hl hin hsw
  obtain ⟨A, c, rfl⟩ := h.form
  obtain ⟨U, d, rfl⟩ := hs.form
  obtain ⟨L, hL⟩ : ∃ L, l.length = L := ⟨_, rfl⟩
  obtain ⟨R, hR⟩ : ∃ R, PT.wholeB t = R := ⟨_, rfl⟩
  rw [hR]
  have H := Lib.hid h
  have HS := Lib.hid hs
  rw [h9] at H ⊢
  rw [hL] at HS hl ⊢
  have HR := Lib.hid hR
  have HL := Lib.hid hL
  have HIN := Lib.hid hin
  have HSW := Lib.hid hsw
  have hb0 := al w (.cells (PT.cb (List.replicate 9 false)) 131)
  have hx0 := Bx.new w 131 (PT.cb (List.replicate 9 false))
  clear h hs hin hsw hll hL hR h9
  go_enter Tryz.func61, Tryz.ntmps61
  go_upto_region 2 with fail
  rw [show (#[Value.bool false, Value.bool false, Value.bool false, Value.bool false, Value.bool false, Value.bool false, Value.bool false, Value.bool false, Value.bool false, Value.bool false] : Array Value) = PT.cb (List.replicate 9 false) from rfl]
  generalize w.alloc (.cells (PT.cb (List.replicate 9 false)) 131) = w1 at *
  generalize hg : w.heap.size = g at *
  have f0 := hx0.frozen 1
  have c0 := hx0.cell 1
  rw [show (PT.cb (List.replicate 9 false))[1]? = some (.bool false) from rfl] at c0
  have hx1 := hx0.set 1 (.bool true)
  rw [PT.cb_first] at hx1
  have hb1 := hb0.setCell (p := ⟨g, 1, none⟩) (Nat.le_refl _) (.bool true)
  have HX := Lib.hid (And.intro hx1 hb1)
  clear hx0 hb0 hx1 hb1
  go_wp2
  have hx1 := HX.out.1
  have hb1 := HX.out.2
  generalize w1.setCell ⟨g, 1, none⟩ (.bool true) = w2 at *
  clear HX c0 f0
  go_loopw [13] (fun i wr => ∃ r : Nat, r ≤ 9 ∧ i = .int .i64 (r : Int) ∧ Bx wr g 131 (PT.cb (PT.iter (PT.sweep t 9) r PT.first)) ∧ Below g w wr) (fun i _ => 9 - (intOf i).toNat)
  case atStart => exact ⟨0, Nat.zero_le _, rfl, hx1, hb1⟩
  case round =>
    obtain ⟨r, hr, rfl, hx, hB⟩ := hrel
    by_cases hlt : r < 9
    · have hd : decide ((r : Int) < 9) = true := by simp; omega
      have hlS : (PT.iter (PT.sweep t 9) r PT.first).length = 9 := (PT.iter_sub (PT.sweep_sub t 9) (S := PT.first) r).1.symm
      have hnx : PT.iter (PT.sweep t 9) (r + 1) PT.first = l.foldl PT.one (PT.iter (PT.sweep t 9) r PT.first) := by rw [HSW.out]; rfl
      generalize PT.iter (PT.sweep t 9) r PT.first = S at *
      have HNX := Lib.hid hnx
      have HX := Lib.hid hx
      clear hnx hx
      go_wp2
      go_loopw [17] (fun i wq => ∃ q : Nat, q ≤ L ∧ i = .int .i64 (q : Int) ∧ Bx wq g 131 (PT.cb ((l.take q).foldl PT.one S)) ∧ Below g w wq) (fun i _ => L - (intOf i).toNat)
      case atStart => exact ⟨0, Nat.zero_le _, rfl, HX.out, hB⟩
      case round =>
        obtain ⟨q, hq, rfl, hx, hB'⟩ := hrel
        by_cases hql : q < L
        · have hd2 : decide ((q : Int) < (L : Int)) = true := by simp; omega
          obtain ⟨b0, o0, rfl, hb0, hcell⟩ := (HL.out ▸ HS.out.below (hg ▸ hB') : Ks wr (.slice U l.length d) l).at (by rw [HL.out]; omega)
          obtain ⟨x, hxx⟩ : ∃ x, l[q]? = some x := ⟨_, List.getElem?_eq_getElem (by rw [HL.out]; omega)⟩
          obtain ⟨g0, g1, g2, g3, g4, g5⟩ := hcell q x hxx
          have hnq : (l.take (q + 1)).foldl PT.one S = PT.one ((l.take q).foldl PT.one S) x := by rw [List.take_add_one, hxx]; simp
          have hlq : ((l.take q).foldl PT.one S).length = 9 := by rw [PT.one_fold]; exact hlS
          obtain ⟨⟨i1, i2⟩, i3, i4⟩ := HIN.out x (List.mem_of_getElem? hxx)
          generalize (l.take q).foldl PT.one S = S2 at *
          obtain ⟨⟨s, z⟩, ⟨kd, md, b⟩, p⟩ := x
          dsimp only at g0 g1 g2 g3 g4 g5 i1 i2 i3 i4
          obtain ⟨a, rfl⟩ : ∃ a : Nat, z = (a : Int) + 1 := ⟨(z - 1).toNat, by omega⟩
          obtain ⟨e, rfl⟩ : ∃ e : Nat, p = (e : Int) + 1 := ⟨(p - 1).toNat, by omega⟩
          have ha : PT.px ((a : Int) + 1) = a := by unfold PT.px; omega
          have he : PT.px ((e : Int) + 1) = e := by unfold PT.px; omega
          simp only [PT.one, ha, he] at hnq
          have hbn := hB'.alloc (hg ▸ hB'.size) (.cells #[.string s, .int .i64 ((a : Int) + 1), .int .i64 kd, .int .i64 md, .string b, .int .i64 ((e : Int) + 1)] 130)
          have hbx := Bx.new wr 130 #[.string s, .int .i64 ((a : Int) + 1), .int .i64 kd, .int .i64 md, .string b, .int .i64 ((e : Int) + 1)]
          have hx3 := hx.alloc (.cells #[.string s, .int .i64 ((a : Int) + 1), .int .i64 kd, .int .i64 md, .string b, .int .i64 ((e : Int) + 1)] 130)
          have hgl := hx.lt
          go_upto_region 8 with fail
          generalize wr.alloc (.cells #[.string s, .int .i64 ((a : Int) + 1), .int .i64 kd, .int .i64 md, .string b, .int .i64 ((e : Int) + 1)] 130) = w3 at *
          generalize hgx : wr.heap.size = gx at *
          obtain ⟨c0, c1, c2, c3, c4, c5⟩ := hbx.six
          have ca := (hx3.cell (a + 1)).trans (PT.cb_at (S := S2) (k := a) (by omega))
          have ce := (hx3.cell (e + 1)).trans (PT.cb_at (S := S2) (k := e) (by omega))
          have hst := fun b => (hx3.set (a + 1) (.bool b)).trans (by rw [PT.cb_set])
          have fa := hx3.frozen (a + 1)
          have HNQ := Lib.hid hnq
          have HST := Lib.hid hst
          have HBN := Lib.hid hbn
          have na : ((a : Int) + 1).toNat = a + 1 := by omega
          have ne : ((e : Int) + 1).toNat = e + 1 := by omega
          clear hnq hst hbn g0 g1 g2 g3 g4 g5 hcell hx hx3 hbx hxx ha he
          cases hga : PT.gb S2 a
          · rw [hga] at ca HNQ
            go_region
            go_wp2
            go_roundw
            case rel => exact ⟨q + 1, by omega, by go_num, by rw [HNQ.out]; exact HST.out _, (HBN.out.setCell (p := ⟨g, a + 1, none⟩) (Nat.le_refl _) _).drew⟩
            case measure => simp [intOf]; omega
          · rw [hga] at ca HNQ
            go_region
            go_wp2
            go_roundw
            case rel => exact ⟨q + 1, by omega, by go_num, by rw [HNQ.out]; exact HST.out true, (HBN.out.setCell (p := ⟨g, a + 1, none⟩) (Nat.le_refl _) _).drew⟩
            case measure => simp [intOf]; omega
        · have hqL : q = L := by omega
          subst hqL
          rw [List.take_of_length_le (by rw [HL.out]; exact Nat.le_refl _), ← HNX.out] at hx
          have HX2 := Lib.hid hx
          have hd2 : decide ((q : Int) < (q : Int)) = false := by simp
          clear hx
          go_wp2
          go_roundw
          case rel => exact ⟨r + 1, by omega, by go_num, HX2.out, hB'⟩
          case measure => simp [intOf]; omega
    · have hr9 : r = 9 := by omega
      rw [hr9, show PT.iter (PT.sweep t 9) 9 PT.first = PT.seen t from rfl] at hx
      have hlS : (PT.seen t).length = 9 := (PT.iter_sub (PT.sweep_sub t 9) (S := PT.first) 9).1.symm
      have hRR : ((List.range 9).all fun k : Nat => !(decide ((PT.atz t ((k : Int) + 1)).kind ≠ 0) && !PT.gb (PT.seen t) k)) = R := HR.out
      generalize PT.seen t = S at *
      have HX := Lib.hid hx
      have HRR := Lib.hid hRR
      have hd : decide ((r : Int) < 9) = false := by simp; omega
      clear hx hRR hr9 hr hlt
      go_wp2
      go_loopw [40] (fun i wr => ∃ k : Nat, k ≤ 9 ∧ i = .int .i64 (k : Int) ∧ ((List.range k).all fun k : Nat => !(decide ((PT.atz t ((k : Int) + 1)).kind ≠ 0) && !PT.gb S k)) = true ∧ Bx wr g 131 (PT.cb S) ∧ Below g w wr) (fun i _ => 9 - (intOf i).toNat)
      case atStart => exact ⟨0, Nat.zero_le _, rfl, by simp, HX.out, hB⟩
      case round =>
        obtain ⟨k, hk, rfl, hT, hx, hB'⟩ := hrel
        by_cases hlt : k < 9
        · have hd : decide ((k : Int) < 9) = true := by simp; omega
          have hw1 : IntKind.i64.wrap ((k : Int) + 1) = (k : Int) + 1 := by rw [IntKind.wrap_i64]; omega
          have hat := at_any _ t ((k : Int) + 1) wr (H.out.below (hg ▸ hB'))
          have hs1 : ((List.range (k + 1)).all fun k : Nat => !(decide ((PT.atz t ((k : Int) + 1)).kind ≠ 0) && !PT.gb S k)) = !(decide ((PT.atz t ((k : Int) + 1)).kind ≠ 0) && !PT.gb S k) := by
            rw [List.range_succ, List.all_append, hT]; simp
          have hn1 : (!(decide ((PT.atz t ((k : Int) + 1)).kind ≠ 0) && !PT.gb S k)) = false → R = false := fun h => by
            rw [← HRR.out, List.all_eq_false]
            exact ⟨k, List.mem_range.2 hlt, by simpa using h⟩
          have hth := there_any (PT.atz t ((k : Int) + 1))
          generalize PT.atz t ((k : Int) + 1) = n at *
          have hz1 : g ≤ wr.heap.size := hg ▸ hB'.size
          have hgl := hx.lt
          have na : ((k : Int) + 1).toNat = k + 1 := by omega
          have hca := fun W (hb : Below wr.heap.size wr W) => ((hx.on hb).cell (k + 1)).trans (PT.cb_at (S := S) (k := k) (by omega))
          obtain ⟨G, hG⟩ : ∃ G, PT.gb S k = G := ⟨_, rfl⟩
          obtain ⟨D, hD⟩ : ∃ D, decide (n.kind ≠ 0) = D := ⟨_, rfl⟩
          rw [hG, hD] at hs1 hn1
          rw [hG] at hca
          rw [hD] at hth
          have HTH := Lib.hid hth
          have HS1 := Lib.hid hs1
          have HN1 := Lib.hid hn1
          have HCA := Lib.hid hca
          have HX3 := Lib.hid hx
          clear hs1 hn1 hT hca hx hth hG hD
          have hend : ∀ W V, Below wr.heap.size wr W → Below W.heap.size W V → Below g w V ∧ Bx V g 131 (PT.cb S) := fun W V h1 h2 => by
            have h3 := h1.trans (h2.mono h1.size)
            exact ⟨hB'.trans (h3.mono hz1), HX3.out.on h3⟩
          have HEND := Lib.hid hend
          clear hend
          cases D
          · go_wp2_with (first | (go_at_call 104; refine ht1.mono ?_; rintro e wb ⟨rfl, hBb⟩) | (go_at_call 57; refine hat.mono ?_; rintro e wa ⟨rfl, hBa⟩; have ht1 := HTH.out wa))
            go_roundw
            case rel => exact ⟨k + 1, by omega, by go_num, HS1.out, (HEND.out _ _ hBa hBb).2, (HEND.out _ _ hBa hBb).1⟩
            case measure => simp [intOf]; omega
          · cases G
            · have hRf := HN1.out rfl
              subst hRf
              go_wp2_with (first | (go_at_call 104; refine ht1.mono ?_; rintro e wb ⟨rfl, hBb⟩; have hc1 := HCA.out wb (hBa.trans (hBb.mono hBa.size))) | (go_at_call 57; refine hat.mono ?_; rintro e wa ⟨rfl, hBa⟩; have ht1 := HTH.out wa))
              go_ret
              exact ⟨rfl, hg ▸ (HEND.out _ _ hBa hBb).1⟩
            · go_wp2_with (first | (go_at_call 104; refine ht1.mono ?_; rintro e wb ⟨rfl, hBb⟩; have hc1 := HCA.out wb (hBa.trans (hBb.mono hBa.size))) | (go_at_call 57; refine hat.mono ?_; rintro e wa ⟨rfl, hBa⟩; have ht1 := HTH.out wa))
              go_roundw
              case rel => exact ⟨k + 1, by omega, by go_num, HS1.out, (HEND.out _ _ hBa hBb).2, (HEND.out _ _ hBa hBb).1⟩
              case measure => simp [intOf]; omega
        · have hk9 : k = 9 := by omega
          subst hk9
          have hRt : R = true := HRR.out.symm.trans hT
          subst hRt
          clear hT
          go_wp2
          go_ret
          exact ⟨rfl, hg ▸ hB'⟩
end Go.Proofs.YtdnobplhfbgbaaaGreatDoor
