/-
  Contract: the document's ways, going down.
-/
import Derived.Test.YtniegpdllijjfaaGreatDoorVh
namespace Go.Proofs.YtniegpdllijjfaaGreatDoor
open Go.RowKit Go.Joins

namespace PT
/-- A way's text, of no names nothing. -/
def txt (p : List ByteArray) : ByteArray := PN.mk (p.flatMap fun x => 47 :: x.data.toList)
theorem txt_nil : txt [] = { data := #[] } := rfl
theorem txt_snoc (p : List ByteArray) (x : ByteArray) : txt (p ++ [x]) = txt p ++ { data := #[47] } ++ x := by
  apply ByteArray.ext
  simp [txt, PN.mk, ByteArray.data_append]
theorem join_txt : ∀ (x : ByteArray) (r : List ByteArray), 47 :: Lib.join ((x :: r).map (·.data.toList)) [47] = (x :: r).flatMap fun x => 47 :: x.data.toList
  | x, [] => by simp [Lib.join_one]
  | x, y :: r => by
    have := join_txt y r
    simp only [List.map_cons] at this ⊢
    rw [PN.join_cons_cons, List.flatMap_cons, ← this]
    rfl
theorem txt_path {p : List ByteArray} (h : p ≠ []) : PN.path p = txt p := by
  cases p with
  | nil => exact absurd rfl h
  | cons x r => rw [PN.path, join_txt, txt]
theorem txt_size {p : List ByteArray} (h : ∀ x ∈ p, x.size ≤ 6) : (txt p).size ≤ 7 * p.length := by
  rw [Lib.size_eq, txt, PN.mk_data]
  induction p with
  | nil => simp
  | cons x r ih =>
    have h1 := h x (by simp)
    have h2 := ih fun y hy => h y (by simp [hy])
    rw [Lib.size_eq] at h1
    simp only [List.flatMap_cons, List.length_append, List.length_cons] at h2 ⊢
    omega
theorem Way.small {t : List N} {p : List ByteArray} {k : Nat} (h : Way t p k) : ∀ x ∈ p, x.size ≤ 6 := by
  intro x hx
  have := PN.own_pos (PN.ok_own (h.own x hx))
  rw [Lib.size_eq]; exact this.2
theorem Fine.txt_small {t : List N} (g : Fine t) {p : List ByteArray} {k : Nat} (h : Way t p k) : (txt p).size ≤ 56 := by
  have h1 := txt_size h.small
  have h2 := g.way_length h
  omega
/-- The part of the ways that the first m entries give. -/
def dpart (t : List N) (f k : Nat) (p : List ByteArray) (j m : Nat) : List ByteArray := (((names t k).take m).flatMap fun e => (if ix e = j then [p ++ [e.1]] else []) ++ down t f (ix e) (p ++ [e.1]) j).map txt
theorem dpart_all (t : List N) (f k : Nat) (p : List ByteArray) (j : Nat) : dpart t f k p j (names t k).length = (down t (f + 1) k p j).map txt := by
  rw [dpart, List.take_of_length_le (Nat.le_refl _), down]
theorem dpart_zero (t : List N) (f k : Nat) (p : List ByteArray) (j : Nat) : dpart t f k p j 0 = [] := rfl
theorem dpart_yes {t : List N} {f k : Nat} {p : List ByteArray} {j m : Nat} {e : E} (h : (names t k)[m]? = some e) (hj : ix e = j) : dpart t f k p j (m + 1) = (dpart t f k p j m ++ [txt (p ++ [e.1])]) ++ (down t f (ix e) (p ++ [e.1]) j).map txt := by
  unfold dpart
  rw [List.take_add_one, h]
  simp [hj]
theorem dpart_no {t : List N} {f k : Nat} {p : List ByteArray} {j m : Nat} {e : E} (h : (names t k)[m]? = some e) (hj : ix e ≠ j) : dpart t f k p j (m + 1) = dpart t f k p j m ++ (down t f (ix e) (p ++ [e.1]) j).map txt := by
  unfold dpart
  rw [List.take_add_one, h]
  simp [hj]
theorem dpart_le (t : List N) (f k : Nat) (p : List ByteArray) (j m : Nat) : (dpart t f k p j m).length ≤ ((down t (f + 1) k p j).map txt).length := by
  rw [← dpart_all]
  unfold dpart
  rw [List.take_of_length_le (Nat.le_refl (names t k).length), List.length_map, List.length_map]
  conv => rhs; rw [← List.take_append_drop m (names t k), List.flatMap_append, List.length_append]
  omega
theorem Fine.named_few {t : List N} (g : Fine t) (j : Nat) : named t j ≤ 1080 := by
  rw [← cntL_links g.len j]
  exact Nat.le_trans (cntL_le _ _) (links_few g)
theorem Fine.down_few {t : List N} (g : Fine t) {p : List ByteArray} {k : Nat} (h : Way t p k) (f j : Nat) : ((down t f k p j).map txt).length ≤ 1080 := by
  rw [List.length_map]
  refine Nat.le_trans (nodup_sub (m := down t 9 0 [] j) (down_nodup t f k p j) fun q hq => ?_) (by rw [g.ways_length]; exact g.named_few j)
  obtain ⟨r, rfl, h1, _, h2⟩ := down_mem.1 hq
  exact g.all_ways.2 ⟨by simp [h1], Leads.way h h2⟩
end PT

set_option maxRecDepth 100000 in
set_option maxHeartbeats 16000000 in
theorem rways_any {t : List PT.N} (g : PT.Fine t) (z : Int) (j : Nat) (hj : ∀ (k : Nat) e, e ∈ PT.names t k → (e.2 = z ↔ PT.ix e = j)) : ∀ (f d : Nat), d + f = 9 → ∀ (k : Nat) (p : List ByteArray) (v : Value) (w : World), PT.Way t p k → Ts w v t → Calls Tryz.prog 48 #[v, .int .i64 ((k + 1 : Nat) : Int), .int .i64 z, .string (PT.txt p), .int .i64 (d : Int)] w fun e w' => ∃ v', e = .returned v' ∧ Ro w' w.heap.size v' ((PT.down t f k p j).map PT.txt) ∧ Below w.heap.size w w'
  | 0, d, hdf, k, p, v, w, hW, hT => by
    obtain rfl : d = 9 := by omega
    obtain ⟨n, hn, _⟩ := g.way_there hW
    have hk : k ≤ 1000000 := by have := (List.getElem?_eq_some_iff.1 hn).1; rw [g.len] at this; omega
    have hnm := names_any v t k w hT hk
    rw [show (PT.down t 0 k p j).map PT.txt = [] from rfl]
    generalize PT.txt p = P at *
    clear hT hn
    go_enter Tryz.func48, Tryz.ntmps48
    go_wp2_with (go_at_call 30; refine hnm.mono ?_; rintro e w1 ⟨v1, rfl, hO, hFt, hB1⟩)
    obtain ⟨Am, cm, rfl, _⟩ := hO.cap
    have hm := hFt.2
    generalize PT.names t k = m at *
    generalize m.length = M at *
    clear hnm hO hFt
    go_loopw [11, 13] (fun o i wr => o = .slice none 0 0 ∧ i = .int .i64 0 ∧ Below w1.heap.size w1 wr) (fun _ _ _ => 0)
    case atStart => exact ⟨rfl, rfl, Below.refl _ _⟩
    case round =>
      obtain ⟨rfl, rfl, hB⟩ := hrel
      have hb := hB1.trans (hB.mono hB1.size)
      by_cases hM : 0 < M
      · have hd : decide ((0 : Int) < (M : Int)) = true := by simp; omega
        go_wp2
        go_ret
        exact ⟨_, rfl, World.ownsRow_nil _ _ _ _, hb⟩
      · have hd : decide ((0 : Int) < (M : Int)) = false := by simp; omega
        go_wp2
        go_ret
        exact ⟨_, rfl, World.ownsRow_nil _ _ _ _, hb⟩
  | f + 1, d, hdf, k, p, v, w, hW, hT => by
    obtain ⟨i0, hi, hz0, hz1, hz2⟩ := info_parts Tryz.info9
    obtain ⟨n, hn, _⟩ := g.way_there hW
    have hk : k ≤ 1000000 := by have := (List.getElem?_eq_some_iff.1 hn).1; rw [g.len] at this; omega
    have hnm := names_any v t k w hT hk
    have ih := rways_any g z j hj f (d + 1) (by omega)
    have hps := g.txt_small hW
    have hmem : ∀ e ∈ PT.names t k, e ∈ PT.names t k := fun e h => h
    have hstep : ∀ e ∈ PT.names t k, (e.2 = z ↔ PT.ix e = j) ∧ e.2 = ((PT.ix e + 1 : Nat) : Int) ∧ PT.Way t (p ++ [e.1]) (PT.ix e) ∧ e.1.size ≤ 6 ∧ ((PT.down t f (PT.ix e) (p ++ [e.1]) j).map PT.txt).length ≤ 1080 := fun e he =>
      ⟨hj k e he, PT.ix_int he, .step hW he, (PT.Way.step hW he).small e.1 (by simp), g.down_few (.step hW he) f j⟩
    have hsn := fun e => PT.txt_snoc p e
    have hyes := fun m e => @PT.dpart_yes t f k p j m e
    have hno := fun m e => @PT.dpart_no t f k p j m e
    have hle := fun m => Nat.le_trans (PT.dpart_le t f k p j m) (g.down_few hW (f + 1) j)
    have hall := PT.dpart_all t f k p j
    have h0 := PT.dpart_zero t f k p j
    rw [← hall]
    generalize PT.dpart t f k p j = F at *
    obtain ⟨R, hR⟩ : ∃ R, F (PT.names t k).length = R := ⟨_, rfl⟩
    rw [hR]
    have hd9 : (d : Int) < 9 := by omega
    obtain ⟨T, TC, rfl⟩ := hT.form
    obtain ⟨TL, hTL⟩ : ∃ TL, t.length = TL := ⟨_, rfl⟩
    rw [hTL] at hnm hT ⊢
    have HT0 := Lib.hid hT
    clear hT hn hj hall hW hTL g
    go_enter Tryz.func48, Tryz.ntmps48
    go_wp2_with (go_at_call 30; refine hnm.mono ?_; rintro e w1 ⟨v1, rfl, hO, hFt, hB1⟩)
    have hE := hO.row hFt
    have HT := Lib.hid (HT0.out.below hB1)
    obtain ⟨Am, cm, rfl⟩ := hE.form
    have hml := hE.2.2
    generalize PT.names t k = m at *
    obtain ⟨M, hM⟩ : ∃ M, m.length = M := ⟨_, rfl⟩
    rw [hM] at hE hml hR ⊢
    have HR := Lib.hid hR
    have HE := Lib.hid hE
    have HM := Lib.hid hM
    have HS := Lib.hid (And.intro hstep (And.intro hsn (And.intro hyes (And.intro hno (And.intro hle ih)))))
    clear hR hnm hO hFt hE hM hstep hmem HT0 hsn hyes hno hle ih
    generalize PT.txt p = P at *
    go_loopw [11, 13] (fun o i wr => ∃ q : Nat, q ≤ M ∧ i = .int .i64 (q : Int) ∧ Ro wr w1.heap.size o (F q) ∧ Below w1.heap.size w1 wr) (fun _ i _ => M - (intOf i).toNat)
    case atStart => exact ⟨0, Nat.zero_le _, rfl, by rw [h0]; exact World.ownsRow_nil _ _ _ _, Below.refl _ _⟩
    case round =>
      obtain ⟨q, hqM, rfl, hO, hB⟩ := hrel
      by_cases hlt : q < M
      · have hd : decide ((q : Int) < (M : Int)) = true := by simp; omega
        have hd2 : decide ((d : Int) < 9) = true := by simp; omega
        obtain ⟨b1, o1, rfl, hb1, hcell⟩ := HE.out.at (by rw [HM.out]; omega)
        obtain ⟨x, hx⟩ : ∃ x, m[q]? = some x := ⟨_, List.getElem?_eq_getElem (by rw [HM.out]; omega)⟩
        obtain ⟨g0, g1⟩ := hcell q x hx
        obtain ⟨h1, h2, h3, h4, h5⟩ := HS.out.1 x (List.mem_of_getElem? hx)
        have h6 := HS.out.2.1 x.1
        have hyes := HS.out.2.2.1 q x hx
        have hno := HS.out.2.2.2.1 q x hx
        have hle := HS.out.2.2.2.2.1 q
        have ih := fun v W => HS.out.2.2.2.2.2 (PT.ix x) (p ++ [x.1]) v W h3
        generalize (PT.down t f (PT.ix x) (p ++ [x.1]) j).map PT.txt = DX at *
        rw [h6] at hyes ih
        generalize PT.ix x = kx at *
        obtain ⟨s, y⟩ := x
        dsimp only at g0 g1 h1 h2 h4 h6 hyes hno ih
        subst h2
        have hw1 : IntKind.i64.wrap ((d : Int) + 1) = (d : Int) + 1 := by rw [IntKind.wrap_i64]; omega
        rw [show ((d + 1 : Nat) : Int) = (d : Int) + 1 by omega] at ih
        have hs1 : ¬ 9223372036854775807 < P.size + 1 := by omega
        have hs2 : ¬ 9223372036854775807 < (P ++ ({ data := #[47] } : ByteArray)).size + s.size := by rw [ByteArray.size_append, show ({ data := #[47] } : ByteArray).size = 1 from rfl]; omega
        have IH := Lib.hid ih
        have hc0 := (hB.cell (p := ⟨b1, o1 + q * 2, none⟩) hb1).trans g0
        have hc1 := (hB.cell (p := ⟨b1, o1 + q * 2 + 1, none⟩) hb1).trans g1
        have hcg : ∀ W, Below w1.heap.size w1 W → W.cell? ⟨b1, o1 + q * 2 + 1, none⟩ = some (.int .i64 ((kx + 1 : Nat) : Int)) := fun W hb => (hb.cell (p := ⟨b1, o1 + q * 2 + 1, none⟩) hb1).trans g1
        have HCG := Lib.hid hcg
        have HO := Lib.hid hO
        have hlF : (F q).length ≤ 1080 := hle
        clear h3 h6 hx hcell ih hcg g0 g1 hle
        obtain ⟨Ao, co, rfl⟩ := own_form hO
        clear hO
        generalize hTX : P ++ { data := #[47] } ++ s = TX at *
        by_cases hz : ((kx + 1 : Nat) : Int) = z
        · have HY := Lib.hid (hyes (h1.1 hz))
          have ih := IH.out
          have hcg := HCG.out
          rw [hz] at ih hcg hc1
          clear IH HCG
          have IH := Lib.hid ih
          have HCG := Lib.hid hcg
          have HZ := Lib.hid hz
          have HBr := Lib.hid hB
          have hBa := hB.alloc hB.size (.cells #[.string TX] 9)
          have HBa := Lib.hid hBa
          have hlx : (F q ++ [TX]).length + DX.length ≤ 100000 := by simp; omega
          clear hyes hno h1 hB hBa ih hcg hz
          go_wp2_with (at_builtin; refine wpList_append_sl rfl _ _ 34 rfl w1.heap.size 9 i0 (.string { data := #[] }) 1 16 Tryz.underlying34 hi hz0 hz1 hz2 rfl (by decide) _ (F q).length ((F q).map Value.string) rfl (HO.out.on (al _ _)) (some ⟨wr.heap.size, 0, none⟩) 1 1 [.string TX] rfl (Sl.own (own_one _ wr.heap.size _ _ (Nat.le_refl _) (Bx.new wr 9 _))) ?q1 ?q2 ?q3 ?q4 ?_)
          case q1 => intro r hr; simp at hr; subst hr; rfl
          case q2 => unfold maxLen; omega
          case q3 => omega
          case q4 => exact HBa.out.size
          intro v2 w2 hown hgrow
          have hcut0 : ∀ k, (Value.slice Ao (F q).length co).ownBlock = some k → w1.heap.size ≤ k := fun k hk => own_ge HO.out hk
          have HBX := Lib.hid (HBa.out.grown hgrow HBa.out.size hcut0)
          have hOX : Ro w2 w1.heap.size v2 (F q ++ [TX]) := by
            unfold Ro
            rw [List.length_append, List.map_append]
            exact hown
          have hc2 := HCG.out w2 HBX.out
          clear HO
          have hY := HY.out
          generalize F q ++ [TX] = UX at *
          have HY2 := Lib.hid hY
          have HO := Lib.hid hOX
          clear HY hY
          have HY := HY2
          clear hown hgrow hOX hc0 hc1 hcut0
          obtain ⟨Ao2, co2, rfl⟩ := own_form HO.out
          have hq := IH.out (.slice T TL TC) w2 (HT.out.below HBX.out)
          go_wp2_with fail
          refine hq.mono ?_
          rintro e w3 ⟨v3, rfl, hO3, hB3⟩
          obtain ⟨A3, e3, rfl⟩ := own_form hO3
          have hO4 := HO.out.on hB3
          have hb3 := HBX.out.trans (hB3.mono HBX.out.size)
          have hz3 := hb3.size
          have hRow := Sl.own hO3
          unfold Ro at hO4
          obtain ⟨n0, hn0⟩ : ∃ n0, UX.length = n0 := ⟨_, rfl⟩
          obtain ⟨n1, hn1⟩ : ∃ n1, DX.length = n1 := ⟨_, rfl⟩
          rw [hn0] at hO4 hlx ⊢
          rw [hn1] at hRow hlx ⊢
          have HN0 := Lib.hid (And.intro hn0 hn1)
          have hcut : ∀ k, (Value.slice Ao2 n0 co2).ownBlock = some k → w1.heap.size ≤ k := fun k hk => own_ge hO4 hk
          clear hn0 hn1 hq hO3
          go_wp2_with (at_builtin; refine wpList_append_sl rfl _ _ 34 rfl w1.heap.size 9 i0 (.string { data := #[] }) 1 16 Tryz.underlying34 hi hz0 hz1 hz2 rfl (by decide) _ n0 (UX.map Value.string) rfl hO4 A3 n1 e3 (DX.map Value.string) rfl hRow ?r1 ?r2 ?r3 ?r4 ?_)
          case r1 => first | (intro r _; rfl) | (intro r hr; obtain ⟨q, _, rfl⟩ := List.mem_map.1 hr; rfl)
          case r2 => unfold maxLen; omega
          case r3 => omega
          case r4 => omega
          intro v4 w4 hown4 hgrow4
          have hb4 : Below w1.heap.size w1 w4 := hb3.grown hgrow4 hz3 hcut
          have hR4 : Ro w4 w1.heap.size v4 (F (q + 1)) := by
            rw [HY.out]
            unfold Ro
            rw [List.length_append, HN0.out.1, HN0.out.2, List.map_append]
            exact hown4
          have HR4 := Lib.hid hR4
          clear hown4 hgrow4 hR4 hO4 hRow
          go_wp2
          go_roundw
          case rel => exact ⟨q + 1, by omega, by go_num, HR4.out, hb4⟩
          case measure => simp [intOf]; omega
        · have HY := Lib.hid (hno fun e => hz (h1.2 e))
          have hzz : (((kx + 1 : Nat) : Int) == z) = false := by simpa using hz
          have HBX := Lib.hid hB
          have hlx : (F q).length + DX.length ≤ 100000 := by omega
          clear hyes hno h1 hB hz
          have hq := IH.out (.slice T TL TC) wr (HT.out.below HBX.out)
          go_wp2_with fail
          refine hq.mono ?_
          rintro e w3 ⟨v3, rfl, hO3, hB3⟩
          obtain ⟨A3, e3, rfl⟩ := own_form hO3
          have hO4 := HO.out.on hB3
          have hb3 := HBX.out.trans (hB3.mono HBX.out.size)
          have hz3 := hb3.size
          have hRow := Sl.own hO3
          unfold Ro at hO4
          obtain ⟨n0, hn0⟩ : ∃ n0, (F q).length = n0 := ⟨_, rfl⟩
          obtain ⟨n1, hn1⟩ : ∃ n1, DX.length = n1 := ⟨_, rfl⟩
          rw [hn0] at hO4 hlx ⊢
          rw [hn1] at hRow hlx ⊢
          have HN0 := Lib.hid (And.intro hn0 hn1)
          have hcut : ∀ k, (Value.slice Ao n0 co).ownBlock = some k → w1.heap.size ≤ k := fun k hk => own_ge hO4 hk
          clear hn0 hn1 hq hO3
          go_wp2_with (at_builtin; refine wpList_append_sl rfl _ _ 34 rfl w1.heap.size 9 i0 (.string { data := #[] }) 1 16 Tryz.underlying34 hi hz0 hz1 hz2 rfl (by decide) _ n0 ((F q).map Value.string) rfl hO4 A3 n1 e3 (DX.map Value.string) rfl hRow ?r1 ?r2 ?r3 ?r4 ?_)
          case r1 => first | (intro r _; rfl) | (intro r hr; obtain ⟨q, _, rfl⟩ := List.mem_map.1 hr; rfl)
          case r2 => unfold maxLen; omega
          case r3 => omega
          case r4 => omega
          intro v4 w4 hown4 hgrow4
          have hb4 : Below w1.heap.size w1 w4 := hb3.grown hgrow4 hz3 hcut
          have hR4 : Ro w4 w1.heap.size v4 (F (q + 1)) := by
            rw [HY.out]
            unfold Ro
            rw [List.length_append, HN0.out.1, HN0.out.2, List.map_append]
            exact hown4
          have HR4 := Lib.hid hR4
          clear hown4 hgrow4 hR4 hO4 hRow
          go_wp2
          go_roundw
          case rel => exact ⟨q + 1, by omega, by go_num, HR4.out, hb4⟩
          case measure => simp [intOf]; omega
      · have hqM' : q = M := by omega
        rw [hqM'] at hO
        have HO := Lib.hid hO
        have hd : decide ((q : Int) < (M : Int)) = false := by simp; omega
        have hb := hB1.trans (hB.mono hB1.size)
        have hbs := hB1.size
        clear hO hqM'
        go_wp2
        go_ret
        exact ⟨_, rfl, by rw [← HR.out]; exact HO.out.base hbs, hb⟩
end Go.Proofs.YtniegpdllijjfaaGreatDoor
