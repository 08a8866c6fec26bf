/-
  Contracts: tree's links, count.
  Contracts: tree's lead, Links.
-/
import Derived.Test.YtdnobplhfbgbaaaGreatDoorUr
namespace Go.Proofs.YtdnobplhfbgbaaaGreatDoor
open Go.RowKit Go.Joins

/-- All entries of the first k folders. -/
def PT.linksTo (t : List PT.N) (k : Nat) : List Lk := (List.range k).flatMap fun i : Nat => PT.inside t ((i : Int) + 1)
def PT.links (t : List PT.N) : List Lk := PT.linksTo t 9
theorem PT.linksTo_succ (t : List PT.N) (k : Nat) : PT.linksTo t (k + 1) = PT.linksTo t k ++ PT.inside t ((k : Int) + 1) := by
  rw [PT.linksTo, List.range_succ, List.flatMap_append]
  simp [PT.linksTo]
theorem lks_cell (l : List Lk) : ∀ u ∈ lks l, u.oneCell' = true := by
  intro u hu
  obtain ⟨x, _, hx⟩ := List.mem_flatMap.1 hu
  simp [lv] at hx
  rcases hx with rfl | rfl | rfl | rfl | rfl | rfl <;> rfl
set_option maxRecDepth 100000 in
set_option maxHeartbeats 4000000 in
theorem tlinks_any (v : Value) (t : List PT.N) (w : World) (h : Ts w v t) (h9 : t.length = 9) : Calls Tryz.prog 59 #[v] w fun e w' => ∃ v', e = .returned v' ∧ Ko w' w.heap.size v' (PT.links t) ∧ (PT.links t).length ≤ 1000000 ∧ Below w.heap.size w w' := by
  obtain ⟨i0, hi, hz0, hz1, hz2⟩ := info_parts Tryz.info130
  obtain ⟨A, c, rfl⟩ := h.form
  have HT := Lib.hid h
  rw [h9] at HT ⊢
  clear h
  go_enter Tryz.func59, Tryz.ntmps59
  go_wp2
  go_loopw [3, 7] (fun o i wr => ∃ k : Nat, k ≤ 9 ∧ i = .int .i64 (k : Int) ∧ Ko wr w.heap.size o (PT.linksTo t k) ∧ (PT.linksTo t k).length ≤ k * 65536 ∧ Below w.heap.size w wr) (fun _ i _ => 9 - (intOf i).toNat)
  case atStart => exact ⟨0, Nat.zero_le _, rfl, Ko.nil _ _, Nat.le_refl _, Below.refl _ _⟩
  case round =>
    obtain ⟨k, hk, rfl, hO, hlen, hB⟩ := hrel
    by_cases hlt : k < 9
    · have hd : decide ((k : Int) < 9) = true := by simp; omega
      have hw1 : IntKind.i64.wrap ((k : Int) + 1) = (k : Int) + 1 := by rw [IntKind.wrap_i64]; omega
      have hin := inside_any _ t ((k : Int) + 1) wr (HT.out.below hB)
      have hnx := PT.linksTo_succ t k
      generalize PT.inside t ((k : Int) + 1) = I at *
      generalize PT.linksTo t k = L at *
      obtain ⟨Ao, co, rfl⟩ := own_form hO
      have HO := Lib.hid hO
      have HNX := Lib.hid hnx
      have HIN := Lib.hid hin
      clear hO hnx hin
      go_wp2_with fail
      refine HIN.out.mono ?_
      rintro e w1 ⟨v1, rfl, hI, hIl, hB1⟩
      obtain ⟨Ai, ci, rfl⟩ := own_form hI
      have hO1 := HO.out.on hB1
      have hb1 := hB.trans (hB1.mono hB.size)
      have zW := hb1.size
      unfold Ko at hO1
      generalize hXS : lks L = XS at *
      have hX2 : XS.length = L.length * 6 := by rw [← hXS, lks_length]
      have HXS := Lib.hid hXS
      clear hXS HIN
      go_wp2_with (at_builtin; refine wpList_append_sl rfl _ _ 80 rfl w.heap.size 130 i0 (.agg #[.string { data := #[] }, .int .i64 0, .int .i64 0, .int .i64 0, .string { data := #[] }, .int .i64 0]) 6 64 Tryz.underlying80 hi hz0 hz1 hz2 rfl (by decide) _ L.length XS rfl hO1 Ai I.length ci (lks I) rfl hI.row (lks_cell I) ?q2 ?q3 ?q4 ?_)
      case q2 => unfold maxLen; omega
      case q3 => omega
      case q4 => first | omega | (simp; omega)
      intro v' w2 hown hgrow
      have hb2 : Below w.heap.size w w2 := hb1.grown hgrow zW (fun k hk => own_ge hO1 hk)
      have hown' : Ko w2 w.heap.size v' (PT.linksTo t (k + 1)) := by
        rw [HNX.out]
        unfold Ko
        rw [List.length_append, lks_append, HXS.out]
        exact hown
      have hlen' : (PT.linksTo t (k + 1)).length ≤ (k + 1) * 65536 := by rw [HNX.out, List.length_append]; omega
      have HW := Lib.hid (And.intro hown' hlen')
      clear hown hown' hgrow hO1 hI hlen'
      go_wp2
      go_roundw
      case rel => exact ⟨k + 1, by omega, by go_num, HW.out.1, HW.out.2, hb2⟩
      case measure => simp [intOf]; omega
    · have hkn : k = 9 := by omega
      subst hkn
      have HO := Lib.hid hO
      have hd : decide ((9 : Int) < 9) = false := by simp
      clear hO
      go_wp2
      go_ret
      exact ⟨_, rfl, HO.out, by unfold PT.links; omega, hB⟩
def cntL (l : List Lk) (y : Int) : Nat := l.countP fun x => decide (x.1.2 = y)
theorem cntL_snoc {l : List Lk} {k : Nat} {x : Lk} (y : Int) (h : l[k]? = some x) : cntL (l.take (k + 1)) y = cntL (l.take k) y + if x.1.2 = y then 1 else 0 := by
  rw [List.take_add_one, h, cntL, cntL, List.countP_append]
  by_cases e : x.1.2 = y <;> simp [e]
theorem cntL_le (l : List Lk) (y : Int) : cntL l y ≤ l.length := List.countP_le_length
theorem Bx.six {w : World} {g : Nat} {s b : ByteArray} {y k m z : Int} (h : Bx w g 130 #[.string s, .int .i64 y, .int .i64 k, .int .i64 m, .string b, .int .i64 z]) : w.cell? ⟨g, 0, none⟩ = some (.string s) ∧ w.cell? ⟨g, 1, none⟩ = some (.int .i64 y) ∧ w.cell? ⟨g, 2, none⟩ = some (.int .i64 k) ∧ w.cell? ⟨g, 3, none⟩ = some (.int .i64 m) ∧ w.cell? ⟨g, 4, none⟩ = some (.string b) ∧ w.cell? ⟨g, 5, none⟩ = some (.int .i64 z) := ⟨h.cell 0, h.cell 1, h.cell 2, h.cell 3, h.cell 4, h.cell 5⟩
set_option maxRecDepth 100000 in
set_option maxHeartbeats 4000000 in
theorem count_any (v : Value) (l : List Lk) (y : Int) (w : World) (h : Ks w v l) (hl : l.length ≤ 1000000) : Calls Tryz.prog 66 #[.int .i64 y, v] w fun e w' => e = .returned (.int .i64 (cntL l y : Nat)) ∧ Below w.heap.size w w' := by
  obtain ⟨A, c, rfl⟩ := h.form
  have HS := Lib.hid h
  obtain ⟨L, hL⟩ : ∃ L, l.length = L := ⟨_, rfl⟩
  rw [hL] at HS hl ⊢
  have HL := Lib.hid hL
  clear h hL
  go_enter Tryz.func66, Tryz.ntmps66
  go_wp2
  go_loopw [5, 10] (fun n i wr => ∃ k : Nat, k ≤ L ∧ i = .int .i64 (k : Int) ∧ n = .int .i64 (cntL (l.take k) y : Nat) ∧ Below w.heap.size w wr) (fun _ i _ => L - (intOf i).toNat)
  case atStart => exact ⟨0, Nat.zero_le _, rfl, rfl, Below.refl _ _⟩
  case round =>
    obtain ⟨k, hk, rfl, rfl, hB⟩ := hrel
    by_cases hlt : k < L
    · obtain ⟨b0, o0, rfl, hb0, hcell⟩ := (HL.out ▸ HS.out.below hB : Ks wr (.slice A l.length c) l).at (by rw [HL.out]; omega)
      obtain ⟨x, hx⟩ : ∃ x, l[k]? = some x := ⟨_, List.getElem?_eq_getElem (by rw [HL.out]; omega)⟩
      obtain ⟨g0, g1, g2, g3, g4, g5⟩ := hcell k x hx
      have hs1 := cntL_snoc y hx
      have hc0 := Nat.le_trans (cntL_le (l.take k) y) (by rw [List.length_take]; exact Nat.min_le_left _ _)
      obtain ⟨⟨s, z⟩, ⟨kd, md, b⟩, p⟩ := x
      dsimp only at g0 g1 g2 g3 g4 g5 hs1
      have hd : decide ((k : Int) < (L : Int)) = true := by simp; omega
      have hbn := hB.alloc hB.size (.cells #[.string s, .int .i64 z, .int .i64 kd, .int .i64 md, .string b, .int .i64 p] 130)
      have hbx := Bx.new wr 130 #[.string s, .int .i64 z, .int .i64 kd, .int .i64 md, .string b, .int .i64 p]
      generalize cntL (l.take k) y = n at *
      go_upto_region 5 with fail
      generalize wr.alloc (.cells #[.string s, .int .i64 z, .int .i64 kd, .int .i64 md, .string b, .int .i64 p] 130) = w1 at *
      generalize hgx : wr.heap.size = gx at *
      obtain ⟨c0, c1, c2, c3, c4, c5⟩ := hbx.six
      clear hcell hx g0 g1 g2 g3 g4 g5
      have hwn : IntKind.i64.wrap ((n : Int) + 1) = ((n + 1 : Nat) : Int) := by rw [IntKind.wrap_i64]; omega
      by_cases hz : z = y
      · subst hz
        rw [if_pos rfl] at hs1
        have HS1 := Lib.hid hs1
        clear hs1
        go_wp2
        go_roundw
        case rel => exact ⟨k + 1, by omega, by go_num, by rw [HS1.out]; go_num, hbn⟩
        case measure => simp [intOf]; omega
      · rw [if_neg hz] at hs1
        have hz' : (z == y) = false := by simpa using hz
        have HS1 := Lib.hid hs1
        clear hs1 hz
        go_wp2
        go_roundw
        case rel => exact ⟨k + 1, by omega, by go_num, by rw [HS1.out]; rfl, hbn⟩
        case measure => simp [intOf]; omega
    · have hkL : k = L := by omega
      subst hkL
      have ht : l.take k = l := List.take_of_length_le (by rw [HL.out]; exact Nat.le_refl _)
      have hd : decide ((k : Int) < (k : Int)) = false := by simp
      rw [ht]
      clear ht
      go_wp2
      go_ret
      exact ⟨rfl, hB⟩
end Go.Proofs.YtdnobplhfbgbaaaGreatDoor
namespace Go.Proofs.YtdnobplhfbgbaaaGreatDoor
open Go.RowKit Go.Joins

/-- Whether a link leads where it may. -/
def leadB (l : List Lk) (x : Lk) : Bool := !decide (x.1.2 = 1) && (decide (x.2.1.kind ≠ 0) && !(decide (x.2.1.kind = 2) && decide (1 < cntL l x.1.2)))
set_option maxRecDepth 100000 in
set_option maxHeartbeats 4000000 in
theorem lead_any (v : Value) (l : List Lk) (w : World) (h : Ks w v l) (hl : l.length ≤ 1000000) : Calls Tryz.prog 60 #[v] w fun e w' => e = .returned (.bool (l.all (leadB l))) ∧ Below w.heap.size w w' := by
  obtain ⟨A, c, rfl⟩ := h.form
  have HS := Lib.hid h
  obtain ⟨L, hL⟩ : ∃ L, l.length = L := ⟨_, rfl⟩
  obtain ⟨R, hR⟩ : ∃ R, l.all (leadB l) = R := ⟨_, rfl⟩
  rw [hR]
  rw [hL] at HS ⊢
  have HR := Lib.hid hR
  have HL := Lib.hid hL
  have HLL := Lib.hid hl
  rw [hL] at hl
  clear h hL hR
  go_enter Tryz.func60, Tryz.ntmps60
  go_wp2
  go_loopw [7] (fun i wr => ∃ k : Nat, k ≤ L ∧ i = .int .i64 (k : Int) ∧ (l.take k).all (leadB l) = true ∧ Below w.heap.size w wr) (fun i _ => L - (intOf i).toNat)
  case atStart => exact ⟨0, Nat.zero_le _, rfl, by simp, Below.refl _ _⟩
  case round =>
    obtain ⟨k, hk, rfl, hT, hB⟩ := hrel
    by_cases hlt : k < L
    · have hcn := fun (y : Int) (W : World) (hb : Below w.heap.size w W) => count_any _ l y W (HS.out.below hb) HLL.out
      have HCN := Lib.hid hcn
      obtain ⟨b0, o0, rfl, hb0, hcell⟩ := (HL.out ▸ HS.out.below hB : Ks wr (.slice A l.length c) l).at (by rw [HL.out]; omega)
      obtain ⟨x, hx⟩ : ∃ x, l[k]? = some x := ⟨_, List.getElem?_eq_getElem (by rw [HL.out]; omega)⟩
      obtain ⟨g0, g1, g2, g3, g4, g5⟩ := hcell k x hx
      have hs1 := all_snoc (leadB l) hx
      have hn1 := all_not (p := leadB l) hx
      rw [hT, Bool.true_and] at hs1
      rw [HR.out] at hn1
      obtain ⟨S, hS⟩ : ∃ S, leadB l x = S := ⟨_, rfl⟩
      rw [hS] at hs1 hn1
      obtain ⟨⟨s, z⟩, ⟨kd, md, b⟩, p⟩ := x
      dsimp only at g0 g1 g2 g3 g4 g5
      dsimp only [leadB] at hS
      have hth := there_any ⟨kd, md, b⟩
      have hfo := folder_any ⟨kd, md, b⟩
      have HTH := Lib.hid hth
      have HFO := Lib.hid hfo
      have hd : decide ((k : Int) < (L : Int)) = true := by simp; omega
      have hbn := hB.alloc hB.size (.cells #[.string s, .int .i64 z, .int .i64 kd, .int .i64 md, .string b, .int .i64 p] 130)
      have hbx := Bx.new wr 130 #[.string s, .int .i64 z, .int .i64 kd, .int .i64 md, .string b, .int .i64 p]
      have HS1 := Lib.hid hs1
      have HN1 := Lib.hid hn1
      have HX := Lib.hid hS
      clear hcn hth hfo hs1 hn1 hS hT
      go_upto_region 4 with fail
      generalize wr.alloc (.cells #[.string s, .int .i64 z, .int .i64 kd, .int .i64 md, .string b, .int .i64 p] 130) = w1 at *
      generalize hgx : wr.heap.size = gx at *
      obtain ⟨c0, c1, c2, c3, c4, c5⟩ := hbx.six
      have hz1 := hbn.size
      clear hcell hx g0 g1 g2 g3 g4 g5
      by_cases hz : z = 1
      · subst hz
        have hRf : R = false := HN1.out (by rw [← HX.out]; simp)
        subst hRf
        go_wp2
        go_ret
        exact ⟨rfl, hbn⟩
      · have hz' : (z == 1) = false := by simpa using hz
        by_cases hk0 : kd = 0
        · have hRf : R = false := HN1.out (by rw [← HX.out]; simp [hk0])
          subst hRf
          have ht := HTH.out w1
          rw [show decide ((⟨kd, md, b⟩ : PT.N).kind ≠ 0) = false by simp [hk0]] at ht
          clear hz hk0
          go_wp2_with (go_at_call 104; refine ht.mono ?_; rintro e w2 ⟨rfl, hB2⟩)
          go_ret
          exact ⟨rfl, hbn.trans (hB2.mono hz1)⟩
        · have ht := HTH.out w1
          rw [show decide ((⟨kd, md, b⟩ : PT.N).kind ≠ 0) = true by simp [hk0]] at ht
          by_cases hk2 : kd = 2
          · have hcl := cntL_le l z
            by_cases hc1 : 1 < cntL l z
            · have hRf : R = false := HN1.out (by rw [← HX.out]; simp [hk2, hc1])
              subst hRf
              have hd1 : decide ((cntL l z : Int) > 1) = true := by simp; omega
              have hcz := HCN.out z
              have hf : ∀ W : World, Calls Tryz.prog 58 #[nodeV ⟨kd, md, b⟩] W fun e w' => e = .returned (.bool true) ∧ Below W.heap.size W w' := fun W => by
                have := HFO.out W
                rwa [show decide ((⟨kd, md, b⟩ : PT.N).kind = 2) = true by simp [hk2]] at this
              clear hz hk0 hk2 hc1
              generalize cntL l z = cz at *
              go_wp2_with (first | (go_at_call 66; refine hc3.mono ?_; rintro e w4 ⟨rfl, hB4⟩) | (go_at_call 58; refine hf2.mono ?_; rintro e w3 ⟨rfl, hB3⟩; have hx3 := hx2.on hB3; clear c0 c1 c2 c3 c4 c5; obtain ⟨c0, c1, c2, c3, c4, c5⟩ := hx3.six; have hb3 := hb2.trans (hB3.mono hb2.size); have hc3 := hcz w3 hb3) | (go_at_call 104; refine ht.mono ?_; rintro e w2 ⟨rfl, hB2⟩; have hx2 := hbx.on hB2; clear c0 c1 c2 c3 c4 c5; obtain ⟨c0, c1, c2, c3, c4, c5⟩ := hx2.six; have hb2 := hbn.trans (hB2.mono hz1); have hf2 := hf w2))
              go_ret
              exact ⟨rfl, hb3.trans (hB4.mono hb3.size)⟩
            · have hS : S = true := by rw [← HX.out]; simp [hz, hk0, hc1]
              subst hS
              have hd1 : decide ((cntL l z : Int) > 1) = false := by simp; omega
              have hcz := HCN.out z
              have hf : ∀ W : World, Calls Tryz.prog 58 #[nodeV ⟨kd, md, b⟩] W fun e w' => e = .returned (.bool true) ∧ Below W.heap.size W w' := fun W => by
                have := HFO.out W
                rwa [show decide ((⟨kd, md, b⟩ : PT.N).kind = 2) = true by simp [hk2]] at this
              clear hz hk0 hk2 hc1
              generalize cntL l z = cz at *
              go_wp2_with (first | (go_at_call 66; refine hc3.mono ?_; rintro e w4 ⟨rfl, hB4⟩) | (go_at_call 58; refine hf2.mono ?_; rintro e w3 ⟨rfl, hB3⟩; have hx3 := hx2.on hB3; clear c0 c1 c2 c3 c4 c5; obtain ⟨c0, c1, c2, c3, c4, c5⟩ := hx3.six; have hb3 := hb2.trans (hB3.mono hb2.size); have hc3 := hcz w3 hb3) | (go_at_call 104; refine ht.mono ?_; rintro e w2 ⟨rfl, hB2⟩; have hx2 := hbx.on hB2; clear c0 c1 c2 c3 c4 c5; obtain ⟨c0, c1, c2, c3, c4, c5⟩ := hx2.six; have hb2 := hbn.trans (hB2.mono hz1); have hf2 := hf w2))
              go_roundw
              case rel => exact ⟨k + 1, by omega, by go_num, HS1.out, hb3.trans (hB4.mono hb3.size)⟩
              case measure => simp [intOf]; omega
          · have hS : S = true := by rw [← HX.out]; simp [hz, hk0, hk2]
            subst hS
            have hf : ∀ W : World, Calls Tryz.prog 58 #[nodeV ⟨kd, md, b⟩] W fun e w' => e = .returned (.bool false) ∧ Below W.heap.size W w' := fun W => by
                have := HFO.out W
                rwa [show decide ((⟨kd, md, b⟩ : PT.N).kind = 2) = false by simp [hk2]] at this
            clear hz hk0 hk2
            go_wp2_with (first | (go_at_call 58; refine hf2.mono ?_; rintro e w3 ⟨rfl, hB3⟩; have hx3 := hx2.on hB3; clear c0 c1 c2 c3 c4 c5; obtain ⟨c0, c1, c2, c3, c4, c5⟩ := hx3.six; have hb3 := hb2.trans (hB3.mono hb2.size)) | (go_at_call 104; refine ht.mono ?_; rintro e w2 ⟨rfl, hB2⟩; have hx2 := hbx.on hB2; clear c0 c1 c2 c3 c4 c5; obtain ⟨c0, c1, c2, c3, c4, c5⟩ := hx2.six; have hb2 := hbn.trans (hB2.mono hz1); have hf2 := hf w2))
            go_roundw
            case rel => exact ⟨k + 1, by omega, by go_num, HS1.out, hb3⟩
            case measure => simp [intOf]; omega
    · have hkL : k = L := by omega
      subst hkL
      rw [List.take_of_length_le (by rw [HL.out]; exact Nat.le_refl _), HR.out] at hT
      subst hT
      go_wp2
      go_ret
      exact ⟨rfl, hB⟩
set_option maxRecDepth 100000 in
set_option maxHeartbeats 4000000 in
theorem links_any (v : Value) (t : List PT.N) (z : Int) (w : World) (h : Ts w v t) : Calls Tryz.prog 18 #[v, .int .i64 z] w fun e w' => e = .returned (.int .i64 ((if z = 1 then 1 else ((List.range t.length).map fun i : Nat => cntL (PT.inside t ((i : Int) + 1)) z).sum : Nat) : Int)) ∧ Below w.heap.size w w' := by
  obtain ⟨A, c, rfl⟩ := h.form
  have HS := Lib.hid h
  have hl := h.2.2
  by_cases hz : z = 1
  · subst hz
    go_enter Tryz.func18, Tryz.ntmps18
    go_wp2
    go_ret
    exact ⟨rfl, Below.refl _ _⟩
  · rw [if_neg hz]
    obtain ⟨L, hL⟩ : ∃ L, t.length = L := ⟨_, rfl⟩
    rw [hL] at HS hl ⊢
    have hz' : (z == 1) = false := by simpa using hz
    clear h hL
    go_enter Tryz.func18, Tryz.ntmps18
    go_wp2
    go_loopw [5, 11] (fun n i wr => ∃ (k m : Nat), k ≤ L ∧ i = .int .i64 (k : Int) ∧ m = ((List.range k).map fun i : Nat => cntL (PT.inside t ((i : Int) + 1)) z).sum ∧ n = .int .i64 (m : Int) ∧ m ≤ k * 65536 ∧ Below w.heap.size w wr) (fun _ i _ => L - (intOf i).toNat)
    case atStart => exact ⟨0, 0, Nat.zero_le _, rfl, rfl, rfl, Nat.zero_le _, Below.refl _ _⟩
    case round =>
      obtain ⟨k, m, hk, rfl, hm, rfl, hmk, hB⟩ := hrel
      by_cases hlt : k < L
      · have hd : decide ((k : Int) < (L : Int)) = true := by simp; omega
        have hw1 : IntKind.i64.wrap ((k : Int) + 1) = (k : Int) + 1 := by rw [IntKind.wrap_i64]; omega
        have hin := inside_any _ t ((k : Int) + 1) wr (HS.out.below hB)
        have hsum : ((List.range (k + 1)).map fun i : Nat => cntL (PT.inside t ((i : Int) + 1)) z).sum = m + cntL (PT.inside t ((k : Int) + 1)) z := by
          rw [List.range_succ, List.map_append, List.sum_append, ← hm]
          simp
        have hcl := cntL_le (PT.inside t ((k : Int) + 1)) z
        have HC := Lib.hid fun v W (h : Ks W v (PT.inside t ((k : Int) + 1))) h' => count_any v (PT.inside t ((k : Int) + 1)) z W h h'
        generalize PT.inside t ((k : Int) + 1) = I at *
        have HSM := Lib.hid hsum
        have HIN := Lib.hid hin
        clear hsum hin hm
        go_wp2_with fail
        refine HIN.out.mono ?_
        rintro e w1 ⟨v1, rfl, hI, hIl, hB1⟩
        have hcc := HC.out v1 w1 hI.row (by omega)
        have hb1 := hB.trans (hB1.mono hB.size)
        generalize cntL I z = q at *
        have hwq : IntKind.i64.wrap ((m : Int) + (q : Int)) = (m : Int) + (q : Int) := by rw [IntKind.wrap_i64]; omega
        clear HIN HC hI
        go_wp2_with (go_at_call 66; refine hcc.mono ?_; rintro e w2 ⟨rfl, hB2⟩)
        go_roundw
        case rel => exact ⟨k + 1, m + q, by omega, by go_num, HSM.out.symm, by go_num, by omega, hb1.trans (hB2.mono hb1.size)⟩
        case measure => simp [intOf]; omega
      · have hkL : k = L := by omega
        subst hkL
        have hd : decide ((k : Int) < (k : Int)) = false := by simp
        have HM := Lib.hid hm
        clear hm
        go_wp2
        go_ret
        exact ⟨by rw [← HM.out]; rfl, hB⟩
end Go.Proofs.YtdnobplhfbgbaaaGreatDoor
