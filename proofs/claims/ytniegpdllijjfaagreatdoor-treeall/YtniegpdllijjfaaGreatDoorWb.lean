/-
  The law TreeFinds, walked.
-/
import Derived.Test.YtniegpdllijjfaaGreatDoorWa
namespace Go.Proofs.YtniegpdllijjfaaGreatDoor
open Go.RowKit Go.Joins

namespace PT
theorem walk_name {t : List N} {k : Nat} {n : N} (h : t[k]? = some n) (x : ByteArray) : walk t k [x] = if n.kind = 2 then (if PD.has (ents n) x = true then (PD.rfind (ents n) x, 0) else (0, 2)) else (0, 5) := by
  have hf : (ents n).find? (fun e => decide (e.1 = x)) = none → PD.has (ents n) x = false := by
    intro hf
    rw [PD.has, List.any_eq_false]
    intro e he
    have := List.find?_eq_none.1 hf e he
    simpa using this
  by_cases hk : n.kind = 2
  · rw [if_pos hk]
    cases hfe : (ents n).find? (fun e => decide (e.1 = x)) with
    | none =>
      have hnx : next t k x = (none, 2) := by rw [next, h]; simp only; rw [if_pos hk, hfe]
      rw [walk_cons_no (by rw [hnx]), hnx, hf hfe]
      rfl
    | some e =>
      have hnx : next t k x = (some (ix e), 0) := by rw [next, h]; simp only; rw [if_pos hk, hfe]
      have hm := List.mem_of_find?_eq_some hfe
      have hex : e.1 = x := by simpa using List.find?_some hfe
      have hh : PD.has (ents n) x = true := by
        rw [PD.has, List.any_eq_true]
        exact ⟨e, hm, by simpa using hex⟩
      rw [walk_cons_yes (j := ix e) (by rw [hnx]), walk_nil, hh, if_pos rfl, PD.rfind, hfe]
      have := ix_int (t := t) (k := k) (e := e) (by rw [names_at h]; exact hm)
      simp [this]
  · rw [if_neg hk]
    have hnx : next t k x = (none, 5) := by rw [next, h]; simp only; rw [if_neg hk]
    rw [walk_cons_no (by rw [hnx]), hnx]
theorem rfind_none {l : List E} {x : ByteArray} (h : PD.has l x = false) : PD.rfind l x = 0 := by
  have : l.find? (fun e => decide (e.1 = x)) = none := by
    rw [List.find?_eq_none]
    intro e he
    rw [PD.has, List.any_eq_false] at h
    exact h e he
  rw [PD.rfind, this]
end PT
/-- The front of a row of strings. -/
theorem Ss.front {w : World} {b o n c p : Nat} {ss : List ByteArray} (h : Ss w (.slice (some ⟨b, o, none⟩) n c) ss) (l0 : ss.length = n) (hp : p ≤ n) : Ss w (.slice (some ⟨b, o, none⟩) p c) (ss.take p) := by
  obtain ⟨⟨A', c', hv, hl, hA⟩, hb, hm⟩ := h
  injection hv with e1 e2 e3
  subst e1 e3
  have hlen : (ss.take p).length = p := by rw [List.length_take]; omega
  refine ⟨⟨_, c, by rw [hlen], by simp, fun hn => ?_⟩, fun s hs => hb s (List.mem_of_mem_take hs), by rw [hlen]; omega⟩
  rw [hlen] at hn
  obtain ⟨b', o', e, hbs, hc⟩ := hA (by omega)
  refine ⟨b', o', e, hbs, fun j hj => ?_⟩
  rw [hlen] at hj
  rw [hc j (by omega)]
  have h1 : j < p := by omega
  simp [h1]
set_option maxHeartbeats 2000000 in
/-- The document's Path. -/
theorem rpath_any (v : Value) (ss : List ByteArray) (w : World) (h : Ss w v ss) (hcp : ∀ A n c, v = .slice A n c → n ≤ c) : Calls Tryz.prog 28 #[v] w fun e w' => e = .returned (.string (PN.path ss)) ∧ Below w.heap.size w w' := by
  obtain ⟨A, c, rfl⟩ := h.form
  have hnc := hcp _ _ _ rfl
  have hj : Calls Tryz.prog 54 #[.slice A ss.length c, .string { data := #[47] }] w fun e w' => e = .returned (.string (PN.mk (Lib.join (ss.map (·.data.toList)) [47]))) ∧ Below w.heap.size w w' := by
    rcases Nat.eq_zero_or_pos ss.length with h0 | h0
    · have : ss = [] := List.eq_nil_of_length_eq_zero h0
      subst this
      refine (Tryz.strings_Join_none A c _ w).mono ?_
      rintro e w' ⟨rfl, rfl⟩
      exact ⟨rfl, Below.refl _ _⟩
    · obtain ⟨b, o, rfl, hb, hc⟩ := h.at h0
      exact Tryz.strings_Join b o c ss { data := #[47] } w hc hb (by have := h.2.2; omega) hnc (join_le ss h.2.1 h.2.2)
  have hp : PN.path ss = ({ data := #[47] } : ByteArray) ++ PN.mk (Lib.join (ss.map (·.data.toList)) [47]) := (add_mk _).symm
  rw [hp]
  have hJ : ¬ 9223372036854775807 < 1 + (PN.mk (Lib.join (ss.map (·.data.toList)) [47])).size := by
    have := join_le ss h.2.1 h.2.2
    rw [Lib.size_eq, PN.mk_data]; omega
  generalize PN.mk (Lib.join (ss.map (·.data.toList)) [47]) = J at *
  clear h hcp hp hnc
  go_enter Tryz.func28, Tryz.ntmps28
  go_wp2_with (go_at_call 54; refine hj.mono ?_; rintro e w1 ⟨rfl, hB⟩)
  go_ret
  exact ⟨rfl, hB⟩
set_option maxRecDepth 100000 in
set_option maxHeartbeats 4000000 in
theorem finds_out (A : Option Addr) (n c m : Nat) (W : World) (hM : Ml W) (hn : 60 < n) : Calls Tryz.prog 7 #[.slice A n c, .int .u8 (m : Int)] W fun e W' => e = .returned (.bool true) ∧ Below W.heap.size W W' := by
  have h8 := begun_any W hM
  have hd : decide ((60 : Int) < (n : Int)) = true := by simp; omega
  go_enter Tryz.func7, Tryz.ntmps7
  go_wp2_with (go_at_call 8; refine h8.mono ?_; rintro e w1 ⟨rfl, hB1⟩)
  go_ret
  exact ⟨rfl, hB1⟩
set_option maxRecDepth 100000 in
set_option maxHeartbeats 16000000 in
theorem finds_law (A : Option Addr) (n c m : Nat) (bs : List Nat) (W : World) (hM : Ml W) (hv : Tx W (.slice A n c) bs) (hn : bs.length = n) (h60 : n ≤ 60) (hm : m < 256) : Calls Tryz.prog 7 #[.slice A n c, .int .u8 (m : Int)] W fun e W' => e = .returned (.bool true) ∧ Below W.heap.size W W' := by
  have h8 := begun_any W hM
  have hd60 : decide ((60 : Int) < (n : Int)) = false := by simp; omega
  have HM := Lib.hid hM
  have HV := Lib.hid hv
  clear hM hv
  go_enter Tryz.func7, Tryz.ntmps7
  go_wp2_with (go_at_call 8; refine h8.mono ?_; rintro e w1 ⟨rfl, hB1⟩; have h9 := made_any A n c w1)
  refine h9.mono ?_
  rintro e w2 ⟨g, rfl, hg, hx, hB2⟩
  have hP := Pw.start hB1 hg hx hB2
  have h10 := treeP HV.out hn 30 (by decide) w2 hP
  clear h9 hx hg hB1 hB2 hP
  go_wp2_with fail
  refine h10.mono ?_
  rintro e w3 ⟨v, t, rfl, hT, hG, hP3⟩
  have hb3 := hP3.1
  have hl9 := hG.fine.len
  obtain ⟨T, TC, rfl⟩ := hT.form
  rw [hl9] at hT ⊢
  have HT := Lib.hid hT
  have HG := Lib.hid hG
  have hb4 := al w3 (.cells #[.int .u8 (m : Int)] 5)
  have hv4 : Tx (w3.alloc (.cells #[.int .u8 (m : Int)] 5)) (.slice (some ⟨w3.heap.size, 0, none⟩) 1 1) [m] := Tx.new w3 _ _ 1 1 _ rfl [m] rfl rfl (by simpa using hm) (by decide)
  have h9 := made_any (some ⟨w3.heap.size, 0, none⟩) 1 1 (w3.alloc (.cells #[.int .u8 (m : Int)] 5))
  clear h8 h10 hT hG hP3 HV
  go_wp2_with fail
  refine h9.mono ?_
  rintro e w5 ⟨g5, rfl, hg5, hx5, hB5⟩
  have h18 := pathP hv4 rfl w5 (Pw.start (Below.refl _ _) hg5 hx5 hB5)
  go_wp2_with fail
  refine h18.mono ?_
  rintro e w6 ⟨s, rfl, hs8, hP6, _⟩
  have hb6 := hb4.trans (hP6.1.mono hb4.size)
  have h27 := rparts_any s false w6 (by omega)
  clear h9 h18 hx5 hB5 hg5 hP6 hv4 hb4
  have hbW := hb3.trans (hb6.mono hb3.size)
  go_wp2_with fail
  refine h27.mono ?_
  rintro e w7 ⟨v7, rfl, hO7, hB7⟩
  have hb7 := hb6.trans (hB7.mono hb6.size)
  have hbW7 := hb3.trans (hb7.mono hb3.size)
  have h19 := tfind_any _ t s false w7 (HM.out.below hbW7) (HT.out.below hb7) HG.out.fine (by omega)
  clear h27
  cases hi : PN.is false s
  · rw [show PT.find t (PT.pp false s) = (0, 1) by rw [PT.pp_no hi]; rfl] at h19
    obtain ⟨AL, cL, rfl, _⟩ := hO7.form
    clear hO7 hB7
    go_wp2_with (go_at_call 19; refine h19.mono ?_; rintro e w8 ⟨rfl, hB8⟩)
    have hb8 := hbW7.trans (hB8.mono hbW7.size)
    go_ret
    exact ⟨rfl, hb8⟩
  · have hSs := hO7.small
    rcases Classical.em (PN.pt false s = []) with h0 | h0
    · rw [show PT.find t (PT.pp false s) = (1, 0) by rw [PT.pp_yes hi, h0]; rfl] at h19
      obtain ⟨AL, cL, rfl⟩ := hSs.form
      have hlen : (PN.pt false s).length = 0 := by rw [h0]; rfl
      rw [hlen]
      clear hO7 hB7 hSs h0 hlen
      go_wp2_with (go_at_call 19; refine h19.mono ?_; rintro e w8 ⟨rfl, hB8⟩)
      have hb8 := hbW7.trans (hB8.mono hbW7.size)
      go_ret
      exact ⟨rfl, hb8⟩
    · obtain ⟨f1, f2, f3⟩ := HG.out.walk_last hi h0
      obtain ⟨AL, cL, rfl, hcap⟩ := hO7.form
      have hlp : (PN.pt false s).length ≠ 0 := fun e => h0 (List.length_eq_zero_iff.1 e)
      have hl8 := (PN.pt_le false s).1
      have hl6 := (PN.pt_le false s).2
      obtain ⟨p, hp⟩ : ∃ p, (PN.pt false s).length = p + 1 := ⟨(PN.pt false s).length - 1, by omega⟩
      rw [f1] at h19
      have hlast : (PN.pt false s)[p]? = some (PT.last (PN.pt false s)) := by
        have := PT.last_append h0
        conv => lhs; rw [this]
        rw [List.getElem?_append_right (by rw [List.length_dropLast]; omega), List.length_dropLast, show p - ((PN.pt false s).length - 1) = 0 by omega]
        rfl
      have hdt : (PN.pt false s).dropLast = (PN.pt false s).take p := by rw [List.dropLast_eq_take, hp]; rfl
      generalize PN.pt false s = L at *
      have hsz : (PN.path L.dropLast).size ≤ 65535 := by
        have h1 := PT.txt_size (p := L.dropLast) fun x hx => hl6 x (List.dropLast_subset _ hx)
        have h2 : L.dropLast.length ≤ 8 := by rw [List.length_dropLast]; omega
        rcases Classical.em (L.dropLast = []) with h3 | h3
        · rw [h3]; decide
        · rw [PT.txt_path h3]; omega
      have hDl : L.dropLast.length = p := by rw [List.length_dropLast]; omega
      rw [hp] at hSs ⊢
      rw [hp] at hcap
      have hnl : (((p + 1 : Nat) : Int) == 0) = false := by rw [beq_eq_false_iff_ne]; omega
      have hw3 : IntKind.i64.wrap (((p + 1 : Nat) : Int) - 1) = (p : Int) := by rw [IntKind.wrap_i64]; omega
      have i0 : (0 : Int) ≤ (p : Int) := by omega
      have i1 : (p : Int) < ((p + 1 : Nat) : Int) := by omega
      have hpl : p ≤ cL := by omega
      have hp8 : p ≤ 8 := by omega
      have hfd := fun W (hb : Below w3.heap.size w3 W) => tfind_any (.slice T 9 TC) t (PN.path L.dropLast) false W (HM.out.below (hb3.trans (hb.mono hb3.size))) (HT.out.below hb) HG.out.fine hsz
      rw [f2] at hfd
      obtain ⟨bL, oL, hAL, hbL, hcL⟩ := hSs.at (by omega)
      subst hAL
      have hrow := fun W (h : Ss W (.slice (some ⟨bL, oL, none⟩) (p + 1) cL) L) => Ss.front h hp (Nat.le_succ p)
      rw [← hdt] at hrow
      have hpc := fun W h => rpath_any (.slice (some ⟨bL, oL, none⟩) p cL) L.dropLast W h (fun A n c e => by cases e; exact hpl)
      have hw5 : wrap64 (p : Int) = (p : Int) := IntWalk.wrap64_in _ (by omega)
      have gL := hcL p _ hlast
      have hcl : ∀ V, Below w7.heap.size w7 V → V.cell? ⟨bL, oL + p, none⟩ = some (.string (PT.last L)) := fun V hb => (hb.cell (p := ⟨bL, oL + p, none⟩) hbL).trans gL
      generalize PT.last L = x at *
      generalize PN.path L.dropLast = pd at *
      have H3 := Lib.hid f3
      have HC := Lib.hid (And.intro hrow (And.intro hpc (And.intro hfd hcl)))
      have HSs := Lib.hid hSs
      clear f1 f2 f3 hO7 hcap hlp hl8 hl6 hp h0 hlast hdt hDl hrow hpc hfd hcl hSs gL hcL hbL hB7
      have hw2 := PT.walk_two t 0 L.dropLast
      have hwy : (PT.walk t 0 L.dropLast).2 = 0 → ∃ (k : Nat) (n : PT.N), PT.walk t 0 L.dropLast = (((k + 1 : Nat) : Int), 0) ∧ k < 9 ∧ t[k]? = some n := fun h => by
        obtain ⟨k, n, h1, h2, h3, _⟩ := HG.out.fine.walk_yes h
        exact ⟨k, n, h1, h2, h3⟩
      generalize PT.walk t 0 L.dropLast = u at *
      generalize PT.walk t 0 L = r at *
      go_wp2_with (go_at_call 19; refine h19.mono ?_; rintro e w8 ⟨rfl, hB8⟩)
      have hb8 := hb7.trans (hB8.mono hb7.size)
      have hS8 := HC.out.1 w8 (HSs.out.below hB8)
      have h28 := HC.out.2.1 w8 hS8
      clear h19 hS8
      go_wp2_with fail
      refine h28.mono ?_
      rintro e w9 ⟨rfl, hB9⟩
      have hb9 := hb8.trans (hB9.mono hb8.size)
      have h19 := HC.out.2.2.1 w9 hb9
      clear h28 hw5
      go_wp2_with fail
      refine h19.mono ?_
      rintro e w10 ⟨rfl, hB10⟩
      have hb10 := hb9.trans (hB10.mono hb9.size)
      have hbW10 := hb3.trans (hb10.mono hb3.size)
      have hq7 : Below w7.heap.size w7 w10 := (hB8.trans (hB9.mono hB8.size)).trans (hB10.mono (hB8.trans (hB9.mono hB8.size)).size)
      clear h19
      by_cases hf : u.2 = 0
      · obtain ⟨k, nd, hu, hk9, hnd⟩ := hwy hf
        have h3 := H3.out
        rw [if_pos hf, hu, show ((((k + 1 : Nat) : Int), (0 : Int)).1 - 1).toNat = k by simp, PT.walk_name hnd] at h3
        subst hu
        obtain ⟨b0, o0, rfl, hb0, hcell⟩ := HT.out.at (by rw [hl9]; omega)
        obtain ⟨g0, _, _⟩ := hcell k nd hnd
        have hc0 := (hb10.cell (p := ⟨b0, o0 + k * 3, none⟩) hb0).trans g0
        have d1 : decide (((k + 1 : Nat) : Int) < 1) = false := decide_eq_false (by omega)
        have d2 : decide ((9 : Int) < ((k + 1 : Nat) : Int)) = false := decide_eq_false (by omega)
        have hw4 : IntKind.i64.wrap (((k + 1 : Nat) : Int) - 1) = (k : Int) := by rw [IntKind.wrap_i64]; omega
        have hnames := PT.names_at hnd
        have hnm := fun W (hb : Below w3.heap.size w3 W) => names_any _ t k W (HT.out.below hb) (by omega)
        rw [hnames] at hnm
        by_cases k2 : nd.kind = 2
        · rw [if_pos k2] at h3
          rw [k2] at hc0
          have HNM := Lib.hid hnm
          have HR := Lib.hid h3
          clear hwy hw2 hf hcell g0 hnd hnames hnm h3 k2
          go_wp2_with fail
          refine wp_region_grow Tryz.checked.mixed (by kernel_rfl) (fun W => Below w10.heap.size w10 W)
            (fun i v W => match i with
              | 0 => v = .slice (some ⟨b0, o0, none⟩) 9 TC
              | 1 => v = .int .i64 ((k : Int) + 1)
              | 2 => Es W v (PT.ents nd)
              | 3 => v = .slice (some ⟨bL, oL, none⟩) (p + 1) cL
              | 4 => v = .slice (some ⟨bL, oL, none⟩) (p + 1) cL
              | 5 => v = .int .i64 ((p + 1 : Nat) : Int)
              | 6 => v = .int .i64 (p : Int)
              | 7 => v = .pointer (some ⟨bL, oL + p, none⟩)
              | 8 => v = .string x
              | 9 => v = .tuple #[.int .i64 (PD.rfind (PT.ents nd) x), .bool (PD.has (PT.ents nd) x)]
              | 10 => v = .tuple #[.int .i64 (PD.rfind (PT.ents nd) x), .bool (PD.has (PT.ents nd) x)]
              | 11 => v = .int .i64 (PD.rfind (PT.ents nd) x)
              | 12 => v = .bool (PD.has (PT.ents nd) x)
              | 13 => v = .int .i64 (PD.rfind (PT.ents nd) x)
              | _ => v = .bool (PD.has (PT.ents nd) x)) ?hS ?hR ?start ?each ?fin
          case hS =>
            intro W W' h hb
            exact h.trans (hb.mono h.size)
          case hR =>
            intro j v W W' h hb
            rcases j with _ | _ | _ | _ | _ | _ | _ | _ | _ | _ | _ | _ | _ | _ | j <;> first | exact h | exact Es.below h hb | exact Ss.below h hb
          case start => exact (Below.refl _ _).drew
          case each =>
            intro i hi a W hold hp h6 K hK
            rcases i with _ | _ | _ | _ | _ | _ | _ | _ | _ | _ | _ | _ | _ | _ | i
            · skip
              have s5 := hold 5 rfl
              simp [predsOf, Region.binds, slotV] at hp
              refine wpOp_of rfl rfl ?_
              simp at s5
              go_simp
              exact hK _ _ (by simp) (Below.refl _ _) rfl
            · skip
              have s11 := hold 11 rfl
              simp [predsOf, Region.binds, slotV] at hp
              refine wpOp_of rfl rfl ?_
              simp at s11
              go_simp
              exact hK _ _ (by simp) (Below.refl _ _) rfl
            · skip
              simp [predsOf, Region.binds, slotV] at hp
              refine wpOp_of rfl rfl ?_
              go_simp
              refine (HNM.out W (hb10.trans (h6.mono hb10.size))).mono ?_
              rintro e W2 ⟨v2, rfl, hO, hF, hB'⟩
              exact hK _ _ (by simp) hB' (hO.row hF)
            · skip
              have s7 := hold 7 rfl
              simp [predsOf, Region.binds, slotV] at hp
              refine wpOp_of rfl rfl ?_
              simp at s7
              go_simp
              exact hK _ _ (by simp) (Below.refl _ _) rfl
            · skip
              have s7 := hold 7 rfl
              simp [predsOf, Region.binds, slotV] at hp
              refine wpOp_of rfl rfl ?_
              simp at s7
              go_simp
              exact hK _ _ (by simp) (Below.refl _ _) rfl
            · skip
              simp [predsOf, Region.binds, slotV] at hp
              refine wpOp_of rfl rfl ?_
              go_simp
              exact hK _ _ (by simp) (Below.refl _ _) rfl
            · skip
              simp [predsOf, Region.binds, slotV] at hp
              refine wpOp_of rfl rfl ?_
              have hw6 : IntKind.i64.wrap (p : Int) = (p : Int) := by rw [IntKind.wrap_i64]; omega
              go_simp
              exact hK _ _ (by simp) (Below.refl _ _) rfl
            · skip
              simp [predsOf, Region.binds, slotV] at hp
              refine wpOp_of rfl rfl ?_
              go_simp
              rw [if_pos (by omega)]
              go_simp
              exact hK _ _ (by simp) (Below.refl _ _) rfl
            · skip
              simp [predsOf, Region.binds, slotV] at hp
              refine wpOp_of rfl rfl ?_
              have e1 := HC.out.2.2.2 W (hq7.trans (h6.mono hq7.size))
              go_simp
              exact hK _ _ (by simp) (Below.refl _ _) rfl
            · skip
              simp [predsOf, Region.binds, slotV] at hp
              refine wpOp_of rfl rfl ?_
              go_simp
              refine (rfind_any _ (PT.ents nd) x W hp.1).mono ?_
              rintro e W2 ⟨rfl, rfl⟩
              exact hK _ _ (by simp) (Below.refl _ _) rfl
            · skip
              simp [predsOf, Region.binds, slotV] at hp
              refine wpOp_of rfl rfl ?_
              go_simp
              exact hK _ _ (by simp) (Below.refl _ _) rfl
            · skip
              simp [predsOf, Region.binds, slotV] at hp
              refine wpOp_of rfl rfl ?_
              go_simp
              exact hK _ _ (by simp) (Below.refl _ _) rfl
            · skip
              simp [predsOf, Region.binds, slotV] at hp
              refine wpOp_of rfl rfl ?_
              go_simp
              exact hK _ _ (by simp) (Below.refl _ _) rfl
            · skip
              simp [predsOf, Region.binds, slotV] at hp
              refine wpOp_of rfl rfl ?_
              go_simp
              exact hK _ _ (by simp) (Below.refl _ _) rfl
            · have i0 : i = 0 := by simp at hi; omega
              subst i0
              simp [predsOf, Region.binds, slotV] at hp
              refine wpOp_of rfl rfl ?_
              go_simp
              exact hK _ _ (by simp) (Below.refl _ _) (by simp)
          case fin =>
            intro vs W hRs h6
            have r0 := hRs 0 (by decide)
            have r1 := hRs 1 (by decide)
            have r3 := hRs 3 (by decide)
            have r4 := hRs 4 (by decide)
            have r5 := hRs 5 (by decide)
            have r6 := hRs 6 (by decide)
            have r7 := hRs 7 (by decide)
            have r8 := hRs 8 (by decide)
            have r9 := hRs 9 (by decide)
            have r10 := hRs 10 (by decide)
            have r11 := hRs 11 (by decide)
            have r12 := hRs 12 (by decide)
            have r13 := hRs 13 (by decide)
            have r14 := hRs 14 (by decide)
            simp at r0 r1 r3 r4 r5 r6 r7 r8 r9 r10 r11 r12 r13 r14
            simp only [putAll, List.foldl_cons, List.foldl_nil, Act.put, List.setIfInBounds_toArray, List.set_cons_succ, List.set_cons_zero, r0, r1, r3, r4, r5, r6, r7, r8, r9, r10, r11, r12, r13, r14]
            have hbW := hbW10.trans (h6.mono hbW10.size)
            generalize vs (some 95) = V95 at *
            have h3 := HR.out
            clear hRs h6 r0 r1 r3 r4 r5 r6 r7 r8 r9 r10 r11 r12 r13 r14 HNM HR
            cases hh : PD.has (PT.ents nd) x
            · rw [hh, if_neg (by decide)] at h3
              rw [h3, PT.rfind_none hh]
              clear hh h3
              go_wp2_with fail
              go_ret
              exact ⟨rfl, hbW⟩
            · rw [hh, if_pos rfl] at h3
              rw [h3]
              clear hh h3
              generalize PD.rfind (PT.ents nd) x = R at *
              go_wp2_with fail
              go_ret
              exact ⟨rfl, hbW⟩
        · rw [if_neg k2] at h3
          have hkn : (nd.kind != 2) = true := by simpa using k2
          rw [h3]
          clear hwy hw2 hf hcell g0 hnd hnames hnm k2
          go_wp2_with fail
          go_ret
          exact ⟨rfl, hbW10⟩
      · have hu : u.1 = 0 := by
          rcases hw2 with ⟨j, hj⟩ | ⟨h, _⟩
          · exact absurd (by rw [hj]) hf
          · exact h
        have h3 := H3.out
        rw [if_neg hf] at h3
        obtain ⟨u1, f⟩ := u
        dsimp only at hu hf
        subst hu
        rw [h3]
        have hfn : (f != 0) = true := by simpa using hf
        clear hwy hw2 hf
        go_wp2_with fail
        go_ret
        exact ⟨rfl, hbW10⟩
end Go.Proofs.YtniegpdllijjfaaGreatDoor
