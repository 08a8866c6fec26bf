/-
  Contracts: the document's walk, Find, place.
-/
import Derived.Test.YtdnobplhfbgbaaaGreatDoorMUa
namespace Go.Proofs.YtdnobplhfbgbaaaGreatDoor
open Go.RowKit Go.Joins

namespace PT
theorem has_no {t : List N} {k : Nat} {n : N} {x : ByteArray} (h : t[k]? = some n) (hk : n.kind = 2) (hb : PD.has (names t k) x = false) (r : List ByteArray) : walk t k (x :: r) = (0, 2) := by
  have hn : next t k x = (none, 2) := by
    rw [names_at h, PD.has_find] at hb
    rw [next, h]
    simp only
    rw [if_pos hk, Option.isSome_eq_false_iff.1 hb |> Option.isNone_iff_eq_none.1]
  rw [walk_cons_no (by rw [hn]), hn]
theorem has_yes {t : List N} (g : Fine t) {k : Nat} {n : N} {x : ByteArray} (_ : t[k]? = some n) (hb : PD.has (names t k) x = true) : ∃ (i : Nat) (n2 : N), PD.rfind (names t k) x = (i : Int) + 1 ∧ i < 9 ∧ t[i]? = some n2 ∧ ∀ r, walk t k (x :: r) = walk t i r := by
  rw [PD.has_find] at hb
  obtain ⟨e, he⟩ := Option.isSome_iff_exists.1 hb
  have hm := List.mem_of_find?_eq_some he
  have hx : e.1 = x := by simpa using List.find?_some he
  subst hx
  obtain ⟨n2, hn2, _⟩ := g.there k e hm
  refine ⟨ix e, n2, ?_, ix_lt hm, hn2, fun r => walk_cons_yes (next_of hm)⟩
  rw [PD.rfind, he]
  have := ix_int hm
  simp only
  omega
theorem not_folder {t : List N} {k : Nat} {n : N} {x : ByteArray} (h : t[k]? = some n) (hk : n.kind ≠ 2) (r : List ByteArray) : walk t k (x :: r) = (0, 5) := by
  have hn : next t k x = (none, 5) := by
    rw [next, h]
    simp only
    rw [if_neg hk]
  rw [walk_cons_no (by rw [hn]), hn]
end PT
theorem names_ixe (A : Option Addr) (c : Nat) (t : List PT.N) (k : Nat) (w : World) (h : Ts w (.slice A 9 c) t) (hk : k < 9) (W : World) (hW : Below w.heap.size w W) : Calls Tryz.prog 75 #[.slice A 9 c, .int .i64 ((k : Int) + 1)] W fun e w' => ∃ v', e = .returned v' ∧ Eo w' W.heap.size v' (PT.names t k) ∧ Fit (PT.names t k) ∧ Below W.heap.size W w' :=
  names_ix _ t k W (h.below hW) (by omega)
set_option maxRecDepth 100000 in
set_option maxHeartbeats 8000000 in
theorem rwalk_any (v u : Value) (t : List PT.N) (ss : List ByteArray) (w : World) (h : Ts w v t) (g : PT.Fine t) (hs : Ss w u ss) : Calls Tryz.prog 87 #[v, u] w fun e w' => e = .returned (.tuple #[.int .i64 (PT.walk t 0 ss).1, .int .i64 (PT.walk t 0 ss).2]) ∧ Below w.heap.size w w' := by
  obtain ⟨A, c, rfl⟩ := h.form
  obtain ⟨U, d, rfl⟩ := hs.form
  have hl := hs.2.2
  have h9 := g.len
  rw [h9] at h ⊢
  generalize hM : ss.length = M at *
  obtain ⟨p, hp⟩ : ∃ p, PT.walk t 0 ss = p := ⟨_, rfl⟩
  rw [hp]
  obtain ⟨r0, hr0, _⟩ := g.root
  have H := Lib.hid h
  have HS := Lib.hid hs
  have HM := Lib.hid hM
  have G := Lib.hid g
  have HP := Lib.hid hp
  clear h hs hM g hp h9
  go_enter Tryz.func87, Tryz.ntmps87
  go_wp2
  go_loopw [6, 7] (fun at_ i wr => ∃ (j k : Nat) (n : PT.N), j ≤ M ∧ i = .int .i64 (j : Int) ∧ at_ = .int .i64 ((k : Int) + 1) ∧ k < 9 ∧ t[k]? = some n ∧ PT.walk t k (ss.drop j) = p ∧ Below w.heap.size w wr) (fun _ i _ => M - (intOf i).toNat)
  case atStart => exact ⟨0, 0, r0, Nat.zero_le _, rfl, rfl, by decide, hr0, HP.out, Below.refl _ _⟩
  case round =>
    obtain ⟨j, k, n, hj, rfl, rfl, hk9, hn, hwp, hB⟩ := hrel
    by_cases hlt : j < M
    · obtain ⟨b0, o0, rfl, hb0, hcell⟩ := (H.out.below hB).at (by rw [G.out.len]; decide)
      obtain ⟨b1, o1, rfl, hb1, hcs⟩ := (HS.out.below hB).at (by rw [HM.out]; omega)
      obtain ⟨x, hx⟩ : ∃ x, ss[j]? = some x := ⟨_, List.getElem?_eq_getElem (by rw [HM.out]; omega)⟩
      obtain ⟨g0, g1, g2⟩ := hcell k n hn
      have hxc := fun W (hW : Below wr.heap.size wr W) => (hW.cell (p := ⟨b1, o1 + j, none⟩) hb1).trans (hcs j x hx)
      have hdr : ss.drop j = x :: ss.drop (j + 1) := by
        obtain ⟨hlt', rfl⟩ := List.getElem?_eq_some_iff.1 hx
        exact List.drop_eq_getElem_cons hlt'
      rw [hdr] at hwp
      have hw1 : IntKind.i64.wrap ((k : Int) + 1 - 1) = (k : Int) := by rw [IntKind.wrap_i64]; omega
      by_cases hk2 : n.kind = 2
      · have hnm := names_ixe (some ⟨b0, o0, none⟩) c t k w H.out hk9
        have hno := PT.has_no (x := x) hn hk2
        have hyes := PT.has_yes (x := x) G.out hn
        rw [hk2] at g0
        generalize PT.names t k = m at *
        have HNM := Lib.hid hnm
        obtain ⟨f, hf⟩ : ∃ f, PD.rfind m x = f := ⟨_, rfl⟩
        obtain ⟨b, hb⟩ : ∃ b, PD.has m x = b := ⟨_, rfl⟩
        have HWS := Lib.hid hwp
        have HNO := Lib.hid (fun (e : b = false) => (hno (hb.trans e) (ss.drop (j + 1))).symm.trans hwp |>.symm)
        rw [hf, hb] at hyes
        have hyes2 : b = true → ∃ (i : Nat) (n2 : PT.N), f = (i : Int) + 1 ∧ i < 9 ∧ t[i]? = some n2 ∧ PT.walk t i (ss.drop (j + 1)) = p := fun e => by
          obtain ⟨i, n2, h1, h2, h3, h4⟩ := hyes e
          exact ⟨i, n2, h1, h2, h3, (h4 _).symm.trans hwp⟩
        have HYES := Lib.hid hyes2
        have HF := Lib.hid hf
        have HB := Lib.hid hb
        have HX := Lib.hid hxc
        clear hnm hno hyes hyes2 hf hb hxc hwp hdr hcell hcs hx g1 g2 hb0 hn
        go_upto_region 9 with fail
        refine wp_region_grow Tryz.checked.mixed (by kernel_rfl) (fun W => Below wr.heap.size wr W)
          (fun i v W => match i with
            | 0 => v = .slice (some ⟨b0, o0, none⟩) 9 c
            | 1 => v = .int .i64 ((k : Int) + 1)
            | 2 => Es W v m
            | 3 => v = .slice (some ⟨b1, o1, none⟩) M d
            | 4 => v = .int .i64 (j : Int)
            | 5 => v = .pointer (some ⟨b1, o1 + j, none⟩)
            | 6 => v = .string x
            | 7 => v = .tuple #[.int .i64 f, .bool b]
            | 8 => v = .tuple #[.int .i64 f, .bool b]
            | 9 => v = .int .i64 f
            | 10 => v = .bool b
            | 11 => v = .int .i64 f
            | _ => v = .bool b) ?hS ?hR ?start ?each ?fin
        case hS =>
          intro W W' h hb
          exact h.trans (hb.mono h.size)
        case hR =>
          intro j v W W' h hb
          rcases j with _ | _ | _ | _ | _ | _ | _ | _ | _ | _ | _ | _ | j <;> first | exact h | exact Es.below h hb
        case start => exact (Below.refl _ _).drew
        case each =>
          intro i hi a W hold hp h6 K hK
          rcases i with _ | _ | _ | _ | _ | _ | _ | _ | _ | _ | _ | _ | i
          · have s := hold 0 rfl
            simp [predsOf, Region.binds, slotV] at hp
            refine wpOp_of rfl rfl ?_
            simp at s
            go_simp
            exact hK _ _ (by simp) (Below.refl _ _) rfl
          · have s := hold 6 rfl
            simp [predsOf, Region.binds, slotV] at hp
            refine wpOp_of rfl rfl ?_
            simp at s
            go_simp
            exact hK _ _ (by simp) (Below.refl _ _) rfl
          · simp [predsOf, Region.binds, slotV] at hp
            refine wpOp_of rfl rfl ?_
            go_simp
            refine (HNM.out W (hB.trans (h6.mono hB.size))).mono ?_
            rintro e W2 ⟨v2, rfl, hO, hF, hB'⟩
            exact hK _ _ (by simp) hB' (hO.row hF)
          · have s := hold 1 rfl
            simp [predsOf, Region.binds, slotV] at hp
            refine wpOp_of rfl rfl ?_
            simp at s
            go_simp
            exact hK _ _ (by simp) (Below.refl _ _) rfl
          · have s := hold 7 rfl
            simp [predsOf, Region.binds, slotV] at hp
            refine wpOp_of rfl rfl ?_
            simp at s
            go_simp
            exact hK _ _ (by simp) (Below.refl _ _) rfl
          · simp [predsOf, Region.binds, slotV] at hp
            refine wpOp_of rfl rfl ?_
            go_simp
            exact hK _ _ (by simp) (Below.refl _ _) rfl
          · simp [predsOf, Region.binds, slotV] at hp
            refine wpOp_of rfl rfl ?_
            have hc := HX.out W h6
            go_simp
            exact hK _ _ (by simp) (Below.refl _ _) rfl
          · simp [predsOf, Region.binds, slotV] at hp
            refine wpOp_of rfl rfl ?_
            obtain ⟨p1, p2⟩ := hp
            have hr := rfind_any _ _ x W p1
            rw [HF.out, HB.out] at hr
            go_simp
            refine hr.mono ?_
            rintro e W2 ⟨rfl, hw2⟩
            rw [hw2]
            exact hK _ _ (by simp) (Below.refl _ _) rfl
          · simp [predsOf, Region.binds, slotV] at hp
            refine wpOp_of rfl rfl ?_
            go_simp
            exact hK _ _ (by simp) (Below.refl _ _) (by simp)
          · simp [predsOf, Region.binds, slotV] at hp
            refine wpOp_of rfl rfl ?_
            go_simp
            exact hK _ _ (by simp) (Below.refl _ _) (by simp)
          · simp [predsOf, Region.binds, slotV] at hp
            refine wpOp_of rfl rfl ?_
            go_simp
            exact hK _ _ (by simp) (Below.refl _ _) (by simp)
          · simp [predsOf, Region.binds, slotV] at hp
            refine wpOp_of rfl rfl ?_
            go_simp
            exact hK _ _ (by simp) (Below.refl _ _) (by simp)
          · have i0 : i = 0 := by simp at hi; omega
            subst i0
            simp [predsOf, Region.binds, slotV] at hp
            refine wpOp_of rfl rfl ?_
            go_simp
            exact hK _ _ (by simp) (Below.refl _ _) (by simp)
        case fin =>
          intro vs W hRs h6
          have r0 := hRs 0 (by decide)
          have r1 := hRs 1 (by decide)
          have r3 := hRs 3 (by decide)
          have r4 := hRs 4 (by decide)
          have r5 := hRs 5 (by decide)
          have r6 := hRs 6 (by decide)
          have r7 := hRs 7 (by decide)
          have r8 := hRs 8 (by decide)
          have r9 := hRs 9 (by decide)
          have r10 := hRs 10 (by decide)
          have r11 := hRs 11 (by decide)
          have r12 := hRs 12 (by decide)
          simp at r0 r1 r3 r4 r5 r6 r7 r8 r9 r10 r11 r12
          simp only [putAll, List.foldl_cons, List.foldl_nil, Act.put, List.setIfInBounds_toArray, List.set_cons_succ, List.set_cons_zero, r0, r1, r3, r4, r5, r6, r7, r8, r9, r10, r11, r12]
          have hB9 := hB.trans (h6.mono hB.size)
          generalize vs (some 29) = V29 at *
          clear hRs h6 hB HX r0 r1 r3 r4 r5 r6 r7 r8 r9 r10 r11 r12
          cases b with
          | false =>
            have HWA := Lib.hid (HNO.out rfl)
            go_wp2
            go_ret2
            rw [HWA.out]
            exact ⟨rfl, hB9⟩
          | true =>
            obtain ⟨i, n2, hfi, hi9, hn2, hwk⟩ := HYES.out rfl
            subst hfi
            have hng : ¬ (9 : Int) < (i : Int) + 1 := by omega
            go_wp2
            go_roundw
            case rel => exact ⟨j + 1, i, n2, by omega, by go_num, rfl, by omega, hn2, hwk, hB9⟩
            case measure => simp [intOf]; omega

      · have HWA := Lib.hid ((PT.not_folder hn hk2 (ss.drop (j + 1))).symm.trans hwp |>.symm)
        have hne : ¬ n.kind = 2 := hk2
        obtain ⟨kd, md, s⟩ := n
        dsimp only at g0 hne
        clear hxc hwp hdr hcell hcs hx g1 g2 hb0 hb1 hk2 hn HS
        go_wp2
        go_ret2
        rw [HWA.out]
        exact ⟨rfl, hB⟩
    · have hjM : j = M := by omega
      subst hjM
      rw [List.drop_of_length_le (by rw [HM.out]; exact Nat.le_refl _), PT.walk_nil] at hwp
      have HWA := Lib.hid hwp.symm
      clear hwp H HS HP G
      go_wp2
      go_ret2
      rw [HWA.out]
      exact ⟨by simp, hB⟩
end Go.Proofs.YtdnobplhfbgbaaaGreatDoor
