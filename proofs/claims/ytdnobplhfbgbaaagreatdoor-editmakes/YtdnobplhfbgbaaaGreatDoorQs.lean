/-
  Contract: the document's TakeDir.
-/
import Derived.Test.YtdnobplhfbgbaaaGreatDoorQr
namespace Go.Proofs.YtdnobplhfbgbaaaGreatDoor
open Go.RowKit Go.Joins

namespace PD
theorem took_no {s : ByteArray} {L : List E} {r : List Nat} {n : Nat} (h : ents (nums s) = (ents (n :: r)).map (L ++ ·)) (hn : 6 < n) : took s = none := by
  by_cases hs : s.size ≤ 120
  · by_cases hl : n + 1 ≤ r.length
    · rw [ents_yes hl] at h
      cases hm : ents (r.drop (n + 1)) with
      | none => rw [hm] at h; exact took_cut hs h
      | some m =>
        rw [hm] at h
        rw [took_is hs h, if_neg]
        intro hr
        have hmem := rise_may hr (str (r.take n), ((r.getD n 0 : Nat) : Int)) (by simp)
        have := (may_size hmem).2.1
        rw [str_size, List.length_take] at this
        omega
    · rw [ents_no hl] at h
      exact took_cut hs h
  · exact took_long hs
theorem took_no2 {s : ByteArray} {L : List E} {r : List Nat} {n : Nat} (h : ents (nums s) = (ents (n :: r)).map (L ++ ·)) (hn : ¬ n + 1 ≤ r.length) : took s = none := by
  rw [ents_no hn] at h
  by_cases hs : s.size ≤ 120
  · exact took_cut hs h
  · exact took_long hs
theorem took_end {s : ByteArray} {L : List E} (h : ents (nums s) = some L) : took s = if ok L = true then some L else none := by
  have hb := bytes_ents _ (Nat.le_refl _) (nums_lt s) h
  by_cases hs : s.size ≤ 120
  · rw [took_is hs h, ok, hb, nums_length]
    simp [hs]
  · rw [took_long hs, ok, hb, nums_length]
    simp [hs]
theorem put_back {s : ByteArray} {L : List E} (h : ents (nums s) = some L) (k : ok L = true) : put L = s := by
  rw [put, if_pos k, bytes_ents _ (Nat.le_refl _) (nums_lt s) h, str_nums]
end PD

/-- What holds of the operations of the region that draws. -/
def JT (O : Value) (S P : ByteArray) (a n z b0 b1 : Nat) (L : List E) (i : Nat) (v : Value) (W : World) : Prop := match i with
  | 0 => v = O
  | 1 => v = .string S
  | 2 => v = .int .i64 (a : Int)
  | 3 => v = .int .i64 ((a : Int) + 1)
  | 4 => v = .int .i64 (a : Int)
  | 5 => v = .int .i64 ((a : Int) + 1)
  | 6 => v = .int .i64 (n : Int)
  | 7 => v = .int .i64 ((a : Int) + 1 + (n : Int))
  | 8 => v = .string P
  | 9 => v = .string S
  | 10 => v = .int .i64 (a : Int)
  | 11 => v = .int .i64 ((a : Int) + 1)
  | 12 => v = .int .i64 (n : Int)
  | 13 => v = .int .i64 ((a : Int) + 1 + (n : Int))
  | 14 => v = .int .u8 (z : Int)
  | 15 => v = .int .i64 (z : Int)
  | 16 => v = .agg #[.string P, .int .i64 (z : Int)]
  | 17 => ∃ g, v = .slice (some ⟨g, 0, none⟩) 1 1 ∧ Bx W g 75 #[.string P, .int .i64 (z : Int)] ∧ b1 ≤ g
  | 18 => Eo W b0 v (L ++ [(P, (z : Int))])
  | 19 => Eo W b0 v (L ++ [(P, (z : Int))])
  | _ => True
theorem JT.keep {O : Value} {S P : ByteArray} {a n z b0 b1 : Nat} {L : List E} {W W' : World} (hb : Below W.heap.size W W') : ∀ j v, JT O S P a n z b0 b1 L j v W → JT O S P a n z b0 b1 L j v W' := by
  intro j v h
  rcases j with _ | _ | _ | _ | _ | _ | _ | _ | _ | _ | _ | _ | _ | _ | _ | _ | _ | _ | _ | _ | j
  · exact h
  · exact h
  · exact h
  · exact h
  · exact h
  · exact h
  · exact h
  · exact h
  · exact h
  · exact h
  · exact h
  · exact h
  · exact h
  · exact h
  · exact h
  · exact h
  · exact h
  · obtain ⟨g, h1, h2, h3⟩ := h
    exact ⟨g, h1, h2.on hb, h3⟩
  · exact Eo.on h hb
  · exact Eo.on h hb
  · trivial


set_option maxRecDepth 100000 in
set_option maxHeartbeats 8000000 in
theorem rtake_any (S : ByteArray) (w : World) (hs : S.size ≤ 60000) : Calls Tryz.prog 86 #[.string S] w fun e w' => ∃ v, e = .returned (.tuple #[v, .bool (PD.tk S)]) ∧ Eo w' w.heap.size v (PD.tl S) ∧ Fit (PD.tl S) ∧ Below w.heap.size w w' := by
  obtain ⟨i0, hi, hz0, hz1, hz2⟩ := info_parts Tryz.info75
  have hnf : Fit [] := ⟨by simp, by decide⟩
  have hno := fun L r n => @PD.took_no S L r n
  have hno2 := fun L r n => @PD.took_no2 S L r n
  have hend := fun L => @PD.took_end S L
  have hback := fun L => @PD.put_back S L
  have hnone := @PD.took_none S
  have hsome := fun l => @PD.took_some S l
  obtain ⟨T, hT⟩ : ∃ T, PD.tk S = T := ⟨_, rfl⟩
  obtain ⟨M, hM⟩ : ∃ M, PD.tl S = M := ⟨_, rfl⟩
  rw [hT, hM] at hnone
  simp only [hT, hM] at hsome
  rw [hT, hM]
  generalize PD.took S = K at *
  have HNF := Lib.hid hnf
  have HNO := Lib.hid hno
  have HNO2 := Lib.hid hno2
  have HEND := Lib.hid hend
  have HBACK := Lib.hid hback
  have HNONE := Lib.hid hnone
  have HSOME := Lib.hid hsome
  clear hno hno2 hend hback hnone hsome hT hM hnf
  go_enter Tryz.func86, Tryz.ntmps86
  go_wp2
  go_loopw [4, 5, 6] (fun o i x6 wr => ∃ (a : Nat) (L : List E), a ≤ S.size ∧ i = .int .i64 (a : Int) ∧ Eo wr w.heap.size o L ∧ Below w.heap.size w wr ∧ PD.ents (nums S) = (PD.ents ((nums S).drop a)).map (L ++ ·) ∧ L.length ≤ a ∧ ∀ e ∈ L, e.1.size ≤ 1048576 ∧ I64 e.2) (fun _ i _ _ => S.size - (intOf i).toNat)
  case atStart => exact ⟨0, [], Nat.zero_le _, rfl, World.ownsRow_nil _ _ _ _, Below.refl _ _, by rw [List.drop_zero]; cases PD.ents (nums S) <;> simp, Nat.zero_le _, by simp⟩
  case round =>
    obtain ⟨a, L, ha, rfl, hO, hB, hn, hLa, hf⟩ := hrel
    by_cases hlt : a < S.size
    · obtain ⟨b, hb, hbn⟩ := nums_at S a hlt
      obtain ⟨n, hbe⟩ : ∃ n, b.toNat = n := ⟨_, rfl⟩
      have hn256 : n < 256 := by rw [← hbe]; exact b.toNat_lt
      rw [hbe] at hbn
      have hdr : (nums S).drop a = n :: (nums S).drop (a + 1) := by
        obtain ⟨hl, he⟩ := List.getElem?_eq_some_iff.1 hbn
        rw [List.drop_eq_getElem_cons hl, he]
      have hrl : ((nums S).drop (a + 1)).length = S.size - (a + 1) := by rw [List.length_drop, nums_length]
      rw [hdr] at hn
      have hw0 : IntKind.i64.wrap (n : Int) = n := by rw [IntKind.wrap_i64]; omega
      by_cases h6 : 6 < n
      · obtain ⟨e1, e2⟩ := HNONE.out (HNO.out _ _ _ hn h6)
        have E1 := Lib.hid e1
        have E2 := Lib.hid e2
        have h6' : (6 : Int) < (n : Int) := by omega
        clear hn hdr hrl hf hO e1 e2 HNO HNO2 HEND HBACK HNONE HSOME hbn
        go_wp2
        go_ret2
        rw [E1.out, E2.out]
        exact ⟨_, rfl, World.ownsRow_nil _ _ _ _, HNF.out, hB⟩
      · have h6' : decide ((6 : Int) < (n : Int)) = false := by simp; omega
        have hw1 : IntKind.i64.wrap ((a : Int) + (n : Int)) = (a : Int) + (n : Int) := by rw [IntKind.wrap_i64]; omega
        have hw2 : IntKind.i64.wrap ((a : Int) + (n : Int) + 2) = (a : Int) + (n : Int) + 2 := by rw [IntKind.wrap_i64]; omega
        by_cases hsz : a + n + 2 ≤ S.size
        · have hsz' : decide ((S.size : Int) < (a : Int) + (n : Int) + 2) = false := by simp; omega
          rw [PD.ents_yes (by rw [hrl]; omega)] at hn
          obtain ⟨b2, hb2, hbn2⟩ := nums_at S (a + 1 + n) (by omega)
          obtain ⟨z, hze⟩ : ∃ z, b2.toNat = z := ⟨_, rfl⟩
          have hz256 : z < 256 := by rw [← hze]; exact b2.toNat_lt
          have hwz : IntKind.i64.wrap (z : Int) = z := by rw [IntKind.wrap_i64]; omega
          rw [hze] at hbn2
          obtain ⟨P, hP⟩ : ∃ P, S.extract (a + 1) (a + 1 + n) = P := ⟨_, rfl⟩
          have e1 : P = str (((nums S).drop (a + 1)).take n) := by
            rw [← hP, extract_str, List.drop_take, show a + 1 + n - (a + 1) = n by omega]
          have e2 : ((nums S).drop (a + 1)).getD n 0 = z := by
            rw [List.getD_eq_getElem?_getD, List.getElem?_drop, hbn2]; rfl
          have e5 : P.size = n := by rw [e1, PD.str_size, List.length_take]; omega
          have e3 : ((nums S).drop (a + 1)).drop (n + 1) = (nums S).drop (a + n + 2) := by
            rw [List.drop_drop]; congr 1; omega
          rw [← e1, e2, e3] at hn
          have hnx : PD.ents (nums S) = (PD.ents ((nums S).drop (a + n + 2))).map ((L ++ [(P, (z : Int))]) ++ ·) := by
            rw [hn, Option.map_map]
            congr 1
            funext x
            simp
          have hfx : ∀ e ∈ L ++ [(P, (z : Int))], e.1.size ≤ 1048576 ∧ I64 e.2 := by
            intro e he
            rcases List.mem_append.1 he with he | he
            · exact hf e he
            · simp at he
              subst he
              exact ⟨by simp; omega, by simp [I64]; omega⟩
          have hv1 : IntKind.i64.wrap ((a : Int) + 1) = (a : Int) + 1 := by rw [IntKind.wrap_i64]; omega
          have hv2 : IntKind.i64.wrap ((a : Int) + 1 + (n : Int)) = (a : Int) + 1 + (n : Int) := by rw [IntKind.wrap_i64]; omega
          have hbi : ∀ h : ((a : Int) + 1 + (n : Int)).toNat < S.size, S[((a : Int) + 1 + (n : Int)).toNat]'h = b2 := by
            have e : ((a : Int) + 1 + (n : Int)).toNat = a + 1 + n := by omega
            intro h
            simp only [e]
            exact hb2
          have HNX := Lib.hid hnx
          have HFX := Lib.hid hfx
          have HO3 := Lib.hid hO
          clear hn hnx hdr hrl hf hfx hbn hbn2 e1 e2 e3 hO
          go_upto_region 7 with fail
          obtain ⟨O, hOO⟩ : ∃ O, u4 = O := ⟨_, rfl⟩
          rw [hOO] at HO3 ⊢
          refine wp_region_rel3 Tryz.checked.mixed (by kernel_rfl) (fun done W => (done 18 = false → Below wr.heap.size wr W) ∧ (done 18 = true → Below w.heap.size w W)) (JT O S P a n z w.heap.size wr.heap.size L) ?start ?each ?fin
          case start => exact ⟨fun _ => (Below.refl _ _).drew, fun h => by cases h⟩
          case each =>
            intro i hi' done a1 W hi0 hcl hcl2 hold hp hW K hK
            have hww : ∀ {i : Nat} {W' : World}, i ≠ 18 → Below W.heap.size W W' → ((done 18 || 18 == i) = false → Below wr.heap.size wr W') ∧ ((done 18 || 18 == i) = true → Below w.heap.size w W') := by
              intro i W' hne hb
              have e8 : (18 == i) = false := by simp; omega
              rw [e8, Bool.or_false]
              exact ⟨fun h => (hW.1 h).trans (hb.mono (hW.1 h).size), fun h => (hW.2 h).trans (hb.mono (hW.2 h).size)⟩
            rcases i with _ | _ | _ | _ | _ | _ | _ | _ | _ | _ | _ | _ | _ | _ | _ | _ | _ | _ | _ | i
            · have s := hold 4 (fun j o ho hj => by
                rcases j with _ | _ | _ | _ | _ | _ | _ | _ | _ | _ | _ | _ | _ | _ | _ | _ | _ | _ | _ | _ | j
                case succ.succ.succ.succ.succ.succ.succ.succ.succ.succ.succ.succ.succ.succ.succ.succ.succ.succ.succ.zero =>
                  have := hcl 19 _ rfl hj ⟨0, .phase⟩ (by simp) rfl
                  rw [this] at hi0; cases hi0
                all_goals first | (simp at ho; done) | (simp at ho; subst ho; simp))
              simp [predsOf, Region.binds, slotV, JT] at hp
              refine wpOp_of rfl rfl ?_
              simp at s
              go_simp
              exact hK _ _ (by simp) (hww (by decide) (Below.refl _ _)) (fun _ _ _ h => h) rfl
            · have s := hold 0 (fun j o ho _ => by
                rcases j with _ | _ | _ | _ | _ | _ | _ | _ | _ | _ | _ | _ | _ | _ | _ | _ | _ | _ | _ | _ | j <;> first | (simp at ho; done) | (simp at ho; subst ho; simp))
              simp [predsOf, Region.binds, slotV, JT] at hp
              refine wpOp_of rfl rfl ?_
              simp at s
              go_simp
              exact hK _ _ (by simp) (hww (by decide) (Below.refl _ _)) (fun _ _ _ h => h) rfl
            · have s := hold 5 (fun j o ho _ => by
                rcases j with _ | _ | _ | _ | _ | _ | _ | _ | _ | _ | _ | _ | _ | _ | _ | _ | _ | _ | _ | _ | j <;> first | (simp at ho; done) | (simp at ho; subst ho; simp))
              simp [predsOf, Region.binds, slotV, JT] at hp
              refine wpOp_of rfl rfl ?_
              simp at s
              go_simp
              exact hK _ _ (by simp) (hww (by decide) (Below.refl _ _)) (fun _ _ _ h => h) rfl
            · simp [predsOf, Region.binds, slotV, JT] at hp
              refine wpOp_of rfl rfl ?_
              go_simp
              exact hK _ _ (by simp) (hww (by decide) (Below.refl _ _)) (fun _ _ _ h => h) (by simp [JT])
            · have s := hold 5 (fun j o ho _ => by
                rcases j with _ | _ | _ | _ | _ | _ | _ | _ | _ | _ | _ | _ | _ | _ | _ | _ | _ | _ | _ | _ | j <;> first | (simp at ho; done) | (simp at ho; subst ho; simp))
              simp [predsOf, Region.binds, slotV, JT] at hp
              refine wpOp_of rfl rfl ?_
              simp at s
              go_simp
              exact hK _ _ (by simp) (hww (by decide) (Below.refl _ _)) (fun _ _ _ h => h) rfl
            · simp [predsOf, Region.binds, slotV, JT] at hp
              refine wpOp_of rfl rfl ?_
              go_simp
              exact hK _ _ (by simp) (hww (by decide) (Below.refl _ _)) (fun _ _ _ h => h) (by simp [JT])
            · have s := hold 6 (fun j o ho _ => by
                rcases j with _ | _ | _ | _ | _ | _ | _ | _ | _ | _ | _ | _ | _ | _ | _ | _ | _ | _ | _ | _ | j <;> first | (simp at ho; done) | (simp at ho; subst ho; simp))
              simp [predsOf, Region.binds, slotV, JT] at hp
              refine wpOp_of rfl rfl ?_
              simp at s
              go_simp
              exact hK _ _ (by simp) (hww (by decide) (Below.refl _ _)) (fun _ _ _ h => h) rfl
            · simp [predsOf, Region.binds, slotV, JT] at hp
              refine wpOp_of rfl rfl ?_
              go_simp
              exact hK _ _ (by simp) (hww (by decide) (Below.refl _ _)) (fun _ _ _ h => h) (by simp [JT])
            · simp [predsOf, Region.binds, slotV, JT] at hp
              refine wpOp_of rfl rfl ?_
              go_simp
              rw [if_pos ⟨by omega, by omega⟩, show ((a : Int) + 1 + (n : Int)).toNat = a + 1 + n by omega, hP]
              go_simp
              rw [if_pos ⟨by omega, by omega⟩]
              exact hK _ _ (by simp) (hww (by decide) (Below.refl _ _)) (fun _ _ _ h => h) rfl
            · have s := hold 0 (fun j o ho _ => by
                rcases j with _ | _ | _ | _ | _ | _ | _ | _ | _ | _ | _ | _ | _ | _ | _ | _ | _ | _ | _ | _ | j <;> first | (simp at ho; done) | (simp at ho; subst ho; simp))
              simp [predsOf, Region.binds, slotV, JT] at hp
              refine wpOp_of rfl rfl ?_
              simp at s
              go_simp
              exact hK _ _ (by simp) (hww (by decide) (Below.refl _ _)) (fun _ _ _ h => h) rfl
            · have s := hold 5 (fun j o ho _ => by
                rcases j with _ | _ | _ | _ | _ | _ | _ | _ | _ | _ | _ | _ | _ | _ | _ | _ | _ | _ | _ | _ | j <;> first | (simp at ho; done) | (simp at ho; subst ho; simp))
              simp [predsOf, Region.binds, slotV, JT] at hp
              refine wpOp_of rfl rfl ?_
              simp at s
              go_simp
              exact hK _ _ (by simp) (hww (by decide) (Below.refl _ _)) (fun _ _ _ h => h) rfl
            · simp [predsOf, Region.binds, slotV, JT] at hp
              refine wpOp_of rfl rfl ?_
              go_simp
              exact hK _ _ (by simp) (hww (by decide) (Below.refl _ _)) (fun _ _ _ h => h) (by simp [JT])
            · have s := hold 6 (fun j o ho _ => by
                rcases j with _ | _ | _ | _ | _ | _ | _ | _ | _ | _ | _ | _ | _ | _ | _ | _ | _ | _ | _ | _ | j <;> first | (simp at ho; done) | (simp at ho; subst ho; simp))
              simp [predsOf, Region.binds, slotV, JT] at hp
              refine wpOp_of rfl rfl ?_
              simp at s
              go_simp
              exact hK _ _ (by simp) (hww (by decide) (Below.refl _ _)) (fun _ _ _ h => h) rfl
            · simp [predsOf, Region.binds, slotV, JT] at hp
              refine wpOp_of rfl rfl ?_
              go_simp
              exact hK _ _ (by simp) (hww (by decide) (Below.refl _ _)) (fun _ _ _ h => h) (by simp [JT])
            · simp [predsOf, Region.binds, slotV, JT] at hp
              refine wpOp_of rfl rfl ?_
              go_simp
              rw [if_pos ⟨by omega, by omega⟩]
              go_simp
              exact hK _ _ (by simp) (hww (by decide) (Below.refl _ _)) (fun _ _ _ h => h) rfl
            · simp [predsOf, Region.binds, slotV, JT] at hp
              refine wpOp_of rfl rfl ?_
              go_simp
              exact hK _ _ (by simp) (hww (by decide) (Below.refl _ _)) (fun _ _ _ h => h) (by simp [JT])
            · simp [predsOf, Region.binds, slotV, JT] at hp
              refine wpOp_of rfl rfl ?_
              go_simp
              exact hK _ _ (by simp) (hww (by decide) (Below.refl _ _)) (fun _ _ _ h => h) rfl
            · simp [predsOf, Region.binds, slotV, JT] at hp
              refine wpOp_of rfl rfl ?_
              have h18 : done 18 = false := by
                cases h : done 18 with
                | false => rfl
                | true => exact absurd (hcl 18 _ rfl h ⟨17, .data⟩ (by simp) rfl) (by rw [hi0]; decide)
              have hsz := (hW.1 h18).size
              go_simp
              exact hK _ _ (by simp) (hww (by decide) (al _ _)) (fun j v' _ h => JT.keep (al _ _) j v' h) ⟨_, rfl, Bx.new W 75 _, hsz⟩
            · simp [predsOf, Region.binds, slotV, JT] at hp
              refine wpOp_of rfl rfl ?_
              have hBW := hW.1 hi0
              have hsz := hBW.size
              have hsz0 := hB.size
              obtain ⟨p0, g, p1, p2, p3⟩ := hp
              have hOW := HO3.out.on hBW
              unfold Eo at hOW
              have p0' : a1.eval (.tmp 28) = O := by rw [← p0]; simp [Act.eval]
              have p1' : a1.eval (.tmp 45) = .slice (some ⟨g, 0, none⟩) 1 1 := by rw [← p1]; simp [Act.eval]
              have hnb : ∀ g', O.ownBlock = some g' → g' < wr.heap.size := fun g' e => own_lt HO3.out e
              refine wp_append_own W (.tmp 28) (.tmp 45) 69 rfl w.heap.size 75 i0 (.agg #[.string { data := #[] }, .int .i64 0]) 2 24 Tryz.underlying69 hi hz0 hz1 hz2 rfl (by decide) _ L.length (cs L) p0' hOW ⟨g, 0, none⟩ 1 1 [.string P, .int .i64 (z : Int)] p1' rfl ?c1 ?c2 ?c3 ?c4 ?c5 ?_
              case c1 =>
                intro j u hj
                rw [Addr.add_lit, Nat.zero_add, p2.cell j]
                simpa using hj
              case c2 => intro u hu; simp at hu; rcases hu with rfl | rfl <;> rfl
              case c3 => unfold maxLen; omega
              case c4 => omega
              case c5 => omega
              intro v' w' hown hgrow _
              have hbw : Below w.heap.size w w' := (hB.trans (hBW.mono hB.size)).grown hgrow (by omega) (fun q hq => own_ge HO3.out hq)
              refine hK _ _ (by simp) ⟨fun h => by simp at h, fun _ => hbw⟩ (fun j u hd h => ?_) (Eo.more hown rfl rfl rfl)
              rcases j with _ | _ | _ | _ | _ | _ | _ | _ | _ | _ | _ | _ | _ | _ | _ | _ | _ | _ | _ | _ | j
              case succ.succ.succ.succ.succ.succ.succ.succ.succ.succ.succ.succ.succ.succ.succ.succ.succ.zero =>
                obtain ⟨g', h1, h2, h3⟩ := h
                refine ⟨g', h1, h2.grown hgrow fun e => ?_, h3⟩
                have := hnb g' e
                omega
              case succ.succ.succ.succ.succ.succ.succ.succ.succ.succ.succ.succ.succ.succ.succ.succ.succ.succ.zero => rw [hi0] at hd; cases hd
              case succ.succ.succ.succ.succ.succ.succ.succ.succ.succ.succ.succ.succ.succ.succ.succ.succ.succ.succ.zero =>
                have := hcl 19 _ rfl hd ⟨18, .data⟩ (by simp) rfl
                rw [this] at hi0; cases hi0
              all_goals exact h
            · have j0 : i = 0 := by simp at hi'; omega
              subst j0
              simp [predsOf, Region.binds, slotV, JT] at hp
              refine wpOp_of rfl rfl ?_
              go_simp
              exact hK _ _ (by simp) (hww (by decide) (Below.refl _ _)) (fun _ _ _ h => h) hp.1
          case fin =>
            intro vs W done hRs hdn hW
            have hB9 := hW.2 (hdn 18 (by decide))
            have r9 : Eo W w.heap.size (vs (some 4)) (L ++ [(P, (z : Int))]) := hRs 19 (by decide)
            simp only [putAll, List.foldl_cons, List.foldl_nil, Act.put, List.setIfInBounds_toArray, List.set_cons_succ, List.set_cons_zero]
            have HR9 := Lib.hid r9
            clear hRs hdn hW r9 hB
            generalize vs (some 4) = V4 at *
            generalize vs (some 28) = V28 at *
            generalize vs (some 29) = V29 at *
            generalize vs (some 30) = V30 at *
            generalize vs (some 31) = V31 at *
            generalize vs (some 32) = V32 at *
            generalize vs (some 33) = V33 at *
            generalize vs (some 34) = V34 at *
            generalize vs (some 35) = V35 at *
            generalize vs (some 36) = V36 at *
            generalize vs (some 37) = V37 at *
            generalize vs (some 38) = V38 at *
            generalize vs (some 39) = V39 at *
            generalize vs (some 40) = V40 at *
            generalize vs (some 41) = V41 at *
            generalize vs (some 42) = V42 at *
            generalize vs (some 43) = V43 at *
            generalize vs (some 44) = V44 at *
            generalize vs (some 45) = V45 at *
            generalize vs (some 46) = V46 at *
            go_wp2
            go_roundw
            case rel => exact ⟨a + n + 2, L ++ [(P, (z : Int))], by omega, by go_num, HR9.out, hB9, HNX.out, by simp; omega, HFX.out⟩
            case measure => simp [intOf]; omega
        · have hsz' : decide ((S.size : Int) < (a : Int) + (n : Int) + 2) = true := by simp; omega
          obtain ⟨e1, e2⟩ := HNONE.out (HNO2.out _ _ _ hn (by rw [hrl]; omega))
          have E1 := Lib.hid e1
          have E2 := Lib.hid e2
          clear hn hdr hrl hf hO e1 e2 HNO HNO2 HEND HBACK HNONE HSOME hbn
          go_wp2
          go_ret2
          rw [E1.out, E2.out]
          exact ⟨_, rfl, World.ownsRow_nil _ _ _ _, HNF.out, hB⟩
    · have hae : a = S.size := by omega
      subst hae
      rw [List.drop_of_length_le (by rw [nums_length]; exact Nat.le_refl _), PD.ents_nil, Option.map_some, List.append_nil] at hn
      have hfit : Fit L := ⟨hf, by omega⟩
      have hp := rput_any u4 L wr (hO.row hfit)
      have hend := HEND.out L hn
      have hback := HBACK.out L hn
      have HO := Lib.hid hO
      clear hn hf hO HNO HNO2 HEND HBACK
      cases hok : PD.ok L with
      | false =>
        rw [hok] at hp hend
        obtain ⟨e1, e2⟩ := HNONE.out hend
        have E1 := Lib.hid e1
        have E2 := Lib.hid e2
        clear hback hend hok e1 e2 HNONE HSOME
        go_wp2_with (go_at_call 123; refine hp.mono ?_; rintro e w3 ⟨rfl, hB3⟩)
        go_ret2
        rw [E1.out, E2.out]
        exact ⟨_, rfl, World.ownsRow_nil _ _ _ _, HNF.out, hB.trans (hB3.mono hB.size)⟩
      | true =>
        rw [hok] at hp hend
        rw [hback hok] at hp
        obtain ⟨e1, e2⟩ := HSOME.out L hend
        have E1 := Lib.hid e1
        have E2 := Lib.hid e2
        have hq := seq_yes S
        clear hback hend hok e1 e2 HNONE HSOME
        go_wp2_with (go_at_call 123; refine hp.mono ?_; rintro e w3 ⟨rfl, hB3⟩)
        go_ret2
        rw [E1.out, E2.out]
        exact ⟨_, rfl, HO.out.on hB3, hfit, hB.trans (hB3.mono hB.size)⟩
end Go.Proofs.YtdnobplhfbgbaaaGreatDoor
