/-
  Rows of links. Contract: tree's inside.
-/
import Derived.Test.YtdnobplhfbgbaaaGreatDoorMUp0
namespace Go.Proofs.YtdnobplhfbgbaaaGreatDoor
open Go.RowKit Go.Joins

abbrev Lk := E × PT.N × Int
def lv (x : Lk) : List Value := [.string x.1.1, .int .i64 x.1.2, .int .i64 x.2.1.kind, .int .i64 x.2.1.mode, .string x.2.1.body, .int .i64 x.2.2]
def lks (l : List Lk) : List Value := l.flatMap lv
theorem lks_length (l : List Lk) : (lks l).length = l.length * 6 := by
  induction l with
  | nil => rfl
  | cons x r ih => simp [lks, lv] at ih ⊢; omega
theorem lks_append (a b : List Lk) : lks (a ++ b) = lks a ++ lks b := by simp [lks]
theorem lks_at : ∀ (l : List Lk) (k : Nat) (x : Lk) (i : Nat), l[k]? = some x → i < 6 → (lks l)[k * 6 + i]? = (lv x)[i]?
  | [], _, _, _, h, _ => by simp at h
  | y :: r, 0, x, i, h, hi => by
    obtain rfl : y = x := by simpa using h
    rw [show lks (y :: r) = lv y ++ lks r from rfl, Nat.zero_mul, Nat.zero_add, List.getElem?_append_left (by simpa [lv] using hi)]
  | y :: r, k + 1, x, i, h, hi => by
    rw [show lks (y :: r) = lv y ++ lks r from rfl, List.getElem?_append_right (by simp [lv]; omega), show (k + 1) * 6 + i - (lv y).length = k * 6 + i by simp [lv]; omega]
    exact lks_at r k x i (by simpa using h) hi
def Ks (w : World) (v : Value) (l : List Lk) : Prop := Sl w 6 v l.length (lks l)
def Ko (w : World) (base : Nat) (v : Value) (l : List Lk) : Prop := w.ownsRow base 130 6 v l.length (lks l)
theorem Ks.below {w w' : World} {v : Value} {l : List Lk} (h : Ks w v l) (hb : Below w.heap.size w w') : Ks w' v l := Sl.below h hb
theorem Ko.row {w : World} {base : Nat} {v : Value} {l : List Lk} (h : Ko w base v l) : Ks w v l := Sl.own h
theorem Ko.nil (w : World) (base : Nat) : Ko w base (.slice none 0 0) [] := World.ownsRow_nil _ _ _ _
theorem Ko.on {w w' : World} {base : Nat} {v : Value} {l : List Lk} (h : Ko w base v l) (hb : Below w.heap.size w w') : Ko w' base v l := by
  refine ⟨h.1, ?_⟩
  rcases h.2 with h0 | ⟨g, cap, cur, hv, hg, hh, hr⟩
  · exact .inl h0
  · exact .inr ⟨g, cap, cur, hv, hg, Bx.on (show Bx w g 130 cur from hh) hb, hr⟩
theorem Ko.more {w : World} {base n : Nat} {v : Value} {l : List Lk} {x : Lk} {xs ys : List Value} (h : w.ownsRow base 130 6 v (n + 1) (xs ++ ys)) (hn : l.length = n) (hx : lks l = xs) (hy : ys = lv x) : Ko w base v (l ++ [x]) := by
  subst hn hx hy
  unfold Ko
  rw [List.length_append, lks_append, show lks [x] = lv x by simp [lks]]
  exact h
theorem Ko.base {w : World} {a b : Nat} {v : Value} {l : List Lk} (h : Ko w b v l) (hab : a ≤ b) : Ko w a v l := by
  obtain ⟨h1, h2⟩ := h
  refine ⟨h1, ?_⟩
  rcases h2 with h0 | ⟨g, cap, cur, hv, hg, hr⟩
  · exact .inl h0
  · exact .inr ⟨g, cap, cur, hv, Nat.le_trans hab hg, hr⟩
theorem Ks.form {w : World} {v : Value} {l : List Lk} (h : Ks w v l) : ∃ A c, v = .slice A l.length c := by
  obtain ⟨A, c, hv, _⟩ := h
  exact ⟨A, c, hv⟩
theorem Ks.at {w : World} {A : Option Addr} {n c : Nat} {l : List Lk} (h : Ks w (.slice A n c) l) (h0 : 0 < l.length) : ∃ b o, A = some ⟨b, o, none⟩ ∧ b < w.heap.size ∧ ∀ (j : Nat) (x : Lk), l[j]? = some x → w.cell? ⟨b, o + j * 6, none⟩ = some (.string x.1.1) ∧ w.cell? ⟨b, o + j * 6 + 1, none⟩ = some (.int .i64 x.1.2) ∧ w.cell? ⟨b, o + j * 6 + 2, none⟩ = some (.int .i64 x.2.1.kind) ∧ w.cell? ⟨b, o + j * 6 + 3, none⟩ = some (.int .i64 x.2.1.mode) ∧ w.cell? ⟨b, o + j * 6 + 4, none⟩ = some (.string x.2.1.body) ∧ w.cell? ⟨b, o + j * 6 + 5, none⟩ = some (.int .i64 x.2.2) := by
  obtain ⟨A', c', hv, hl, hA⟩ := h
  injection hv with e1 e2 e3
  subst e1 e2 e3
  obtain ⟨b, o, rfl, hb, hc⟩ := hA h0
  refine ⟨b, o, rfl, hb, fun j x hx => ?_⟩
  have hj := (List.getElem?_eq_some_iff.1 hx).1
  have hat : ∀ i, i < 6 → w.cell? ⟨b, o + j * 6 + i, none⟩ = (lv x)[i]? := fun i hi => by
    rw [Nat.add_assoc, hc (j * 6 + i) (by omega), lks_at l j x i hx hi]
  exact ⟨hat 0 (by decide), hat 1 (by decide), hat 2 (by decide), hat 3 (by decide), hat 4 (by decide), hat 5 (by decide)⟩
/-- The entries of folder z, each with the node that it leads to. -/
def PT.inside (t : List PT.N) (z : Int) : List Lk := (PT.ents (PT.atz t z)).map fun e => (e, PT.atz t e.2, z)
theorem Tryz.info130 : (Tryz.prog.info? 130).map (fun i => (i.zero, i.size, i.bytes)) = some (some (.agg #[.string { data := #[] }, .int .i64 0, .int .i64 0, .int .i64 0, .string { data := #[] }, .int .i64 0]), 6, 64) := by kernel_rfl
def JL (O T : Value) (gx : Nat) (s : ByteArray) (y z : Int) (m : PT.N) (b0 b1 : Nat) (L : List Lk) (i : Nat) (v : Value) (W : World) : Prop := match i with
  | 0 => v = O
  | 1 => v = .agg #[.string s, .int .i64 y]
  | 2 => v = T
  | 3 => v = .pointer (some ⟨gx, 1, none⟩)
  | 4 => v = .int .i64 y
  | 5 => v = nodeV m
  | 6 => v = .int .i64 z
  | 7 => v = .agg #[.string s, .int .i64 y, .int .i64 m.kind, .int .i64 m.mode, .string m.body, .int .i64 z]
  | 8 => ∃ g, v = .slice (some ⟨g, 0, none⟩) 1 1 ∧ Bx W g 130 #[.string s, .int .i64 y, .int .i64 m.kind, .int .i64 m.mode, .string m.body, .int .i64 z] ∧ b1 ≤ g
  | 9 => Ko W b0 v (L ++ [((s, y), m, z)])
  | 10 => Ko W b0 v (L ++ [((s, y), m, z)])
  | _ => True
theorem JL.keep {O T : Value} {gx : Nat} {s : ByteArray} {y z : Int} {m : PT.N} {b0 b1 : Nat} {L : List Lk} {W W' : World} (hb : Below W.heap.size W W') : ∀ j v, JL O T gx s y z m b0 b1 L j v W → JL O T gx s y z m b0 b1 L j v W' := by
  intro j v h
  rcases j with _ | _ | _ | _ | _ | _ | _ | _ | _ | _ | _ | j
  · exact h
  · exact h
  · exact h
  · exact h
  · exact h
  · exact h
  · exact h
  · exact h
  · obtain ⟨g, h1, h2, h3⟩ := h
    exact ⟨g, h1, h2.on hb, h3⟩
  · exact Ko.on h hb
  · exact Ko.on h hb
  · trivial
set_option maxRecDepth 100000 in
set_option maxHeartbeats 8000000 in
theorem inside_any (v : Value) (t : List PT.N) (z : Int) (w : World) (h : Ts w v t) : Calls Tryz.prog 67 #[v, .int .i64 z] w fun e w' => ∃ v', e = .returned v' ∧ Ko w' w.heap.size v' (PT.inside t z) ∧ (PT.inside t z).length ≤ 65536 ∧ Below w.heap.size w w' := by
  obtain ⟨i0, hi, hz0, hz1, hz2⟩ := info_parts Tryz.info130
  have HT := Lib.hid h
  have ha := at_any v t z w h
  obtain ⟨T, hTT⟩ : ∃ T, v = T := ⟨_, rfl⟩
  obtain ⟨n, hn⟩ : ∃ n, PT.atz t z = n := ⟨_, rfl⟩
  obtain ⟨M, hM⟩ : ∃ M, PT.ents n = M := ⟨_, rfl⟩
  have hins : PT.inside t z = M.map fun e => (e, PT.atz t e.2, z) := by rw [PT.inside, hn, hM]
  rw [hn] at ha
  have hnn := nnames_any n
  rw [hM] at hnn
  subst hTT
  have HM := Lib.hid (And.intro hn hM)
  have HI := Lib.hid hins
  clear h hn hM hins
  go_enter Tryz.func67, Tryz.ntmps67
  go_wp2_with (first | (go_at_call 110; refine (hnn wa).mono ?_; rintro e wb ⟨vb, rfl, hOb, hFb, hBb⟩; obtain ⟨Ab, cb, rfl, _⟩ := hOb.cap) | (go_at_call 57; refine ha.mono ?_; rintro e wa ⟨rfl, hBa⟩))
  have hE := hOb.row hFb
  have hMl := hFb.2
  have hB0 : Below w.heap.size w wb := hBa.trans (hBb.mono hBa.size)
  have HE := Lib.hid hE
  have HTb := Lib.hid (HT.out.below hB0)
  have hz0w := hB0.size
  have HB0 := Lib.hid hB0
  have HF := Lib.hid hFb
  generalize hL : M.length = ml at *
  clear hE hFb hOb hBa hBb ha hnn hB0 HT
  go_loopw [5, 13] (fun o i wr => ∃ k : Nat, k ≤ ml ∧ i = .int .i64 (k : Int) ∧ Ko wr wb.heap.size o ((M.take k).map fun e => (e, PT.atz t e.2, z)) ∧ Below wb.heap.size wb wr) (fun _ i _ => ml - (intOf i).toNat)
  case atStart => exact ⟨0, Nat.zero_le _, rfl, Ko.nil _ _, Below.refl _ _⟩
  case round =>
    obtain ⟨k, hk, rfl, hO, hB⟩ := hrel
    by_cases hlt : k < ml
    · obtain ⟨b1, o1, rfl, hb1, hcell⟩ := (HE.out.below hB).at (by rw [hL]; omega)
      obtain ⟨⟨s, y⟩, hx⟩ : ∃ x, M[k]? = some x := ⟨_, List.getElem?_eq_getElem (by rw [hL]; omega)⟩
      obtain ⟨g0, g1⟩ := hcell k _ hx
      have hnx : (M.take (k + 1)).map (fun e => (e, PT.atz t e.2, z)) = (M.take k).map (fun e => (e, PT.atz t e.2, z)) ++ [((s, y), PT.atz t y, z)] := by rw [List.take_add_one, hx]; simp
      have hkl : ((M.take k).map (fun e => (e, PT.atz t e.2, z))).length = k := by rw [List.length_map, List.length_take, hL]; omega
      obtain ⟨m, hm⟩ : ∃ m, PT.atz t y = m := ⟨_, rfl⟩
      generalize (M.take k).map (fun e => (e, PT.atz t e.2, z)) = L at *
      have hd : decide ((k : Int) < (ml : Int)) = true := by simp; omega
      have hB1 := hB.alloc hB.size (.cells #[.string s, .int .i64 y] 75)
      have hbx := Bx.new wr 75 #[.string s, .int .i64 y]
      have hO1 := hO.on (al wr (.cells #[.string s, .int .i64 y] 75))
      have hgl : wr.heap.size < (wr.alloc (.cells #[.string s, .int .i64 y] 75)).heap.size := by simp
      rw [hm] at hnx
      dsimp only at g0 g1
      have HNX := Lib.hid hnx
      have hat := fun W hb => hm ▸ at_any v t y W (HTb.out.below hb)
      have HAT := Lib.hid hat
      clear hB hO hcell hnx hx hm hat
      go_upto_region 5 with fail
      generalize wr.alloc (.cells #[.string s, .int .i64 y] 75) = w1 at *
      generalize wr.heap.size = gx at *
      obtain ⟨O, hOO⟩ : ∃ O, u5 = O := ⟨_, rfl⟩
      rw [hOO] at hO1 ⊢
      have HO := Lib.hid hO1
      have hB := hB1
      clear hO1 hB1 hOO g0 g1
      refine wp_region_rel3 Tryz.checked.mixed (by kernel_rfl) (fun done W => (done 9 = false → Below w1.heap.size w1 W) ∧ (done 9 = true → Below wb.heap.size wb W)) (JL O v gx s y z m wb.heap.size w1.heap.size L) ?start ?each ?fin
      case start => exact ⟨fun _ => (Below.refl _ _).drew, fun h => by cases h⟩
      case each =>
        intro i hi' done a1 W hi0 hcl hcl2 hold hp hW K hK
        have hww : ∀ {i : Nat} {W' : World}, i ≠ 9 → Below W.heap.size W W' → ((done 9 || 9 == i) = false → Below w1.heap.size w1 W') ∧ ((done 9 || 9 == i) = true → Below wb.heap.size wb W') := by
          intro i W' hne hb
          have e8 : (9 == i) = false := by simp; omega
          rw [e8, Bool.or_false]
          exact ⟨fun h => (hW.1 h).trans (hb.mono (hW.1 h).size), fun h => (hW.2 h).trans (hb.mono (hW.2 h).size)⟩
        rcases i with _ | _ | _ | _ | _ | _ | _ | _ | _ | _ | i
        · have s := hold 5 (fun j o ho hj => by
            rcases j with _ | _ | _ | _ | _ | _ | _ | _ | _ | _ | _ | j
            case succ.succ.succ.succ.succ.succ.succ.succ.succ.succ.zero =>
              have := hcl 10 _ rfl hj ⟨0, .phase⟩ (by simp) rfl
              rw [this] at hi0; cases hi0
            all_goals first | (simp at ho; done) | (simp at ho; subst ho; simp))
          simp [predsOf, Region.binds, slotV, JL] at hp
          refine wpOp_of rfl rfl ?_
          simp at s
          go_simp
          exact hK _ _ (by simp) (hww (by decide) (Below.refl _ _)) (fun _ _ _ h => h) rfl
        · have s := hold 7 (fun j o ho _ => by
            rcases j with _ | _ | _ | _ | _ | _ | _ | _ | _ | _ | _ | j <;> first | (simp at ho; done) | (simp at ho; subst ho; simp))
          have h9 : done 9 = false := by
            cases h : done 9 with
            | false => rfl
            | true =>
              have q8 := hcl 9 _ rfl h ⟨8, .data⟩ (by simp) rfl
              have q7 := hcl 8 _ rfl q8 ⟨7, .data⟩ (by simp) rfl
              have q1 := hcl 7 _ rfl q7 ⟨1, .data⟩ (by simp) rfl
              rw [q1] at hi0; cases hi0
          simp [predsOf, Region.binds, slotV, JL] at hp
          have hx := hbx.below (hW.1 h9) hgl
          obtain ⟨c0, c1⟩ := hx.pair
          refine wpOp_of rfl rfl ?_
          simp at s
          go_simp
          exact hK _ _ (by simp) (hww (by decide) (Below.refl _ _)) (fun _ _ _ h => h) rfl
        · have s := hold 0 (fun j o ho _ => by
            rcases j with _ | _ | _ | _ | _ | _ | _ | _ | _ | _ | _ | j <;> first | (simp at ho; done) | (simp at ho; subst ho; simp))
          simp [predsOf, Region.binds, slotV, JL] at hp
          refine wpOp_of rfl rfl ?_
          simp at s
          go_simp
          exact hK _ _ (by simp) (hww (by decide) (Below.refl _ _)) (fun _ _ _ h => h) rfl
        · have s := hold 7 (fun j o ho _ => by
            rcases j with _ | _ | _ | _ | _ | _ | _ | _ | _ | _ | _ | j <;> first | (simp at ho; done) | (simp at ho; subst ho; simp))
          simp [predsOf, Region.binds, slotV, JL] at hp
          refine wpOp_of rfl rfl ?_
          simp at s
          go_simp
          exact hK _ _ (by simp) (hww (by decide) (Below.refl _ _)) (fun _ _ _ h => h) rfl
        · have h9 : done 9 = false := by
            cases h : done 9 with
            | false => rfl
            | true =>
              have q8 := hcl 9 _ rfl h ⟨8, .data⟩ (by simp) rfl
              have q7 := hcl 8 _ rfl q8 ⟨7, .data⟩ (by simp) rfl
              have q5 := hcl 7 _ rfl q7 ⟨5, .data⟩ (by simp) rfl
              have q4 := hcl 5 _ rfl q5 ⟨4, .data⟩ (by simp) rfl
              rw [q4] at hi0; cases hi0
          simp [predsOf, Region.binds, slotV, JL] at hp
          have hx := hbx.below (hW.1 h9) hgl
          obtain ⟨c0, c1⟩ := hx.pair
          refine wpOp_of rfl rfl ?_
          go_simp
          exact hK _ _ (by simp) (hww (by decide) (Below.refl _ _)) (fun _ _ _ h => h) rfl
        · have h9 : done 9 = false := by
            cases h : done 9 with
            | false => rfl
            | true =>
              have q8 := hcl 9 _ rfl h ⟨8, .data⟩ (by simp) rfl
              have q7 := hcl 8 _ rfl q8 ⟨7, .data⟩ (by simp) rfl
              have q5 := hcl 7 _ rfl q7 ⟨5, .data⟩ (by simp) rfl
              rw [q5] at hi0; cases hi0
          simp [predsOf, Region.binds, slotV, JL] at hp
          refine wpOp_of rfl rfl ?_
          go_simp
          refine (HAT.out W (hB.trans ((hW.1 h9).mono hB.size))).mono ?_
          rintro e W2 ⟨rfl, hB'⟩
          exact hK _ _ (by simp) (hww (by decide) hB') (fun j v' _ h => JL.keep hB' j v' h) rfl
        · have s := hold 1 (fun j o ho _ => by
            rcases j with _ | _ | _ | _ | _ | _ | _ | _ | _ | _ | _ | j <;> first | (simp at ho; done) | (simp at ho; subst ho; simp))
          simp [predsOf, Region.binds, slotV, JL] at hp
          refine wpOp_of rfl rfl ?_
          simp at s
          go_simp
          exact hK _ _ (by simp) (hww (by decide) (Below.refl _ _)) (fun _ _ _ h => h) rfl
        · simp [predsOf, Region.binds, slotV, JL] at hp
          refine wpOp_of rfl rfl ?_
          go_simp
          exact hK _ _ (by simp) (hww (by decide) (Below.refl _ _)) (fun _ _ _ h => h) rfl
        · have h9 : done 9 = false := by
            cases h : done 9 with
            | false => rfl
            | true =>
              have q8 := hcl 9 _ rfl h ⟨8, .data⟩ (by simp) rfl
              rw [q8] at hi0; cases hi0
          simp [predsOf, Region.binds, slotV, JL] at hp
          refine wpOp_of rfl rfl ?_
          have hsz := (hW.1 h9).size
          go_simp
          exact hK _ _ (by simp) (hww (by decide) (al _ _)) (fun j v' _ h => JL.keep (al _ _) j v' h) ⟨_, rfl, Bx.new W 130 _, hsz⟩
        · simp [predsOf, Region.binds, slotV, JL] at hp
          refine wpOp_of rfl rfl ?_
          have hBW := hW.1 hi0
          have hsz := hBW.size
          have hsz0 := hB.size
          obtain ⟨p0, ⟨g, p1, p2, p3⟩, _⟩ := hp
          have hOW := HO.out.on hBW
          unfold Ko at hOW
          have p0' : a1.eval (.tmp 17) = O := by rw [← p0]; simp [Act.eval]
          have p1' : a1.eval (.tmp 25) = .slice (some ⟨g, 0, none⟩) 1 1 := by rw [← p1]; simp [Act.eval]
          have hnb : ∀ g', O.ownBlock = some g' → g' < w1.heap.size := fun g' e => own_lt HO.out e
          refine wp_append_own W (.tmp 17) (.tmp 25) 80 rfl wb.heap.size 130 i0 (.agg #[.string { data := #[] }, .int .i64 0, .int .i64 0, .int .i64 0, .string { data := #[] }, .int .i64 0]) 6 64 Tryz.underlying80 hi hz0 hz1 hz2 rfl (by decide) _ L.length (lks L) p0' hOW ⟨g, 0, none⟩ 1 1 (lv ((s, y), m, z)) p1' rfl ?c1 ?c2 ?c3 ?c4 ?c5 ?_
          case c1 =>
            intro j u hj
            rw [Addr.add_lit, Nat.zero_add, p2.cell j]
            simpa [lv] using hj
          case c2 => intro u hu; simp [lv] at hu; rcases hu with rfl | rfl | rfl | rfl | rfl | rfl <;> rfl
          case c3 => unfold maxLen; omega
          case c4 => omega
          case c5 => omega
          intro v' w' hown hgrow _
          have hbw : Below wb.heap.size wb w' := (hB.trans (hBW.mono hB.size)).grown hgrow (by omega) (fun q hq => own_ge HO.out hq)
          refine hK _ _ (by simp) ⟨fun h => by simp at h, fun _ => hbw⟩ (fun j u hd h => ?_) (Ko.more hown rfl rfl rfl)
          rcases j with _ | _ | _ | _ | _ | _ | _ | _ | _ | _ | _ | j
          case succ.succ.succ.succ.succ.succ.succ.succ.zero =>
            obtain ⟨g', h1, h2, h3⟩ := h
            refine ⟨g', h1, h2.grown hgrow fun e => ?_, h3⟩
            have := hnb g' e
            omega
          case succ.succ.succ.succ.succ.succ.succ.succ.succ.zero => rw [hi0] at hd; cases hd
          case succ.succ.succ.succ.succ.succ.succ.succ.succ.succ.zero =>
            have := hcl 10 _ rfl hd ⟨9, .data⟩ (by simp) rfl
            rw [this] at hi0; cases hi0
          all_goals exact h
        · have j0 : i = 0 := by simp at hi'; omega
          subst j0
          simp [predsOf, Region.binds, slotV, JL] at hp
          refine wpOp_of rfl rfl ?_
          go_simp
          exact hK _ _ (by simp) (hww (by decide) (Below.refl _ _)) (fun _ _ _ h => h) hp.1
      case fin =>
        intro vs W done hRs hdn hW
        have hB9 := hW.2 (hdn 9 (by decide))
        have r9 : Ko W wb.heap.size (vs (some 5)) (L ++ [((s, y), m, z)]) := hRs 10 (by decide)
        simp only [putAll, List.foldl_cons, List.foldl_nil, Act.put, List.setIfInBounds_toArray, List.set_cons_succ, List.set_cons_zero]
        have HR9 := Lib.hid r9
        clear hRs hdn hW r9 hB
        generalize vs (some 5) = V5 at *
        generalize vs (some 17) = V17 at *
        generalize vs (some 18) = V18 at *
        generalize vs (some 19) = V19 at *
        generalize vs (some 20) = V20 at *
        generalize vs (some 21) = V21 at *
        generalize vs (some 22) = V22 at *
        generalize vs (some 23) = V23 at *
        generalize vs (some 24) = V24 at *
        generalize vs (some 25) = V25 at *
        generalize vs (some 26) = V26 at *
        go_wp2
        go_roundw
        case rel => exact ⟨k + 1, by omega, by go_num, by rw [HNX.out]; exact HR9.out, hB9⟩
        case measure => simp [intOf]; omega
    · have hkl : k = ml := by omega
      subst hkl
      rw [List.take_of_length_le (by rw [hL]; exact Nat.le_refl _)] at hO
      have HO := Lib.hid hO
      have hd : decide ((k : Int) < (k : Int)) = false := by simp
      clear hO
      go_wp2
      go_ret
      rw [HI.out]
      exact ⟨_, rfl, HO.out.base hz0w, by rw [List.length_map, hL]; exact hMl, HB0.out.trans (hB.mono hz0w)⟩
end Go.Proofs.YtdnobplhfbgbaaaGreatDoor
