/-
  Contracts: dir.place, dir.joined.
-/
import Derived.Test.YtckkljiaicmljaaQd
namespace Go.Proofs.Ytckkljiaicmljaa
open Go.RowKit Go.Joins

theorem drewN_below {B : Nat} {w0 w : World} (h : Below B w0 w) : ∀ k, Below B w0 (World.drewN w k)
  | 0 => h
  | k + 1 => (drewN_below h k).drew

set_option maxHeartbeats 4000000 in
theorem place_any (v : Value) (l : List E) (n : ByteArray) (w : World) (h : Es w v l) : Calls Try.prog 24 #[v, .string n] w fun e w' => e = .returned (.tuple #[.int .i64 (PD.place l n : Nat), .bool (PD.isAt l n)]) ∧ Below w.heap.size w w' := by
  obtain ⟨A, c, rfl⟩ := h.form
  have hl := h.2.2
  obtain ⟨f, hf⟩ : ∃ f, PD.place l n = f := ⟨_, rfl⟩
  obtain ⟨b, hb⟩ : ∃ b, PD.isAt l n = b := ⟨_, rfl⟩
  rw [hf, hb]
  generalize hL : l.length = L at *
  have HF := Lib.hid hf
  have HB := Lib.hid hb
  have HS := Lib.hid h
  have HL := Lib.hid hL
  clear hf h hL hb
  go_enter Try.func24, Try.ntmps24
  go_wp2
  go_loopw [10] (fun i wr => ∃ k : Nat, k ≤ L ∧ i = .int .i64 (k : Int) ∧ PD.low l n k ∧ Below w.heap.size w wr) (fun i _ => L - (intOf i).toNat)
  case atStart => exact ⟨0, Nat.zero_le _, rfl, fun e he => by simp at he, Below.refl _ _⟩
  case round =>
    obtain ⟨k, hk, rfl, hlow, hB⟩ := hrel
    by_cases hlt : k < L
    · obtain ⟨b0, o0, rfl, hb0, hcell⟩ := (HS.out.below hB).at (by rw [HL.out]; omega)
      obtain ⟨x, hx⟩ : ∃ x, l[k]? = some x := ⟨_, List.getElem?_eq_getElem (by rw [HL.out]; omega)⟩
      obtain ⟨g0, g1⟩ := hcell k x hx
      have hb1 := hB.alloc hB.size (.cells (ev x) 26)
      have hbx := Bx.new wr 26 (ev x)
      cases hlt2 : PD.lt x.1 n with
      | true =>
        have hlo := PD.low_succ hlow hx hlt2
        obtain ⟨s, z⟩ := x
        rw [PD.lt] at hlt2
        dsimp only [ev] at hb1 hbx g0 g1 hlt2
        have HLO := Lib.hid hlo
        clear hcell hx hlow hlo
        go_upto_region 4 with fail
        generalize wr.alloc (.cells #[.string s, .int .i64 z] 26) = w2 at *
        generalize wr.heap.size = gx at *
        clear g0 g1 hb0 hB
        obtain ⟨c0, c1⟩ := hbx.pair
        go_wp2
        go_roundw
        case rel => exact ⟨k + 1, by omega, by go_num, HLO.out, hb1⟩
        case measure => simp [intOf]; omega
      | false =>
        have hp := PD.low_place l n k x hlow hx hlt2
        have hfk : f = k := by rw [← HF.out]; exact hp
        have hbe : b = (x.1.toList == n.toList) := by rw [← HB.out, PD.isAt, hp, hx]
        obtain ⟨s, z⟩ := x
        rw [PD.lt] at hlt2
        dsimp only [ev] at hb1 hbx g0 g1 hlt2 hbe
        subst hfk
        have HBE := Lib.hid hbe
        clear hcell hx hlow hp hbe
        go_upto_region 4 with fail
        generalize wr.alloc (.cells #[.string s, .int .i64 z] 26) = w2 at *
        generalize wr.heap.size = gx at *
        clear g0 g1 hb0 hB
        obtain ⟨c0, c1⟩ := hbx.pair
        go_wp2_with fail
        go_quiet (fail)
        go_wp2
        go_ret2
        rw [HBE.out]
        exact ⟨rfl, drewN_below hb1 _⟩
    · have hkn : k = L := by omega
      subst hkn
      have hp := PD.low_end (l := l) (n := n) (by rw [HL.out]; exact hlow)
      have hfk : f = k := by rw [← HF.out, hp, HL.out]
      have hbe : b = false := by rw [← HB.out, PD.isAt, hp, List.getElem?_eq_none (Nat.le_refl _)]
      subst hfk hbe
      clear HF HS HL hp HB hlow
      go_wp2
      go_ret2
      exact ⟨rfl, hB⟩

/-- A row of rows of entries. -/
def Ll (w : World) (v : Value) (ls : List (Value × List E)) : Prop := Sl w 1 v ls.length (ls.map (·.1)) ∧ (∀ p ∈ ls, Es w p.1 p.2) ∧ ls.length ≤ 8
theorem Ll.below {w w' : World} {v : Value} {ls : List (Value × List E)} (h : Ll w v ls) (hb : Below w.heap.size w w') : Ll w' v ls := ⟨h.1.below hb, fun p hp => (h.2.1 p hp).below hb, h.2.2⟩
theorem Ll.form {w : World} {v : Value} {ls : List (Value × List E)} (h : Ll w v ls) : ∃ A c, v = .slice A ls.length c := by
  obtain ⟨⟨A, c, hv, _⟩, _⟩ := h
  exact ⟨A, c, hv⟩
theorem Ll.at {w : World} {A : Option Addr} {n c : Nat} {ls : List (Value × List E)} (h : Ll w (.slice A n c) ls) (h0 : 0 < ls.length) : ∃ b o, A = some ⟨b, o, none⟩ ∧ b < w.heap.size ∧ ∀ j x, ls[j]? = some x → w.cell? ⟨b, o + j, none⟩ = some x.1 := by
  obtain ⟨A', c', hv, hl, hA⟩ := h.1
  injection hv with e1 e2 e3
  subst e1
  obtain ⟨b, o, e, hb, hc⟩ := hA h0
  refine ⟨b, o, e, hb, fun j x hj => ?_⟩
  have hlt : j < ls.length := (List.getElem?_eq_some_iff.1 hj).1
  rw [hc j (by omega), List.getElem?_map, hj, Option.map_some]
theorem Ll.new (w : World) (C : Array Value) (fr : Nat × Nat) (n c g : Nat) (hg : g = w.heap.size) (ls : List (Value × List E)) (hc : C.toList = ls.map (·.1)) (hn : ls.length = n) (hb : ∀ p ∈ ls, Es w p.1 p.2) (h8 : n ≤ 8) : Ll (w.alloc (.cells C 23 fr)) (.slice (some ⟨g, 0, none⟩) n c) ls := by
  have := Sl.new w C 23 fr n c g hg (by rw [← Array.length_toList, hc, List.length_map, hn])
  rw [hc] at this
  exact ⟨by rw [hn]; exact this, fun p hp => (hb p hp).below (al _ _), by omega⟩

theorem Eo.more {w : World} {base n : Nat} {v : Value} {l : List E} {e : E} {xs ys : List Value} (h : w.ownsRow base 26 2 v (n + 1) (xs ++ ys)) (hn : l.length = n) (hx : cs l = xs) (hy : ys = [.string e.1, .int .i64 e.2]) : Eo w base v (l ++ [e]) := by
  subst hn hx hy
  unfold Eo
  rw [List.length_append, cs_append]
  exact h

def all (ls : List (Value × List E)) : List E := ls.flatMap (·.2)
theorem all_snoc (ls : List (Value × List E)) (p : Value × List E) : all (ls ++ [p]) = all ls ++ p.2 := by simp [all]
theorem all_le {ls : List (Value × List E)} (h : ∀ p ∈ ls, p.2.length ≤ 65536) : (all ls).length ≤ 65536 * ls.length := by
  induction ls with
  | nil => simp [all]
  | cons p r ih =>
    have h1 := h p (by simp)
    have h2 := ih fun x hx => h x (by simp [hx])
    have h3 : (all (p :: r)).length = p.2.length + (all r).length := by simp [all]
    rw [h3, List.length_cons]
    omega

/-- As 'wp_region_rel'; what is done has its forerunners done; a slot that nothing done has written holds what it held. -/
theorem wp_region_rel3 {P : Program} {id : Nat} {ops : Array Oper} {Q : Exit → Act → World → Prop} {a0 : Act} {w0 : World} (hm : P.follows .mixedOrders = true)
    (ok : regionOk ops a0.tmps.size = true)
    (W : (Nat → Bool) → World → Prop) (R : Nat → Value → World → Prop)
    (start : W (fun _ => false) w0.drew)
    (each : ∀ i, i < ops.size → ∀ (done : Nat → Bool) a w, done i = false → Closed ops done → Closed ops (fun j => done j || j == i) → (∀ t, (∀ (j : Nat) o, ops[j]? = some o → done j = true → o.dst ≠ some t) → a.tmps[t]? = a0.tmps[t]?) →
      predsOf ops R a w i → W done w →
      ∀ K : Act → World → Prop, (∀ v w', (((ops[i]?).bind (·.dst)) = none → v = undef) → W (fun j => done j || j == i) w' → (∀ j v', done j = true → R j v' w → R j v' w') → R i v w' → K (a.put ((ops[i]?).bind (·.dst)) v) w') → wpOp P ops Q i K a w)
    (fin : ∀ (vs : Option Tmp → Value) w done, (∀ j, j < ops.size → R j (vs ((ops[j]?).bind (·.dst))) w) → (∀ j, j < ops.size → done j = true) → W done w → Q .normal (putAll vs ops.toList a0) w) :
    (Code.region id ops true).wp P Q a0 w0 := by
  refine wp_region_rel hm ok (fun done w => W done w ∧ Closed ops done) R ⟨start, fun _ _ _ h => by cases h⟩ (fun i o ho done a w hi0 hedge hF hRs hWw K hK => ?_) (fun vs w done hRs hall hWw => ?_)
  · have hi : i < ops.size := by
      rcases Nat.lt_or_ge i ops.size with h' | h'
      · exact h'
      · rw [Array.getElem?_eq_none h'] at ho; cases ho
    have hcl : Closed ops (fun j => done j || j == i) := by
      intro j oj hoj hj e he hb
      by_cases hji : j = i
      · subst hji
        obtain rfl : o = oj := Option.some.inj (ho.symm.trans hoj)
        simp [hedge e he hb]
      · have hj' : done j = true := by simpa [hji] using hj
        simp [hWw.2 j oj hoj hj' e he hb]
    refine each i hi done a w hi0 hWw.2 hcl (fun t ht => hF.rest t ht) ?_ hWw.1 K fun v w' hv hW' hst hRi => ?_
    · unfold predsOf
      rw [ho]
      intro e he hb
      cases hoe : ops[e.on]? with
      | none => trivial
      | some oe => exact hRs e.on oe hoe (hedge e (by simpa using he) hb)
    · rw [ho] at hv ⊢
      exact hK v w' hv ⟨hW', hcl⟩ hst hRi
  · refine fin vs w done (fun j hj => ?_) (fun j hj => hall j _ (Array.getElem?_eq_getElem hj)) hWw.1
    rw [Array.getElem?_eq_getElem hj]
    exact hRs j _ (Array.getElem?_eq_getElem hj)


/-- What holds of the operations of joined's region that draws. -/
def JR (O : Value) (gx base : Nat) (s : ByteArray) (z : Int) (R : List E) (i : Nat) (v : Value) (W : World) : Prop := match i with
  | 0 => v = O
  | 1 => v = .pointer (some ⟨gx, 0, none⟩)
  | 2 => v = .string s
  | 3 => v = .string s
  | 4 => v = .pointer (some ⟨gx, 1, none⟩)
  | 5 => v = .int .i64 z
  | 6 => v = .agg #[.string s, .int .i64 z]
  | 7 => ∃ g, v = .slice (some ⟨g, 0, none⟩) 1 1 ∧ gx < g ∧ Bx W g 26 #[.string s, .int .i64 z]
  | 8 => Eo W base v (R ++ [(s, z)])
  | 9 => Eo W base v (R ++ [(s, z)])
  | _ => True
theorem JR.keep {O : Value} {gx base : Nat} {s : ByteArray} {z : Int} {R : List E} {W W' : World} (hb : Below W.heap.size W W') : ∀ j v', JR O gx base s z R j v' W → JR O gx base s z R j v' W'
  | 0, _, h | 1, _, h | 2, _, h | 3, _, h | 4, _, h | 5, _, h | 6, _, h => h
  | 7, _, ⟨g, h1, h2, h3⟩ => ⟨g, h1, h2, h3.on hb⟩
  | 8, _, h | 9, _, h => Eo.on h hb
  | _ + 10, _, _ => trivial

set_option maxRecDepth 100000 in
set_option maxHeartbeats 8000000 in
theorem joined_any (v : Value) (ls : List (Value × List E)) (w : World) (h : Ll w v ls) : Calls Try.prog 25 #[v] w fun e w' => ∃ v', e = .returned v' ∧ Eo w' w.heap.size v' (all ls) ∧ Below w.heap.size w w' := by
  obtain ⟨i0, hi, hz0, hz1, hz2⟩ := info_parts Try.info26
  obtain ⟨A, c, rfl⟩ := h.form
  have hl := h.2.2
  have hbl : ∀ k, (all (ls.take k)).length ≤ 524288 := fun k => by
    have h1 := all_le (ls := ls.take k) fun p hp => (h.2.1 p (List.mem_of_mem_take hp)).2.2
    have h2 : (ls.take k).length ≤ ls.length := by simp; omega
    omega
  generalize hL : ls.length = L at *
  have HS := Lib.hid h
  have HL := Lib.hid hL
  have HBL := Lib.hid hbl
  clear h hL hbl
  go_enter Try.func25, Try.ntmps25
  go_wp2
  go_loopw [3, 10] (fun o i wr => ∃ k : Nat, k ≤ L ∧ i = .int .i64 (k : Int) ∧ Eo wr w.heap.size o (all (ls.take k)) ∧ Below w.heap.size w wr) (fun _ i _ => L - (intOf i).toNat)
  case atStart => exact ⟨0, Nat.zero_le _, rfl, World.ownsRow_nil _ _ _ _, Below.refl _ _⟩
  case round =>
    obtain ⟨k, hk, rfl, hO, hB⟩ := hrel
    by_cases hlt : k < L
    · obtain ⟨b0, o0, rfl, hb0, hcell⟩ := (HS.out.below hB).at (by rw [HL.out]; omega)
      obtain ⟨p, hp⟩ : ∃ p, ls[k]? = some p := ⟨_, List.getElem?_eq_getElem (by rw [HL.out]; omega)⟩
      have g0 := hcell k p hp
      have hE := HS.out.2.1 p (List.mem_of_getElem? hp)
      have hnx : all (ls.take (k + 1)) = all (ls.take k) ++ p.2 := by
        rw [List.take_add_one, hp]; exact all_snoc _ _
      have hbk := HBL.out k
      obtain ⟨u, m⟩ := p
      dsimp only at g0 hE hnx
      obtain ⟨Am, cm, rfl⟩ := hE.form
      have hm := hE.2.2
      have HE := Lib.hid hE
      have HN := Lib.hid hnx
      generalize all (ls.take k) = P at *
      obtain ⟨M, hM⟩ : ∃ M, m.length = M := ⟨_, rfl⟩
      rw [hM] at HE hm g0
      have HMl := Lib.hid hM
      have HO := Lib.hid hO
      clear hcell hp hnx hE hM hO
      generalize wr = w1 at *
      go_wp2
      go_loopw [3, 16] (fun o i wr => ∃ j : Nat, j ≤ M ∧ i = .int .i64 (j : Int) ∧ Eo wr w.heap.size o (P ++ m.take j) ∧ Below w.heap.size w wr) (fun _ i _ => M - (intOf i).toNat)
      case atStart => exact ⟨0, Nat.zero_le _, rfl, by simpa using HO.out, hB⟩
      case round =>
        clear hB hb0 g0 HO
        obtain ⟨j, hj, rfl, hO, hB⟩ := hrel
        by_cases hlt2 : j < M
        · obtain ⟨b1, o1, rfl, hb1, hcell⟩ := (HE.out.below hB).at (by rw [HMl.out]; omega)
          obtain ⟨x, hx⟩ : ∃ x, m[j]? = some x := ⟨_, List.getElem?_eq_getElem (by rw [HMl.out]; omega)⟩
          obtain ⟨g0, g1⟩ := hcell j x hx
          have hxs := (HE.out.2.1 x (List.mem_of_getElem? hx)).1
          have hnx : P ++ m.take (j + 1) = (P ++ m.take j) ++ [x] := by rw [List.take_add_one, hx, List.append_assoc]; rfl
          have hql : (P ++ m.take j).length ≤ 589824 := by
            have : (m.take j).length ≤ m.length := by simp; omega
            rw [HMl.out] at this
            rw [List.length_append]; omega
          generalize P ++ m.take j = R at *
          obtain ⟨s, z⟩ := x
          dsimp only at g0 g1 hxs
          have hba := hB.alloc hB.size (.cells #[.string s, .int .i64 z] 26)
          have hbx := Bx.new wr 26 #[.string s, .int .i64 z]
          have hO1 := hO.on (al wr (.cells #[.string s, .int .i64 z] 26))
          obtain ⟨Ao, co, rfl⟩ := own_form hO
          have hlow := fun q hq => own_lt (k := q) hO hq
          have hge := fun q hq => own_ge (k := q) hO hq
          obtain ⟨rl, hrl⟩ : ∃ rl, R.length = rl := ⟨_, rfl⟩
          unfold Eo at hO1
          rw [hrl] at hO1 hql hlow hge ⊢
          have HNX := Lib.hid hnx
          have HLW := Lib.hid hlow
          have HGE := Lib.hid hge
          obtain ⟨rm, hrm⟩ : ∃ rm, cs R = rm := ⟨_, rfl⟩
          rw [hrm] at hO1
          have HRl := Lib.hid hrl
          have HRm := Lib.hid hrm
          clear hcell hx hnx hlow hge hO hrl hrm
          go_upto_region 8 with fail
          generalize hw2 : wr.alloc (.cells #[.string s, .int .i64 z] 26) = w2 at *
          have hgw : wr.heap.size < w2.heap.size := by rw [← hw2]; simp
          clear hw2
          generalize wr.heap.size = gx at *
          clear g0 g1 hb1 hB
          refine wp_region_rel3 Try.checked.mixed (by kernel_rfl) (fun done W => (done 8 = false → Below w2.heap.size w2 W) ∧ (done 8 = true → Below w.heap.size w W)) (JR (.slice Ao rl co) gx w.heap.size s z R) ?start ?each ?fin
          case start => exact ⟨fun _ => (Below.refl _ _).drew, fun h => by cases h⟩
          case each =>
            intro i hi' done a W hi0 hcl hcl2 hold hp hW K hK
            have hww : ∀ (i : Nat) (W' : World), i ≠ 8 → Below W.heap.size W W' → ((done 8 || 8 == i) = false → Below w2.heap.size w2 W') ∧ ((done 8 || 8 == i) = true → Below w.heap.size w W') := by
              intro i W' hne hb
              have e8 : (8 == i) = false := by simp; omega
              rw [e8, Bool.or_false]
              exact ⟨fun h => (hW.1 h).trans (hb.mono (hW.1 h).size), fun h => (hW.2 h).trans (hb.mono (hW.2 h).size)⟩
            have h8 : i < 8 → done 8 = false := fun h => by
              cases h8 : done 8 with
              | false => rfl
              | true =>
                exfalso
                have q0 := hcl 8 _ rfl h8 ⟨0, .data⟩ (by simp) rfl
                have q7 := hcl 8 _ rfl h8 ⟨7, .data⟩ (by simp) rfl
                have q6 := hcl 7 _ rfl q7 ⟨6, .data⟩ (by simp) rfl
                have q3 := hcl 6 _ rfl q6 ⟨3, .data⟩ (by simp) rfl
                have q5 := hcl 6 _ rfl q6 ⟨5, .data⟩ (by simp) rfl
                have q2 := hcl 3 _ rfl q3 ⟨2, .data⟩ (by simp) rfl
                have q1 := hcl 2 _ rfl q2 ⟨1, .data⟩ (by simp) rfl
                have q4 := hcl 5 _ rfl q5 ⟨4, .data⟩ (by simp) rfl
                rcases i with _ | _ | _ | _ | _ | _ | _ | _ | i
                · rw [q0] at hi0; cases hi0
                · rw [q1] at hi0; cases hi0
                · rw [q2] at hi0; cases hi0
                · rw [q3] at hi0; cases hi0
                · rw [q4] at hi0; cases hi0
                · rw [q5] at hi0; cases hi0
                · rw [q6] at hi0; cases hi0
                · rw [q7] at hi0; cases hi0
                · omega
            rcases i with _ | _ | _ | _ | _ | _ | _ | _ | _ | i
            · have s := hold 3 (fun j o ho hj => by
                rcases j with _ | _ | _ | _ | _ | _ | _ | _ | _ | _ | j
                case succ.succ.succ.succ.succ.succ.succ.succ.succ.zero =>
                  have := hcl 9 _ rfl hj ⟨0, .phase⟩ (by simp) rfl
                  rw [this] at hi0; cases hi0
                all_goals first | (simp at ho; done) | (simp at ho; subst ho; simp))
              simp [predsOf, Region.binds, slotV] at hp
              refine wpOp_of rfl rfl ?_
              simp at s
              go_simp
              exact hK _ _ (by simp) (hww 0 _ (by omega) (Below.refl _ _)) (fun _ _ _ h => h) rfl
            · have s := hold 7 (fun j o ho _ => by
                rcases j with _ | _ | _ | _ | _ | _ | _ | _ | _ | _ | j <;> first | (simp at ho; done) | (simp at ho; subst ho; simp))
              simp [predsOf, Region.binds, slotV] at hp
              refine wpOp_of rfl rfl ?_
              simp at s
              go_simp
              exact hK _ _ (by simp) (hww 1 _ (by omega) (Below.refl _ _)) (fun _ _ _ h => h) rfl
            · simp [predsOf, Region.binds, slotV, JR] at hp
              refine wpOp_of rfl rfl ?_
              obtain ⟨c0, c1⟩ := (hbx.on (hW.1 (h8 (by omega)))).pair
              go_simp
              exact hK _ _ (by simp) (hww 2 _ (by omega) (Below.refl _ _)) (fun _ _ _ h => h) rfl
            · simp [predsOf, Region.binds, slotV, JR] at hp
              refine wpOp_of rfl rfl ?_
              have hc := clone_any s W hxs
              go_simp
              refine hc.mono ?_
              rintro e W' ⟨rfl, hB'⟩
              exact hK _ _ (by simp) (hww 3 _ (by omega) hB') (fun j v' _ h => JR.keep hB' j v' h) rfl
            · have s := hold 7 (fun j o ho _ => by
                rcases j with _ | _ | _ | _ | _ | _ | _ | _ | _ | _ | j <;> first | (simp at ho; done) | (simp at ho; subst ho; simp))
              simp [predsOf, Region.binds, slotV] at hp
              refine wpOp_of rfl rfl ?_
              simp at s
              go_simp
              exact hK _ _ (by simp) (hww 4 _ (by omega) (Below.refl _ _)) (fun _ _ _ h => h) rfl
            · simp [predsOf, Region.binds, slotV, JR] at hp
              refine wpOp_of rfl rfl ?_
              obtain ⟨c0, c1⟩ := (hbx.on (hW.1 (h8 (by omega)))).pair
              go_simp
              exact hK _ _ (by simp) (hww 5 _ (by omega) (Below.refl _ _)) (fun _ _ _ h => h) rfl
            · simp [predsOf, Region.binds, slotV, JR] at hp
              refine wpOp_of rfl rfl ?_
              go_simp
              exact hK _ _ (by simp) (hww 6 _ (by omega) (Below.refl _ _)) (fun _ _ _ h => h) rfl
            · simp [predsOf, Region.binds, slotV, JR] at hp
              refine wpOp_of rfl rfl ?_
              have hsz := (hW.1 (h8 (by omega))).size
              go_simp
              refine hK _ _ (by simp) (hww 7 _ (by omega) (al _ _)) (fun j v' _ h => JR.keep (al _ _) j v' h) ?_
              exact ⟨W.heap.size, rfl, by omega, Bx.new W 26 _⟩
            · simp [predsOf, Region.binds, slotV, JR] at hp
              refine wpOp_of rfl rfl ?_
              have hBW := hW.1 hi0
              have hsz := hBW.size
              obtain ⟨p0, ⟨g, p1, p2, p3⟩, _⟩ := hp
              have p0' : a.eval (.tmp 20) = .slice Ao rl co := by rw [← p0]; simp [Act.eval]
              have p1' : a.eval (.tmp 27) = .slice (some ⟨g, 0, none⟩) 1 1 := by rw [← p1]; simp [Act.eval]
              have hOW : W.ownsRow w.heap.size 26 2 (.slice Ao rl co) rl rm := by
                have := Eo.on (l := R) (show Eo w2 w.heap.size (.slice Ao rl co) R by unfold Eo; rw [HRl.out, HRm.out]; exact hO1) hBW
                unfold Eo at this
                rw [HRl.out, HRm.out] at this
                exact this
              refine wp_append_own W (.tmp 20) (.tmp 27) 23 rfl w.heap.size 26 i0 (.agg #[.string { data := #[] }, .int .i64 0]) 2 24 Try.underlying23 hi hz0 hz1 hz2 rfl (by decide) _ rl rm p0' hOW ⟨g, 0, none⟩ 1 1 [.string s, .int .i64 z] p1' rfl ?c1 ?c2 ?c3 ?c4 ?c5 ?_
              case c1 =>
                intro j u hj
                rw [Addr.add_lit, Nat.zero_add]
                have := p3.cell j
                rw [this]
                simpa using hj
              case c2 => intro u hu; simp at hu; rcases hu with rfl | rfl <;> rfl
              case c3 => unfold maxLen; omega
              case c4 => omega
              case c5 => have := hba.size; omega
              intro v' w' hown hgrow _
              have hne : (Value.slice Ao rl co).ownBlock ≠ some g := fun e => by
                have := HLW.out g e
                omega
              have hbz := hba.size
              have hbw : Below w.heap.size w w' := (hba.trans (hBW.mono hba.size)).grown hgrow (by omega) (fun q hq => HGE.out q hq)
              refine hK _ _ (by simp) ⟨fun h => by simp at h, fun _ => hbw⟩ (fun j u hd h => ?_) (Eo.more hown HRl.out HRm.out rfl)
              rcases j with _ | _ | _ | _ | _ | _ | _ | _ | _ | _ | j
              · exact h
              · exact h
              · exact h
              · exact h
              · exact h
              · exact h
              · exact h
              · obtain ⟨g', h1, h2, h3⟩ := h
                refine ⟨g', h1, h2, h3.grown hgrow fun e => ?_⟩
                have := HLW.out g' e
                omega
              · rw [hi0] at hd; cases hd
              · have := hcl 9 _ rfl hd ⟨8, .data⟩ (by simp) rfl
                rw [this] at hi0; cases hi0
              · trivial
            · have j0 : i = 0 := by simp at hi'; omega
              subst j0
              simp [predsOf, Region.binds, slotV, JR] at hp
              refine wpOp_of rfl rfl ?_
              go_simp
              exact hK _ _ (by simp) (hww 9 _ (by omega) (Below.refl _ _)) (fun _ _ _ h => h) hp.1
          case fin =>
            intro vs W done hRs hdn hW
            have hB9 := hW.2 (hdn 8 (by decide))
            have r9 := hRs 9 (by decide)
            simp at r9
            simp only [putAll, List.foldl_cons, List.foldl_nil, Act.put, List.setIfInBounds_toArray, List.set_cons_succ, List.set_cons_zero]
            have r9' : Eo W w.heap.size (vs (some 3)) (P ++ m.take (j + 1)) := by rw [HNX.out]; exact r9
            generalize vs (some 3) = V3 at *
            generalize vs (some 20) = V20 at *
            generalize vs (some 21) = V21 at *
            generalize vs (some 22) = V22 at *
            generalize vs (some 23) = V23 at *
            generalize vs (some 24) = V24 at *
            generalize vs (some 25) = V25 at *
            generalize vs (some 26) = V26 at *
            generalize vs (some 27) = V27 at *
            generalize vs (some 28) = V28 at *
            have HR9 := Lib.hid r9'
            clear hRs hdn hW r9 r9' hbx hba hO1
            go_wp2
            go_roundw
            case rel => exact ⟨j + 1, by omega, by go_num, HR9.out, hB9⟩
            case measure => simp [intOf]; omega
        · have hjm : j = M := by omega
          subst hjm
          rw [List.take_of_length_le (by rw [HMl.out]; exact Nat.le_refl _), ← HN.out] at hO
          have HO := Lib.hid hO
          clear hO
          go_wp2
          go_roundw
          case rel => exact ⟨k + 1, by omega, by go_num, HO.out, hB⟩
          case measure => simp [intOf]; omega
    · have hkn : k = L := by omega
      subst hkn
      rw [List.take_of_length_le (by rw [HL.out]; exact Nat.le_refl _)] at hO
      have HO := Lib.hid hO
      clear HS HL hO
      go_wp2
      go_ret
      exact ⟨_, rfl, HO.out, hB⟩
end Go.Proofs.Ytckkljiaicmljaa
