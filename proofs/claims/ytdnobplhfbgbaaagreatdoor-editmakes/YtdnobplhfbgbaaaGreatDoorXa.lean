/-
  Declarations of other texts, gathered.
-/
import Derived.Test.YtdnobplhfbgbaaaGreatDoorMUa
namespace Go.Proofs.YtdnobplhfbgbaaaGreatDoor
open Go.RowKit Go.Joins

set_option maxHeartbeats 4000000 in
theorem text_any (v : Value) (l : List E) (w : World) (h : Es w v l) (hm : ∀ e ∈ l, PD.may e = true) : Calls Tryz.prog 180 #[v] w fun e w' => e = .returned (.string (str (PD.bytes l))) ∧ Below w.heap.size w w' := by
  obtain ⟨i0, hi, hz0, hz1, hz2⟩ := info_parts Tryz.info5
  obtain ⟨A, c, rfl⟩ := h.form
  have hl := h.2.2
  obtain ⟨f, hf⟩ : ∃ f, str (PD.bytes l) = f := ⟨_, rfl⟩
  rw [hf]
  have hbl : ∀ k, (PD.bytes (l.take k)).length ≤ 524288 := fun k => by
    have h1 := PD.bytes_le (l := l.take k) fun e he => hm e (List.mem_of_mem_take he)
    have h2 : (l.take k).length ≤ l.length := by simp; omega
    omega
  generalize hL : l.length = L at *
  have HF := Lib.hid hf
  have HS := Lib.hid h
  have HL := Lib.hid hL
  have HM := Lib.hid hm
  have HBL := Lib.hid hbl
  clear hf h hL hm hbl
  go_enter Tryz.func180, Tryz.ntmps180
  go_wp2
  go_loopw [3, 8] (fun o i wr => ∃ k : Nat, k ≤ L ∧ i = .int .i64 (k : Int) ∧ Ow wr w.heap.size o (PD.bytes (l.take k)) ∧ Below w.heap.size w wr) (fun _ i _ => L - (intOf i).toNat)
  case atStart => exact ⟨0, Nat.zero_le _, rfl, ⟨World.ownsRow_nil _ _ _ _, by simp [PD.bytes]⟩, Below.refl _ _⟩
  case round =>
    obtain ⟨k, hk, rfl, hO, hB⟩ := hrel
    by_cases hlt : k < L
    · obtain ⟨b0, o0, rfl, hb0, hcell⟩ := (HS.out.below hB).at (by rw [HL.out]; omega)
      obtain ⟨x, hx⟩ : ∃ x, l[k]? = some x := ⟨_, List.getElem?_eq_getElem (by rw [HL.out]; omega)⟩
      obtain ⟨g0, g1⟩ := hcell k x hx
      have hnx : PD.bytes (l.take (k + 1)) = ((PD.bytes (l.take k) ++ [x.1.size]) ++ nums x.1) ++ [x.2.toNat] := by
        rw [List.take_add_one, hx]
        have := PD.bytes_snoc (l.take k) x
        simpa [PD.ent] using this
      obtain ⟨m1, m2, m3, m4⟩ := PD.may_size (HM.out x (List.mem_of_getElem? hx))
      have hbk := HBL.out k
      obtain ⟨s, z⟩ := x
      dsimp only at hnx m1 m2 m3 m4 g0 g1
      obtain ⟨y, rfl⟩ := Int.eq_ofNat_of_zero_le (show 0 ≤ z by omega)
      rw [show (y : Int).toNat = y by omega] at hnx
      have HN := Lib.hid hnx
      have hb1 := hB.alloc hB.size (.cells #[.string s, .int .i64 (y : Int)] 75)
      have hbx := Bx.new wr 75 #[.string s, .int .i64 (y : Int)]
      have hO1 := hO.on (al wr (.cells #[.string s, .int .i64 (y : Int)] 75))
      generalize PD.bytes (l.take k) = B at *
      clear hcell hx hnx hO
      go_upto_region 5 with fail
      generalize wr.alloc (.cells #[.string s, .int .i64 (y : Int)] 75) = w2 at *
      generalize wr.heap.size = gx at *
      clear g0 g1 hb0 hB
      obtain ⟨c0, c1⟩ := hbx.pair
      have hsw : IntKind.u8.wrap (s.size : Int) = (s.size : Int) := by rw [IntKind.wrap_u8]; omega
      have hsy : IntKind.u8.wrap (y : Int) = (y : Int) := by rw [IntKind.wrap_u8]; omega
      have hsm : (s.size : Int) % 256 = (s.size : Int) := by omega
      have hsn : (y : Int) % 256 = (y : Int) := by omega
      obtain ⟨hO2, hO256⟩ := hO1
      have HB6 := Lib.hid hO256
      clear hO256
      obtain ⟨bl, hbl⟩ : ∃ bl, B.length = bl := ⟨_, rfl⟩
      rw [hbl] at hO2 hbk
      have HBl := Lib.hid hbl
      obtain ⟨bm, hbm⟩ : ∃ bm, B.map bv = bm := ⟨_, rfl⟩
      rw [hbm] at hO2
      have HBm := Lib.hid hbm
      clear hbl hbm
      go_wp2_with (at_builtin; refine wpList_append_sl rfl _ _ 30 rfl w.heap.size 5 i0 (.int .u8 0) 1 1 Tryz.underlying30 hi hz0 hz1 hz2 rfl (by decide) _ _ _ rfl (hO2.alloc _) _ 1 1 _ rfl (Sl.new w2 _ 5 _ 1 1 _ rfl rfl) ?q1 ?q2 ?q3 ?q4 ?_)
      case q1 => rfl
      case q2 => unfold maxLen; omega
      case q3 => omega
      case q4 => have := hb1.size; simp; omega
      intro v3 w3 hown hgrow
      have hb3 : Below w.heap.size w w3 := (hb1.alloc hb1.size _).grown hgrow (by have := hb1.size; simp; omega) (fun k hk => own_ge hO2 hk)
      have hbx3 := (hbx.alloc (.cells #[.int .u8 (s.size : Int)] 5)).grown hgrow (own_ne hO2 hbx (by decide))
      have hown3 : Ow w3 w.heap.size v3 (B ++ [s.size]) := by
        rw [← HBm.out] at hown
        exact Ow.more hown HBl.out rfl rfl HB6.out (by simp; omega)
      clear hown hgrow hO2 hbx c0 c1 hb1
      obtain ⟨d0, d1⟩ := hbx3.pair
      obtain ⟨hP2, hP256⟩ := hown3
      have HP6 := Lib.hid hP256
      obtain ⟨pl, hpl⟩ : ∃ pl, (B ++ [s.size]).length = pl := ⟨_, rfl⟩
      have hpl' : pl = bl + 1 := by rw [← hpl, List.length_append, HBl.out]; rfl
      rw [hpl] at hP2
      have HPl := Lib.hid hpl
      obtain ⟨pm, hpm⟩ : ∃ pm, (B ++ [s.size]).map bv = pm := ⟨_, rfl⟩
      rw [hpm] at hP2
      have HPm := Lib.hid hpm
      have hz3 := hb3.size
      clear hpl hpm hP256
      go_wp2_with (at_builtin; refine Lib.wpList_append_own_string _ rfl _ _ 30 9 rfl w.heap.size 5 i0 Tryz.underlying30 Tryz.underlying9 hi hz0 hz1 hz2 _ _ _ rfl hP2 s rfl ?q1 ?q2 ?q3 ?_)
      case q1 => unfold maxLen; omega
      case q2 => omega
      case q3 => exact hz3
      intro v4 w4 hown hgrow _
      have hb4 : Below w.heap.size w w4 := hb3.grown hgrow hz3 (fun k hk => own_ge hP2 hk)
      have hbx4 := hbx3.grown hgrow (own_ne hP2 hbx3 (by decide))
      have hown4 : Ow w4 w.heap.size v4 ((B ++ [s.size]) ++ nums s) := by
        rw [← HPm.out] at hown
        exact Ow.more hown (HPl.out.trans hpl') (nums_length s) (nums_cells s) HP6.out (nums_lt s)
      clear hown hgrow hP2 hbx3 d0 d1 hb3
      obtain ⟨e0, e1⟩ := hbx4.pair
      obtain ⟨hR2, hR256⟩ := hown4
      have HR6 := Lib.hid hR256
      obtain ⟨rl, hrl⟩ : ∃ rl, ((B ++ [s.size]) ++ nums s).length = rl := ⟨_, rfl⟩
      have hrl' : rl = bl + 1 + s.size := by rw [← hrl, List.length_append, HPl.out, nums_length, hpl']
      rw [hrl] at hR2
      have HRl := Lib.hid hrl
      obtain ⟨rm, hrm⟩ : ∃ rm, ((B ++ [s.size]) ++ nums s).map bv = rm := ⟨_, rfl⟩
      rw [hrm] at hR2
      have HRm := Lib.hid hrm
      have hz4 := hb4.size
      clear hrl hrm hR256 hpl'
      go_wp2_with (at_builtin; refine wpList_append_sl rfl _ _ 30 rfl w.heap.size 5 i0 (.int .u8 0) 1 1 Tryz.underlying30 hi hz0 hz1 hz2 rfl (by decide) _ _ _ rfl (hR2.alloc _) _ 1 1 _ rfl (Sl.new w4 _ 5 _ 1 1 _ rfl rfl) ?q1 ?q2 ?q3 ?q4 ?_)
      case q1 => rfl
      case q2 => unfold maxLen; omega
      case q3 => omega
      case q4 => simp; omega
      intro v5 w5 hown hgrow
      have hb5 : Below w.heap.size w w5 := (hb4.alloc hb4.size _).grown hgrow (by simp; omega) (fun k hk => own_ge hR2 hk)
      have hown5 : Ow w5 w.heap.size v5 (PD.bytes (l.take (k + 1))) := by
        rw [← HRm.out] at hown
        rw [HN.out]
        exact Ow.more hown (HRl.out.trans hrl') rfl rfl HR6.out (by simp; omega)
      have HW := Lib.hid hown5
      clear hown hown5 hgrow hR2 hbx4 e0 e1 hb4 hrl'
      go_wp2
      go_roundw
      case rel => exact ⟨k + 1, by omega, by go_num, HW.out, hb5⟩
      case measure => simp [intOf]; omega
    · have hkn : k = L := by omega
      subst hkn
      have hbk := HBL.out k
      rw [List.take_of_length_le (by rw [HL.out]; exact Nat.le_refl _)] at hO hbk
      have hst := (hO.text (by omega)).string
      rw [HF.out] at hst
      clear HF HS HL hO hbk
      go_wp2
      go_ret
      exact ⟨rfl, hB⟩
/-- A row of rows of entries. -/
def Ll (w : World) (v : Value) (ls : List (Value × List E)) : Prop := Sl w 1 v ls.length (ls.map (·.1)) ∧ (∀ p ∈ ls, Es w p.1 p.2) ∧ ls.length ≤ 8
theorem Ll.below {w w' : World} {v : Value} {ls : List (Value × List E)} (h : Ll w v ls) (hb : Below w.heap.size w w') : Ll w' v ls := ⟨h.1.below hb, fun p hp => (h.2.1 p hp).below hb, h.2.2⟩
theorem Ll.form {w : World} {v : Value} {ls : List (Value × List E)} (h : Ll w v ls) : ∃ A c, v = .slice A ls.length c := by
  obtain ⟨⟨A, c, hv, _⟩, _⟩ := h
  exact ⟨A, c, hv⟩
theorem Ll.at {w : World} {A : Option Addr} {n c : Nat} {ls : List (Value × List E)} (h : Ll w (.slice A n c) ls) (h0 : 0 < ls.length) : ∃ b o, A = some ⟨b, o, none⟩ ∧ b < w.heap.size ∧ ∀ j x, ls[j]? = some x → w.cell? ⟨b, o + j, none⟩ = some x.1 := by
  obtain ⟨A', c', hv, hl, hA⟩ := h.1
  injection hv with e1 e2 e3
  subst e1
  obtain ⟨b, o, e, hb, hc⟩ := hA h0
  refine ⟨b, o, e, hb, fun j x hj => ?_⟩
  have hlt : j < ls.length := (List.getElem?_eq_some_iff.1 hj).1
  rw [hc j (by omega), List.getElem?_map, hj, Option.map_some]
theorem Ll.new (w : World) (C : Array Value) (fr : Nat × Nat) (n c g : Nat) (hg : g = w.heap.size) (ls : List (Value × List E)) (hc : C.toList = ls.map (·.1)) (hn : ls.length = n) (hb : ∀ p ∈ ls, Es w p.1 p.2) (h8 : n ≤ 8) : Ll (w.alloc (.cells C 69 fr)) (.slice (some ⟨g, 0, none⟩) n c) ls := by
  have := Sl.new w C 69 fr n c g hg (by rw [← Array.length_toList, hc, List.length_map, hn])
  rw [hc] at this
  exact ⟨by rw [hn]; exact this, fun p hp => (hb p hp).below (al _ _), by omega⟩
def all (ls : List (Value × List E)) : List E := ls.flatMap (·.2)
theorem ll_snoc (ls : List (Value × List E)) (p : Value × List E) : all (ls ++ [p]) = all ls ++ p.2 := by simp [all]
theorem ll_le {ls : List (Value × List E)} (h : ∀ p ∈ ls, p.2.length ≤ 65536) : (all ls).length ≤ 65536 * ls.length := by
  induction ls with
  | nil => simp [all]
  | cons p r ih =>
    have h1 := h p (by simp)
    have h2 := ih fun x hx => h x (by simp [hx])
    have h3 : (all (p :: r)).length = p.2.length + (all r).length := by simp [all]
    rw [h3, List.length_cons]
    omega
/-- What holds of the operations of joined's region that draws. -/
def JR (O : Value) (gx base : Nat) (s : ByteArray) (z : Int) (R : List E) (i : Nat) (v : Value) (W : World) : Prop := match i with
  | 0 => v = O
  | 1 => v = .pointer (some ⟨gx, 0, none⟩)
  | 2 => v = .string s
  | 3 => v = .string s
  | 4 => v = .pointer (some ⟨gx, 1, none⟩)
  | 5 => v = .int .i64 z
  | 6 => v = .agg #[.string s, .int .i64 z]
  | 7 => ∃ g, v = .slice (some ⟨g, 0, none⟩) 1 1 ∧ gx < g ∧ Bx W g 75 #[.string s, .int .i64 z]
  | 8 => Eo W base v (R ++ [(s, z)])
  | 9 => Eo W base v (R ++ [(s, z)])
  | _ => True
theorem JR.keep {O : Value} {gx base : Nat} {s : ByteArray} {z : Int} {R : List E} {W W' : World} (hb : Below W.heap.size W W') : ∀ j v', JR O gx base s z R j v' W → JR O gx base s z R j v' W'
  | 0, _, h | 1, _, h | 2, _, h | 3, _, h | 4, _, h | 5, _, h | 6, _, h => h
  | 7, _, ⟨g, h1, h2, h3⟩ => ⟨g, h1, h2, h3.on hb⟩
  | 8, _, h | 9, _, h => Eo.on h hb
  | _ + 10, _, _ => trivial
set_option maxRecDepth 100000 in
set_option maxHeartbeats 8000000 in
theorem joined_any (v : Value) (ls : List (Value × List E)) (w : World) (h : Ll w v ls) : Calls Tryz.prog 179 #[v] w fun e w' => ∃ v', e = .returned v' ∧ Eo w' w.heap.size v' (all ls) ∧ Below w.heap.size w w' := by
  obtain ⟨i0, hi, hz0, hz1, hz2⟩ := info_parts Tryz.info75
  obtain ⟨A, c, rfl⟩ := h.form
  have hl := h.2.2
  have hbl : ∀ k, (all (ls.take k)).length ≤ 524288 := fun k => by
    have h1 := ll_le (ls := ls.take k) fun p hp => (h.2.1 p (List.mem_of_mem_take hp)).2.2
    have h2 : (ls.take k).length ≤ ls.length := by simp; omega
    omega
  generalize hL : ls.length = L at *
  have HS := Lib.hid h
  have HL := Lib.hid hL
  have HBL := Lib.hid hbl
  clear h hL hbl
  go_enter Tryz.func179, Tryz.ntmps179
  go_wp2
  go_loopw [3, 10] (fun o i wr => ∃ k : Nat, k ≤ L ∧ i = .int .i64 (k : Int) ∧ Eo wr w.heap.size o (all (ls.take k)) ∧ Below w.heap.size w wr) (fun _ i _ => L - (intOf i).toNat)
  case atStart => exact ⟨0, Nat.zero_le _, rfl, World.ownsRow_nil _ _ _ _, Below.refl _ _⟩
  case round =>
    obtain ⟨k, hk, rfl, hO, hB⟩ := hrel
    by_cases hlt : k < L
    · obtain ⟨b0, o0, rfl, hb0, hcell⟩ := (HS.out.below hB).at (by rw [HL.out]; omega)
      obtain ⟨p, hp⟩ : ∃ p, ls[k]? = some p := ⟨_, List.getElem?_eq_getElem (by rw [HL.out]; omega)⟩
      have g0 := hcell k p hp
      have hE := HS.out.2.1 p (List.mem_of_getElem? hp)
      have hnx : all (ls.take (k + 1)) = all (ls.take k) ++ p.2 := by
        rw [List.take_add_one, hp]; exact ll_snoc _ _
      have hbk := HBL.out k
      obtain ⟨u, m⟩ := p
      dsimp only at g0 hE hnx
      obtain ⟨Am, cm, rfl⟩ := hE.form
      have hm := hE.2.2
      have HE := Lib.hid hE
      have HN := Lib.hid hnx
      generalize all (ls.take k) = P at *
      obtain ⟨M, hM⟩ : ∃ M, m.length = M := ⟨_, rfl⟩
      rw [hM] at HE hm g0
      have HMl := Lib.hid hM
      have HO := Lib.hid hO
      clear hcell hp hnx hE hM hO
      generalize wr = w1 at *
      go_wp2
      go_loopw [3, 16] (fun o i wr => ∃ j : Nat, j ≤ M ∧ i = .int .i64 (j : Int) ∧ Eo wr w.heap.size o (P ++ m.take j) ∧ Below w.heap.size w wr) (fun _ i _ => M - (intOf i).toNat)
      case atStart => exact ⟨0, Nat.zero_le _, rfl, by simpa using HO.out, hB⟩
      case round =>
        clear hB hb0 g0 HO
        obtain ⟨j, hj, rfl, hO, hB⟩ := hrel
        by_cases hlt2 : j < M
        · obtain ⟨b1, o1, rfl, hb1, hcell⟩ := (HE.out.below hB).at (by rw [HMl.out]; omega)
          obtain ⟨x, hx⟩ : ∃ x, m[j]? = some x := ⟨_, List.getElem?_eq_getElem (by rw [HMl.out]; omega)⟩
          obtain ⟨g0, g1⟩ := hcell j x hx
          have hxs := (HE.out.2.1 x (List.mem_of_getElem? hx)).1
          have hnx : P ++ m.take (j + 1) = (P ++ m.take j) ++ [x] := by rw [List.take_add_one, hx, List.append_assoc]; rfl
          have hql : (P ++ m.take j).length ≤ 589824 := by
            have : (m.take j).length ≤ m.length := by simp; omega
            rw [HMl.out] at this
            rw [List.length_append]; omega
          generalize P ++ m.take j = R at *
          obtain ⟨s, z⟩ := x
          dsimp only at g0 g1 hxs
          have hba := hB.alloc hB.size (.cells #[.string s, .int .i64 z] 75)
          have hbx := Bx.new wr 75 #[.string s, .int .i64 z]
          have hO1 := hO.on (al wr (.cells #[.string s, .int .i64 z] 75))
          obtain ⟨Ao, co, rfl⟩ := own_form hO
          have hlow := fun q hq => own_lt (k := q) hO hq
          have hge := fun q hq => own_ge (k := q) hO hq
          obtain ⟨rl, hrl⟩ : ∃ rl, R.length = rl := ⟨_, rfl⟩
          unfold Eo at hO1
          rw [hrl] at hO1 hql hlow hge ⊢
          have HNX := Lib.hid hnx
          have HLW := Lib.hid hlow
          have HGE := Lib.hid hge
          obtain ⟨rm, hrm⟩ : ∃ rm, cs R = rm := ⟨_, rfl⟩
          rw [hrm] at hO1
          have HRl := Lib.hid hrl
          have HRm := Lib.hid hrm
          clear hcell hx hnx hlow hge hO hrl hrm
          go_upto_region 8 with fail
          generalize hw2 : wr.alloc (.cells #[.string s, .int .i64 z] 75) = w2 at *
          have hgw : wr.heap.size < w2.heap.size := by rw [← hw2]; simp
          clear hw2
          generalize wr.heap.size = gx at *
          clear g0 g1 hb1 hB
          refine wp_region_rel3 Tryz.checked.mixed (by kernel_rfl) (fun done W => (done 8 = false → Below w2.heap.size w2 W) ∧ (done 8 = true → Below w.heap.size w W)) (JR (.slice Ao rl co) gx w.heap.size s z R) ?start ?each ?fin
          case start => exact ⟨fun _ => (Below.refl _ _).drew, fun h => by cases h⟩
          case each =>
            intro i hi' done a W hi0 hcl hcl2 hold hp hW K hK
            have hww : ∀ (i : Nat) (W' : World), i ≠ 8 → Below W.heap.size W W' → ((done 8 || 8 == i) = false → Below w2.heap.size w2 W') ∧ ((done 8 || 8 == i) = true → Below w.heap.size w W') := by
              intro i W' hne hb
              have e8 : (8 == i) = false := by simp; omega
              rw [e8, Bool.or_false]
              exact ⟨fun h => (hW.1 h).trans (hb.mono (hW.1 h).size), fun h => (hW.2 h).trans (hb.mono (hW.2 h).size)⟩
            have h8 : i < 8 → done 8 = false := fun h => by
              cases h8 : done 8 with
              | false => rfl
              | true =>
                exfalso
                have q0 := hcl 8 _ rfl h8 ⟨0, .data⟩ (by simp) rfl
                have q7 := hcl 8 _ rfl h8 ⟨7, .data⟩ (by simp) rfl
                have q6 := hcl 7 _ rfl q7 ⟨6, .data⟩ (by simp) rfl
                have q3 := hcl 6 _ rfl q6 ⟨3, .data⟩ (by simp) rfl
                have q5 := hcl 6 _ rfl q6 ⟨5, .data⟩ (by simp) rfl
                have q2 := hcl 3 _ rfl q3 ⟨2, .data⟩ (by simp) rfl
                have q1 := hcl 2 _ rfl q2 ⟨1, .data⟩ (by simp) rfl
                have q4 := hcl 5 _ rfl q5 ⟨4, .data⟩ (by simp) rfl
                rcases i with _ | _ | _ | _ | _ | _ | _ | _ | i
                · rw [q0] at hi0; cases hi0
                · rw [q1] at hi0; cases hi0
                · rw [q2] at hi0; cases hi0
                · rw [q3] at hi0; cases hi0
                · rw [q4] at hi0; cases hi0
                · rw [q5] at hi0; cases hi0
                · rw [q6] at hi0; cases hi0
                · rw [q7] at hi0; cases hi0
                · omega
            rcases i with _ | _ | _ | _ | _ | _ | _ | _ | _ | i
            · have s := hold 3 (fun j o ho hj => by
                rcases j with _ | _ | _ | _ | _ | _ | _ | _ | _ | _ | j
                case succ.succ.succ.succ.succ.succ.succ.succ.succ.zero =>
                  have := hcl 9 _ rfl hj ⟨0, .phase⟩ (by simp) rfl
                  rw [this] at hi0; cases hi0
                all_goals first | (simp at ho; done) | (simp at ho; subst ho; simp))
              simp [predsOf, Region.binds, slotV] at hp
              refine wpOp_of rfl rfl ?_
              simp at s
              go_simp
              exact hK _ _ (by simp) (hww 0 _ (by omega) (Below.refl _ _)) (fun _ _ _ h => h) rfl
            · have s := hold 7 (fun j o ho _ => by
                rcases j with _ | _ | _ | _ | _ | _ | _ | _ | _ | _ | j <;> first | (simp at ho; done) | (simp at ho; subst ho; simp))
              simp [predsOf, Region.binds, slotV] at hp
              refine wpOp_of rfl rfl ?_
              simp at s
              go_simp
              exact hK _ _ (by simp) (hww 1 _ (by omega) (Below.refl _ _)) (fun _ _ _ h => h) rfl
            · simp [predsOf, Region.binds, slotV, JR] at hp
              refine wpOp_of rfl rfl ?_
              obtain ⟨c0, c1⟩ := (hbx.on (hW.1 (h8 (by omega)))).pair
              go_simp
              exact hK _ _ (by simp) (hww 2 _ (by omega) (Below.refl _ _)) (fun _ _ _ h => h) rfl
            · simp [predsOf, Region.binds, slotV, JR] at hp
              refine wpOp_of rfl rfl ?_
              have hc := clone_any s W hxs
              go_simp
              refine hc.mono ?_
              rintro e W' ⟨rfl, hB'⟩
              exact hK _ _ (by simp) (hww 3 _ (by omega) hB') (fun j v' _ h => JR.keep hB' j v' h) rfl
            · have s := hold 7 (fun j o ho _ => by
                rcases j with _ | _ | _ | _ | _ | _ | _ | _ | _ | _ | j <;> first | (simp at ho; done) | (simp at ho; subst ho; simp))
              simp [predsOf, Region.binds, slotV] at hp
              refine wpOp_of rfl rfl ?_
              simp at s
              go_simp
              exact hK _ _ (by simp) (hww 4 _ (by omega) (Below.refl _ _)) (fun _ _ _ h => h) rfl
            · simp [predsOf, Region.binds, slotV, JR] at hp
              refine wpOp_of rfl rfl ?_
              obtain ⟨c0, c1⟩ := (hbx.on (hW.1 (h8 (by omega)))).pair
              go_simp
              exact hK _ _ (by simp) (hww 5 _ (by omega) (Below.refl _ _)) (fun _ _ _ h => h) rfl
            · simp [predsOf, Region.binds, slotV, JR] at hp
              refine wpOp_of rfl rfl ?_
              go_simp
              exact hK _ _ (by simp) (hww 6 _ (by omega) (Below.refl _ _)) (fun _ _ _ h => h) rfl
            · simp [predsOf, Region.binds, slotV, JR] at hp
              refine wpOp_of rfl rfl ?_
              have hsz := (hW.1 (h8 (by omega))).size
              go_simp
              refine hK _ _ (by simp) (hww 7 _ (by omega) (al _ _)) (fun j v' _ h => JR.keep (al _ _) j v' h) ?_
              exact ⟨W.heap.size, rfl, by omega, Bx.new W 75 _⟩
            · simp [predsOf, Region.binds, slotV, JR] at hp
              refine wpOp_of rfl rfl ?_
              have hBW := hW.1 hi0
              have hsz := hBW.size
              obtain ⟨p0, ⟨g, p1, p2, p3⟩, _⟩ := hp
              have p0' : a.eval (.tmp 20) = .slice Ao rl co := by rw [← p0]; simp [Act.eval]
              have p1' : a.eval (.tmp 27) = .slice (some ⟨g, 0, none⟩) 1 1 := by rw [← p1]; simp [Act.eval]
              have hOW : W.ownsRow w.heap.size 75 2 (.slice Ao rl co) rl rm := by
                have := Eo.on (l := R) (show Eo w2 w.heap.size (.slice Ao rl co) R by unfold Eo; rw [HRl.out, HRm.out]; exact hO1) hBW
                unfold Eo at this
                rw [HRl.out, HRm.out] at this
                exact this
              refine wp_append_own W (.tmp 20) (.tmp 27) 69 rfl w.heap.size 75 i0 (.agg #[.string { data := #[] }, .int .i64 0]) 2 24 Tryz.underlying69 hi hz0 hz1 hz2 rfl (by decide) _ rl rm p0' hOW ⟨g, 0, none⟩ 1 1 [.string s, .int .i64 z] p1' rfl ?c1 ?c2 ?c3 ?c4 ?c5 ?_
              case c1 =>
                intro j u hj
                rw [Addr.add_lit, Nat.zero_add]
                have := p3.cell j
                rw [this]
                simpa using hj
              case c2 => intro u hu; simp at hu; rcases hu with rfl | rfl <;> rfl
              case c3 => unfold maxLen; omega
              case c4 => omega
              case c5 => have := hba.size; omega
              intro v' w' hown hgrow _
              have hne : (Value.slice Ao rl co).ownBlock ≠ some g := fun e => by
                have := HLW.out g e
                omega
              have hbz := hba.size
              have hbw : Below w.heap.size w w' := (hba.trans (hBW.mono hba.size)).grown hgrow (by omega) (fun q hq => HGE.out q hq)
              refine hK _ _ (by simp) ⟨fun h => by simp at h, fun _ => hbw⟩ (fun j u hd h => ?_) (Eo.more hown HRl.out HRm.out rfl)
              rcases j with _ | _ | _ | _ | _ | _ | _ | _ | _ | _ | j
              · exact h
              · exact h
              · exact h
              · exact h
              · exact h
              · exact h
              · exact h
              · obtain ⟨g', h1, h2, h3⟩ := h
                refine ⟨g', h1, h2, h3.grown hgrow fun e => ?_⟩
                have := HLW.out g' e
                omega
              · rw [hi0] at hd; cases hd
              · have := hcl 9 _ rfl hd ⟨8, .data⟩ (by simp) rfl
                rw [this] at hi0; cases hi0
              · trivial
            · have j0 : i = 0 := by simp at hi'; omega
              subst j0
              simp [predsOf, Region.binds, slotV, JR] at hp
              refine wpOp_of rfl rfl ?_
              go_simp
              exact hK _ _ (by simp) (hww 9 _ (by omega) (Below.refl _ _)) (fun _ _ _ h => h) hp.1
          case fin =>
            intro vs W done hRs hdn hW
            have hB9 := hW.2 (hdn 8 (by decide))
            have r9 := hRs 9 (by decide)
            simp at r9
            simp only [putAll, List.foldl_cons, List.foldl_nil, Act.put, List.setIfInBounds_toArray, List.set_cons_succ, List.set_cons_zero]
            have r9' : Eo W w.heap.size (vs (some 3)) (P ++ m.take (j + 1)) := by rw [HNX.out]; exact r9
            generalize vs (some 3) = V3 at *
            generalize vs (some 20) = V20 at *
            generalize vs (some 21) = V21 at *
            generalize vs (some 22) = V22 at *
            generalize vs (some 23) = V23 at *
            generalize vs (some 24) = V24 at *
            generalize vs (some 25) = V25 at *
            generalize vs (some 26) = V26 at *
            generalize vs (some 27) = V27 at *
            generalize vs (some 28) = V28 at *
            have HR9 := Lib.hid r9'
            clear hRs hdn hW r9 r9' hbx hba hO1
            go_wp2
            go_roundw
            case rel => exact ⟨j + 1, by omega, by go_num, HR9.out, hB9⟩
            case measure => simp [intOf]; omega
        · have hjm : j = M := by omega
          subst hjm
          rw [List.take_of_length_le (by rw [HMl.out]; exact Nat.le_refl _), ← HN.out] at hO
          have HO := Lib.hid hO
          clear hO
          go_wp2
          go_roundw
          case rel => exact ⟨k + 1, by omega, by go_num, HO.out, hB⟩
          case measure => simp [intOf]; omega
    · have hkn : k = L := by omega
      subst hkn
      rw [List.take_of_length_le (by rw [HL.out]; exact Nat.le_refl _)] at hO
      have HO := Lib.hid hO
      clear HS HL hO
      go_wp2
      go_ret
      exact ⟨_, rfl, HO.out, hB⟩
set_option maxHeartbeats 4000000 in
theorem dput_any (v : Value) (l : List E) (w : World) (h : Es w v l) : Calls Tryz.prog 159 #[v] w fun e w' => e = .returned (.tuple #[.string (PD.put l), .bool (PD.ok l)]) ∧ Below w.heap.size w w' := by
  have hr := rise_any v l w h
  obtain ⟨A, c, rfl⟩ := h.form
  cases hri : PD.rise l with
  | false =>
    have e1 : PD.ok l = false := by simp [PD.ok, hri]
    have e2 : PD.put l = { data := #[] } := by rw [PD.put, e1]; rfl
    rw [e1, e2]
    rw [hri] at hr
    clear e1 e2 h
    go_enter Tryz.func159, Tryz.ntmps159
    go_wp2_with (go_at_call 163; refine hr.mono ?_; rintro e w1 ⟨rfl, hB1⟩)
    go_ret2
    exact ⟨rfl, hB1⟩
  | true =>
    rw [hri] at hr
    have ht : ∀ W, Below w.heap.size w W → Calls Tryz.prog 180 #[.slice A l.length c] W fun e w' => e = .returned (.string (str (PD.bytes l))) ∧ Below W.heap.size W w' := fun W hW => text_any _ l W (h.below hW) (PD.rise_may hri)
    have hsz := PD.str_size (PD.bytes l)
    by_cases hl : (PD.bytes l).length ≤ 120
    · have e1 : PD.ok l = true := by simp [PD.ok, hri, hl]
      have e2 : PD.put l = str (PD.bytes l) := by rw [PD.put, e1]; rfl
      rw [e1, e2]
      generalize str (PD.bytes l) = s at *
      have h8 : ¬ (120 : Int) < (s.size : Int) := by omega
      clear e1 e2 h hsz
      generalize l.length = L at *
      go_enter Tryz.func159, Tryz.ntmps159
      go_wp2_with (first | (go_at_call 163; refine hr.mono ?_; rintro e w1 ⟨rfl, hB1⟩) | (go_at_call 180; refine (ht _ hB1).mono ?_; rintro e w2 ⟨rfl, hB2⟩))
      go_ret2
      exact ⟨rfl, hB1.trans (hB2.mono hB1.size)⟩
    · have e1 : PD.ok l = false := by simp [PD.ok, hl]
      have e2 : PD.put l = { data := #[] } := by rw [PD.put, e1]; rfl
      rw [e1, e2]
      generalize str (PD.bytes l) = s at *
      have h8 : (120 : Int) < (s.size : Int) := by omega
      clear e1 e2 h hsz
      generalize l.length = L at *
      go_enter Tryz.func159, Tryz.ntmps159
      go_wp2_with (first | (go_at_call 163; refine hr.mono ?_; rintro e w1 ⟨rfl, hB1⟩) | (go_at_call 180; refine (ht _ hB1).mono ?_; rintro e w2 ⟨rfl, hB2⟩))
      go_ret2
      exact ⟨rfl, hB1.trans (hB2.mono hB1.size)⟩
set_option maxRecDepth 100000 in
set_option maxHeartbeats 8000000 in
theorem dwith_any (v : Value) (l : List E) (s : ByteArray) (z : Int) (w : World) (h : Es w v l) (hcap : ∀ A n c, v = .slice A n c → n ≤ c) (hf1 : Fit [(s, z)]) : Calls Tryz.prog 158 #[v, .agg #[.string s, .int .i64 z]] w fun e w' => ∃ v', e = .returned (.tuple #[v', .bool (!PD.isAt l s)]) ∧ Eo w' w.heap.size v' (PD.wth l (s, z)) ∧ Below w.heap.size w w' := by
  have hp := fun W (hW : Below w.heap.size w W) => place_any v l s W (h.below hW)
  obtain ⟨A, c, rfl⟩ := h.form
  have hl := h.2.2
  have hnc := hcap _ _ _ rfl
  have hwl : PD.wth l (s, z) = if PD.isAt l s = true then l else l.take (PD.place l s) ++ (s, z) :: l.drop (PD.place l s) := rfl
  generalize hL : l.length = L at *
  have hpl : PD.place l s ≤ L := by rw [← hL]; exact PD.place_le l s
  clear hcap
  have hb1 := al w (.cells #[.string s, .int .i64 z] 75)
  have hbx1 := Bx.new w 75 #[.string s, .int .i64 z]
  cases hi : PD.isAt l s with
  | true =>
    rw [hi, if_pos rfl] at hwl
    rw [hwl]
    rw [hi] at hp
    generalize PD.place l s = p at *
    have HL := Lib.hid hL
    have H := Lib.hid h
    clear hi hwl hL h
    go_enter Tryz.func158, Tryz.ntmps158
    go_upto_region 1 with fail
    generalize w.alloc (.cells #[.string s, .int .i64 z] 75) = w2 at *
    generalize hgx : w.heap.size = gx at hbx1
    obtain ⟨c0, c1⟩ := hbx1.pair
    go_wp2_with fail
    refine (hp _ hb1).mono ?_
    rintro e w1 ⟨rfl, hB1⟩
    have hbw := hb1.trans (hB1.mono hb1.size)
    clear hp c0 c1 hbx1 hb1 hB1 hgx
    have hE := H.out.below hbw
    have hLl := fun W (hW : Below w.heap.size w W) => Ll.new W #[.slice A L c] (0, 0) 1 1 _ rfl [(.slice A L c, l)] rfl rfl (by intro x hx; simp at hx; subst hx; exact H.out.below hW) (by decide)
    have hj := joined_any _ _ _ (hLl w1 hbw)
    have hba := al w1 (.cells #[.slice A L c] 69)
    clear hLl hE
    go_wp2_with fail
    refine hj.mono ?_
    rintro e w3 ⟨v3, rfl, hO3, hB3⟩
    have hb3 := hbw.trans ((hba.trans (hB3.mono hba.size)).mono hbw.size)
    have hO := hO3.base (hbw.trans (hba.mono hbw.size)).size
    simp only [all, List.flatMap_cons, List.flatMap_nil, List.append_nil] at hO
    have HO := Lib.hid hO
    clear hO hO3 hB3 hbw hba hj
    go_wp2
    go_ret2
    exact ⟨_, rfl, HO.out, hb3⟩
  | false =>
    rw [hi, if_neg (by decide)] at hwl
    rw [hwl]
    rw [hi] at hp
    generalize PD.place l s = p at *
    obtain ⟨Af, cf, hcf, hfr, hef'⟩ := Es.front (A := A) (n := L) (c := c) (p := p) hL hpl hnc
    obtain ⟨Ar, cr, hcr, hrr, her'⟩ := Es.rest (A := A) (n := L) (c := c) (p := p) hL hpl hnc
    have H := Lib.hid h
    clear hi hwl h
    go_enter Tryz.func158, Tryz.ntmps158
    go_upto_region 1 with fail
    generalize w.alloc (.cells #[.string s, .int .i64 z] 75) = w2 at *
    generalize hgx : w.heap.size = gx at hbx1
    obtain ⟨c0, c1⟩ := hbx1.pair
    go_wp2_with fail
    refine (hp _ hb1).mono ?_
    rintro e w1 ⟨rfl, hB1⟩
    have hbw := hb1.trans (hB1.mono hb1.size)
    have hbx := hbx1.on hB1
    have hef := fun W (hW : Below w1.heap.size w1 W) => hef' W ((H.out.below hbw).below hW)
    have her := fun W (hW : Below w1.heap.size w1 W) => her' W ((H.out.below hbw).below hW)
    clear hp c0 c1 hbx1 hb1 hB1 hef' her'
    generalize w1 = w2 at *
    have HGX := Lib.hid hgx
    clear hgx
    go_upto_region 4 with fail

    refine wp_region_grow Tryz.checked.mixed (by kernel_rfl) (fun W => Below w2.heap.size w2 W)
      (fun i v W => match i with
        | 0 => v = .slice A L c
        | 1 => v = .int .i64 (p : Int)
        | 2 => v = .slice Af p cf
        | 3 => v = .agg #[.string s, .int .i64 z]
        | 4 => ∃ g, v = .slice (some ⟨g, 0, none⟩) 1 1 ∧ Es W v [(s, z)]
        | 5 => v = .slice A L c
        | 6 => v = .int .i64 (p : Int)
        | 7 => v = .slice Ar (L - p) cr
        | 8 => ∃ g e, v = .slice (some ⟨g, 0, none⟩) 3 3 ∧ Ll W v [(.slice Af p cf, l.take p), (e, [(s, z)]), (.slice Ar (L - p) cr, l.drop p)]
        | 9 => Eo W w.heap.size v (l.take p ++ (s, z) :: l.drop p)
        | 10 => Eo W w.heap.size v (l.take p ++ (s, z) :: l.drop p)
        | _ => v = .bool true) ?hS ?hR ?start ?each ?fin
    case hS =>
      intro W W' h hb
      exact h.trans (hb.mono h.size)
    case hR =>
      intro j v W W' h hb
      rcases j with _ | _ | _ | _ | _ | _ | _ | _ | _ | _ | _ | j <;> first | exact h | exact Eo.on h hb | exact ⟨h.choose, h.choose_spec.1, h.choose_spec.2.below hb⟩ | exact ⟨h.choose, h.choose_spec.choose, h.choose_spec.choose_spec.1, h.choose_spec.choose_spec.2.below hb⟩
    case start => exact (Below.refl _ _).drew
    case each =>
      intro i hi a W hold hp h6 K hK
      rcases i with _ | _ | _ | _ | _ | _ | _ | _ | _ | _ | _ | i
      · have s := hold 0 rfl
        simp [predsOf, Region.binds, slotV] at hp
        refine wpOp_of rfl rfl ?_
        simp at s
        go_simp
        exact hK _ _ (by simp) (Below.refl _ _) rfl
      · have s := hold 6 rfl
        simp [predsOf, Region.binds, slotV] at hp
        refine wpOp_of rfl rfl ?_
        simp at s
        go_simp
        exact hK _ _ (by simp) (Below.refl _ _) rfl
      · simp [predsOf, Region.binds, slotV] at hp
        refine wpOp_of rfl rfl ?_
        go_simp
        exact hK _ _ (by simp) (Below.refl _ _) rfl
      · have s3 := hold 3 rfl
        simp [predsOf, Region.binds, slotV] at hp
        refine wpOp_of rfl rfl ?_
        simp at s3
        obtain ⟨c0, c1⟩ := (hbx.on h6).pair
        go_simp
        exact hK _ _ (by simp) (Below.refl _ _) rfl
      · simp [predsOf, Region.binds, slotV] at hp
        refine wpOp_of rfl rfl ?_
        go_simp
        exact hK _ _ (by simp) (al _ _) ⟨_, rfl, Es.new W #[.string s, .int .i64 z] (0, 0) 1 1 _ rfl [(s, z)] rfl rfl hf1⟩
      · have s := hold 0 rfl
        simp [predsOf, Region.binds, slotV] at hp
        refine wpOp_of rfl rfl ?_
        simp at s
        go_simp
        exact hK _ _ (by simp) (Below.refl _ _) rfl
      · have s := hold 6 rfl
        simp [predsOf, Region.binds, slotV] at hp
        refine wpOp_of rfl rfl ?_
        simp at s
        go_simp
        exact hK _ _ (by simp) (Below.refl _ _) rfl
      · simp [predsOf, Region.binds, slotV] at hp
        refine wpOp_of rfl rfl ?_
        go_simp
        exact hK _ _ (by simp) (Below.refl _ _) rfl
      · simp [predsOf, Region.binds, slotV] at hp
        refine wpOp_of rfl rfl ?_
        obtain ⟨p2, ⟨⟨g, p4⟩, p4'⟩, p7⟩ := hp
        have q1 := hef W h6
        have q2 := her W h6
        rw [p4] at p4'
        go_simp
        refine hK _ _ (by simp) (al _ _) ⟨_, _, rfl, Ll.new W #[.slice Af p cf, .slice (some ⟨g, 0, none⟩) 1 1, .slice Ar (L - p) cr] (0, 0) 3 3 _ rfl [(.slice Af p cf, l.take p), (.slice (some ⟨g, 0, none⟩) 1 1, [(s, z)]), (.slice Ar (L - p) cr, l.drop p)] rfl rfl ?_ (by decide)⟩
        intro x hx
        simp at hx
        rcases hx with rfl | rfl | rfl
        · exact q1
        · exact p4'
        · exact q2
      · simp [predsOf, Region.binds, slotV] at hp
        refine wpOp_of rfl rfl ?_
        obtain ⟨⟨g, p1⟩, e, p2⟩ := hp
        have hj := joined_any _ _ W p2
        rw [p1] at hj
        go_simp
        refine hj.mono ?_
        rintro e1 W' ⟨v', rfl, hO, hB'⟩
        exact hK _ _ (by simp) hB' (by simpa [all] using hO.base (hbw.trans (h6.mono hbw.size)).size)
      · simp [predsOf, Region.binds, slotV] at hp
        refine wpOp_of rfl rfl ?_
        go_simp
        exact hK _ _ (by simp) (Below.refl _ _) hp.1
      · have i0 : i = 0 := by simp at hi; omega
        subst i0
        simp [predsOf, Region.binds, slotV] at hp
        refine wpOp_of rfl rfl ?_
        go_simp
        exact hK _ _ (by simp) (Below.refl _ _) rfl
    case fin =>
      intro vs W hRs h6
      have r10 := hRs 10 (by decide)
      have r11 := hRs 11 (by decide)
      simp at r10 r11
      simp only [putAll, List.foldl_cons, List.foldl_nil, Act.put, List.setIfInBounds_toArray, List.set_cons_succ, List.set_cons_zero, r11]
      generalize vs (some 4) = V4 at *
      have hbz := hbw.trans (h6.mono hbw.size)
      clear hRs r11 hfr hrr hef her
      go_wp2
      go_ret2
      exact ⟨_, rfl, r10, hbz⟩
set_option maxRecDepth 100000 in
set_option maxHeartbeats 8000000 in
theorem dless_any (v : Value) (l : List E) (s : ByteArray) (w : World) (h : Es w v l) (hcap : ∀ A n c, v = .slice A n c → n ≤ c) : Calls Tryz.prog 161 #[v, .string s] w fun e w' => ∃ v', e = .returned (.tuple #[v', .bool (PD.isAt l s)]) ∧ Eo w' w.heap.size v' (PD.less l s) ∧ Below w.heap.size w w' := by
  have hp := place_any v l s w h
  obtain ⟨A, c, rfl⟩ := h.form
  have hl := h.2.2
  have hnc := hcap _ _ _ rfl
  have hwl : PD.less l s = if PD.isAt l s = true then l.take (PD.place l s) ++ l.drop (PD.place l s + 1) else l := rfl
  have hpl : PD.place l s ≤ l.length := PD.place_le l s
  have hplt : PD.isAt l s = true → PD.place l s < l.length := fun e => by
    obtain ⟨x, hx, _⟩ := isAt_lt e
    exact (List.getElem?_eq_some_iff.1 hx).1
  generalize hL : l.length = L at *
  clear hcap
  cases hi : PD.isAt l s with
  | false =>
    rw [hi, if_neg (by decide)] at hwl
    rw [hwl]
    rw [hi] at hp
    generalize PD.place l s = p at *
    have HL := Lib.hid hL
    have H := Lib.hid h
    clear hi hwl hL h hplt
    go_enter Tryz.func161, Tryz.ntmps161
    go_wp2_with fail
    refine hp.mono ?_
    rintro e w1 ⟨rfl, hbw⟩
    clear hp
    have hLl := fun W (hW : Below w.heap.size w W) => Ll.new W #[.slice A L c] (0, 0) 1 1 _ rfl [(.slice A L c, l)] rfl rfl (by intro x hx; simp at hx; subst hx; exact H.out.below hW) (by decide)
    have hj := joined_any _ _ _ (hLl w1 hbw)
    have hba := al w1 (.cells #[.slice A L c] 69)
    clear hLl
    go_wp2_with fail
    refine hj.mono ?_
    rintro e w3 ⟨v3, rfl, hO3, hB3⟩
    have hb3 := hbw.trans ((hba.trans (hB3.mono hba.size)).mono hbw.size)
    have hO := hO3.base (hbw.trans (hba.mono hbw.size)).size
    simp only [all, List.flatMap_cons, List.flatMap_nil, List.append_nil] at hO
    have HO := Lib.hid hO
    clear hO hO3 hB3 hbw hba hj
    go_wp2
    go_ret2
    exact ⟨_, rfl, HO.out, hb3⟩
  | true =>
    have hlt := hplt hi
    rw [hi, if_pos rfl] at hwl
    rw [hwl]
    rw [hi] at hp
    generalize PD.place l s = p at *
    obtain ⟨Af, cf, hcf, hfr, hef'⟩ := Es.front (A := A) (n := L) (c := c) (p := p) hL hpl hnc
    obtain ⟨Ar, cr, hcr, hrr, her'⟩ := Es.rest (A := A) (n := L) (c := c) (p := p + 1) hL (by omega) hnc
    rw [show ((p + 1 : Nat) : Int) = (p : Int) + 1 by omega] at hrr
    have H := Lib.hid h
    have hw1 : IntKind.i64.wrap ((p : Int) + 1) = (p : Int) + 1 := by rw [IntKind.wrap_i64]; omega
    clear hi hwl h hplt
    go_enter Tryz.func161, Tryz.ntmps161
    go_wp2_with fail
    refine hp.mono ?_
    rintro e w2 ⟨rfl, hbw⟩
    have hef := fun W (hW : Below w2.heap.size w2 W) => hef' W ((H.out.below hbw).below hW)
    have her := fun W (hW : Below w2.heap.size w2 W) => her' W ((H.out.below hbw).below hW)
    clear hp hef' her'
    go_upto_region 4 with fail
    refine wp_region_grow Tryz.checked.mixed (by kernel_rfl) (fun W => Below w2.heap.size w2 W)
      (fun i v W => match i with
        | 0 => v = .slice A L c
        | 1 => v = .int .i64 (p : Int)
        | 2 => v = .slice Af p cf
        | 3 => v = .slice A L c
        | 4 => v = .int .i64 (p : Int)
        | 5 => v = .int .i64 ((p : Int) + 1)
        | 6 => v = .slice Ar (L - (p + 1)) cr
        | 7 => ∃ g, v = .slice (some ⟨g, 0, none⟩) 2 2 ∧ Ll W v [(.slice Af p cf, l.take p), (.slice Ar (L - (p + 1)) cr, l.drop (p + 1))]
        | 8 => Eo W w.heap.size v (l.take p ++ l.drop (p + 1))
        | 9 => Eo W w.heap.size v (l.take p ++ l.drop (p + 1))
        | _ => v = .bool true) ?hS ?hR ?start ?each ?fin
    case hS =>
      intro W W' h hb
      exact h.trans (hb.mono h.size)
    case hR =>
      intro j v W W' h hb
      rcases j with _ | _ | _ | _ | _ | _ | _ | _ | _ | _ | j <;> first | exact h | exact Eo.on h hb | exact ⟨h.choose, h.choose_spec.1, h.choose_spec.2.below hb⟩ | exact ⟨h.choose, h.choose_spec.choose, h.choose_spec.choose_spec.1, h.choose_spec.choose_spec.2.below hb⟩
    case start => exact (Below.refl _ _).drew
    case each =>
      intro i hi a W hold hp h6 K hK
      rcases i with _ | _ | _ | _ | _ | _ | _ | _ | _ | _ | i
      · have s := hold 0 rfl
        simp [predsOf, Region.binds, slotV] at hp
        refine wpOp_of rfl rfl ?_
        simp at s
        go_simp
        exact hK _ _ (by simp) (Below.refl _ _) rfl
      · have s := hold 6 rfl
        simp [predsOf, Region.binds, slotV] at hp
        refine wpOp_of rfl rfl ?_
        simp at s
        go_simp
        exact hK _ _ (by simp) (Below.refl _ _) rfl
      · simp [predsOf, Region.binds, slotV] at hp
        refine wpOp_of rfl rfl ?_
        go_simp
        exact hK _ _ (by simp) (Below.refl _ _) rfl
      · have s := hold 0 rfl
        simp [predsOf, Region.binds, slotV] at hp
        refine wpOp_of rfl rfl ?_
        simp at s
        go_simp
        exact hK _ _ (by simp) (Below.refl _ _) rfl
      · have s := hold 6 rfl
        simp [predsOf, Region.binds, slotV] at hp
        refine wpOp_of rfl rfl ?_
        simp at s
        go_simp
        exact hK _ _ (by simp) (Below.refl _ _) rfl
      · simp [predsOf, Region.binds, slotV] at hp
        refine wpOp_of rfl rfl ?_
        go_simp
        exact hK _ _ (by simp) (Below.refl _ _) (by simp)
      · simp [predsOf, Region.binds, slotV] at hp
        refine wpOp_of rfl rfl ?_
        go_simp
        exact hK _ _ (by simp) (Below.refl _ _) rfl
      · simp [predsOf, Region.binds, slotV] at hp
        refine wpOp_of rfl rfl ?_
        have q1 := hef W h6
        have q2 := her W h6
        go_simp
        refine hK _ _ (by simp) (al _ _) ⟨_, rfl, Ll.new W #[.slice Af p cf, .slice Ar (L - (p + 1)) cr] (0, 0) 2 2 _ rfl [(.slice Af p cf, l.take p), (.slice Ar (L - (p + 1)) cr, l.drop (p + 1))] rfl rfl ?_ (by decide)⟩
        intro x hx
        simp at hx
        rcases hx with rfl | rfl
        · exact q1
        · exact q2
      · simp [predsOf, Region.binds, slotV] at hp
        refine wpOp_of rfl rfl ?_
        obtain ⟨⟨g, p1⟩, p2⟩ := hp
        have hj := joined_any _ _ W p2
        rw [p1] at hj
        go_simp
        refine hj.mono ?_
        rintro e1 W' ⟨v', rfl, hO, hB'⟩
        exact hK _ _ (by simp) hB' (by simpa [all] using hO.base (hbw.trans (h6.mono hbw.size)).size)
      · simp [predsOf, Region.binds, slotV] at hp
        refine wpOp_of rfl rfl ?_
        go_simp
        exact hK _ _ (by simp) (Below.refl _ _) hp.1
      · have i0 : i = 0 := by simp at hi; omega
        subst i0
        simp [predsOf, Region.binds, slotV] at hp
        refine wpOp_of rfl rfl ?_
        go_simp
        exact hK _ _ (by simp) (Below.refl _ _) rfl
    case fin =>
      intro vs W hRs h6
      have r10 := hRs 9 (by decide)
      have r11 := hRs 10 (by decide)
      simp at r10 r11
      simp only [putAll, List.foldl_cons, List.foldl_nil, Act.put, List.setIfInBounds_toArray, List.set_cons_succ, List.set_cons_zero, r11]
      generalize vs (some 4) = V4 at *
      have hbz := hbw.trans (h6.mono hbw.size)
      clear hRs r11 hfr hrr hef her
      go_wp2
      go_ret2
      exact ⟨_, rfl, r10, hbz⟩
end Go.Proofs.YtdnobplhfbgbaaaGreatDoor
