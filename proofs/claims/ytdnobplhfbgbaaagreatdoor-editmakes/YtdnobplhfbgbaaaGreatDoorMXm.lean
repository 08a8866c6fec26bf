/-
  Contracts: slices.Equal at rows of texts, begins of edit.
  Contract: both of edit.
-/
import Derived.Test.YtdnobplhfbgbaaaGreatDoorMUv
import Derived.Test.YtdnobplhfbgbaaaGreatDoorMUe
import Derived.Test.YtdnobplhfbgbaaaGreatDoorXl
namespace Go.Proofs.YtdnobplhfbgbaaaGreatDoor
open Go.RowKit Go.Joins

set_option maxRecDepth 100000 in
set_option maxHeartbeats 4000000 in
theorem sequal_any (v u : Value) (a b : List ByteArray) (w : World) (h : Ss w v a) (h' : Ss w u b) : Calls Tryz.prog 160 #[v, u] w fun e w' => e = .returned (.bool (decide (a = b))) ∧ Below w.heap.size w w' := by
  obtain ⟨A, c, rfl⟩ := h.form
  obtain ⟨A', c', rfl⟩ := h'.form
  have hl := h.2.2
  have hl' := h'.2.2
  by_cases hab : a.length = b.length
  · rw [hab] at h hl ⊢
    have HS := Lib.hid h
    have HS' := Lib.hid h'
    generalize hL : b.length = L at *
    have HL := Lib.hid hL
    have HA := Lib.hid hab
    clear h hL h' hab
    obtain ⟨D, hD⟩ : ∃ D, decide (a = b) = D := ⟨_, rfl⟩
    rw [hD]
    have HD := Lib.hid hD
    clear hD
    go_enter Tryz.func160, Tryz.ntmps160
    go_wp2
    go_loopw [13] (fun i wr => ∃ k : Nat, k ≤ L ∧ i = .int .i64 (k : Int) ∧ Below w.heap.size w wr ∧ a.take k = b.take k) (fun i _ => L - (intOf i).toNat)
    case atStart => exact ⟨0, Nat.zero_le _, rfl, Below.refl _ _, rfl⟩
    case round =>
      obtain ⟨k, hk, rfl, hB, hT⟩ := hrel
      by_cases hlt : k < L
      · obtain ⟨b0, o0, rfl, hb0, hcell⟩ := (HS.out.below hB).at (by rw [HA.out]; omega)
        obtain ⟨b1, o1, rfl, hb1, hcell'⟩ := (HS'.out.below hB).at (by rw [HL.out]; omega)
        obtain ⟨x, hx⟩ : ∃ x, a[k]? = some x := ⟨_, List.getElem?_eq_getElem (by rw [HA.out]; omega)⟩
        obtain ⟨y, hy⟩ : ∃ y, b[k]? = some y := ⟨_, List.getElem?_eq_getElem (by rw [HL.out]; omega)⟩
        have g0 := hcell k x hx
        have g3 := hcell' k y hy
        have hE := take_eq_at hT hx hy
        have hN := take_ne_at hx hy
        clear hcell hcell' hx hy hb0 hb1
        by_cases e3 : x = y
        · subst e3
          have hq := seq_yes x
          have hE' := Lib.hid (hE.2 rfl)
          clear hE hN
          go_wp2_with fail
          go_quiet (fail)
          go_wp2
          go_roundw
          case rel => exact ⟨k + 1, by omega, by go_num, drewN_below hB _, hE'.out⟩
          case measure => simp [intOf]; omega
        · have hq := seq_no e3
          have hDf : D = false := by rw [← HD.out]; exact decide_eq_false (hN e3)
          subst hDf
          clear hE hN
          go_wp2_with fail
          go_quiet (fail)
          go_wp2
          go_ret
          exact ⟨rfl, drewN_below hB _⟩
      · have hkL : k = L := by omega
        have hd : decide ((k : Int) < (L : Int)) = false := by simp; omega
        have hDt : D = true := by
          rw [← HD.out]
          refine decide_eq_true ?_
          rw [← List.take_of_length_le (l := a) (i := k) (by rw [HA.out]; omega), ← List.take_of_length_le (l := b) (i := k) (by rw [HL.out]; omega)]
          exact hT
        subst hDt
        clear hT hkL
        go_wp2
        go_ret
        exact ⟨rfl, hB⟩
  · have hD : decide (a = b) = false := decide_eq_false fun e => hab (by rw [e])
    rw [hD]
    have hne : ((a.length : Int) == (b.length : Int)) = false := by simp; omega
    clear hD h h'
    generalize a.length = L at *
    generalize b.length = L' at *
    go_enter Tryz.func160, Tryz.ntmps160
    go_wp2
    go_ret
    exact ⟨rfl, Below.refl _ _⟩
set_option maxRecDepth 100000 in
set_option maxHeartbeats 4000000 in
theorem ebegins_any (U U' : Option Addr) (M M' d d' : Nat) (l f : List ByteArray) (w : World) (h : Ss w (.slice U M d) l) (h' : Ss w (.slice U' M' d') f) (hM : l.length = M) (hM' : f.length = M') (hd : M ≤ d) :
    Calls Tryz.prog 128 #[.slice U M d, .slice U' M' d'] w fun e w' => e = .returned (.bool (decide (l.take f.length = f))) ∧ Below w.heap.size w w' := by
  have hl := h.2.2
  have hl' := h'.2.2
  by_cases hle : M' ≤ M
  · obtain ⟨Uf, df, hdf, hrun, hsub⟩ := Ss.sub (A := U) (n := M) (c := d) (p := M') hM hle hd
    have he := fun W (hs : Ss W (.slice Uf M' df) (l.take M')) (h2 : Ss W (.slice U' M' d') f) => sequal_any _ _ (l.take M') f W hs h2
    have HE := Lib.hid (he w (hsub w h) h')
    rw [hM']
    have hd2 : decide ((M : Int) ≥ (M' : Int)) = true := by simp; omega
    have hM5 : M ≤ 65536 := by omega
    clear he hsub h h' hM hM'
    go_enter Tryz.func128, Tryz.ntmps128
    go_wp2_with (go_at_call 160; go_loud (refine HE.out.mono ?_; rintro e w2 ⟨rfl, hB⟩))
    go_ret
    exact ⟨rfl, hB⟩
  · have hD : decide (l.take f.length = f) = false := decide_eq_false fun e => by
      have := congrArg List.length e
      rw [List.length_take] at this
      omega
    rw [hD]
    have hd2 : decide ((M : Int) ≥ (M' : Int)) = false := by simp; omega
    clear h h' hD hM hM'
    go_enter Tryz.func128, Tryz.ntmps128
    go_wp2
    go_ret
    exact ⟨rfl, Below.refl _ _⟩
end Go.Proofs.YtdnobplhfbgbaaaGreatDoor
namespace Go.Proofs.YtdnobplhfbgbaaaGreatDoor
open Go.RowKit Go.Joins

theorem eboth_out {W : World} {gx : Nat} {x0 x1 x2 x3 x4 x5 x6 : Value} {Q : Ending → World → Prop} (tmps : Array Value) (q1 ino er : Int) (q2 : ByteArray) (n : PT.N) (A : Option Addr) (m c : Nat) (L : Value) (hx : Bx W gx 153 #[x0, x1, x2, x3, x4, x5, x6]) (ht : tmps[6]? = some (.pointer (some ⟨gx, 0, none⟩))) (h7 : tmps[7]? = some L) (h8 : tmps[8]? = some (.int .i64 er))
    (hq : Q (.returned (.tuple #[fv q1 q2 n ino (.slice A m c), L, .int .i64 er])) (put7 W gx (.int .i64 q1) (.string q2) (.int .i64 n.kind) (.int .i64 n.mode) (.string n.body) (.int .i64 ino) (.slice A m c))) :
    bodyPost Tryz.prog Tryz.f124 Q Exit.ret { tmps := tmps, defers := [] } (put7 W gx (.int .i64 q1) (.string q2) (.int .i64 n.kind) (.int .i64 n.mode) (.string n.body) (.int .i64 ino) (.slice A m c)) := by
  have h3 := hx.put7 (.int .i64 q1) (.string q2) (.int .i64 n.kind) (.int .i64 n.mode) (.string n.body) (.int .i64 ino) (.slice A m c)
  obtain ⟨⟨c0, c1, c2, c3, c4, c5, c6⟩, _⟩ := h3.found
  refine bodyPost_ret (v := .tuple #[fv q1 q2 n ino (.slice A m c), L, .int .i64 er]) ?_ rfl hq
  generalize put7 W gx (.int .i64 q1) (.string q2) (.int .i64 n.kind) (.int .i64 n.mode) (.string n.body) (.int .i64 ino) (.slice A m c) = W2 at *
  simp [results, Tryz.results124, go_sem, ht, h7, h8, c0, c1, c2, c3, c4, c5, c6, fv]
theorem Ss.put7 {w : World} {U : Option Addr} {M d g : Nat} {l : List ByteArray} (h : Ss w (.slice U M d) l) (hU : ∀ ad, U = some ad → ad.block ≠ g) (a b c e f i j : Value) : Ss (put7 w g a b c e f i j) (.slice U M d) l := by
  refine ⟨h.1.heap (put7_below (Below.refl 0 w) (Nat.zero_le _) _ _ _ _ _ _ _).size ?_, h.2⟩
  intro ad n' c' e
  have e1 : U = some ad := by cases e; rfl
  exact put7_block _ _ _ (hU ad e1) _ _ _ _ _ _ _
set_option maxRecDepth 100000 in
set_option maxHeartbeats 4000000 in
theorem eboth_bad (A : Option Addr) (c : Nat) (t : List PT.N) (o : Bool) (s1 s2 : ByteArray) (w : World) (hml : Ml w) (h : Ts w (.slice A 9 c) t) (_ : PT.Fine t) (_ : s1.size ≤ 65535) (hs2 : s2.size ≤ 65535) (hbad : PN.is o s2 = false) :
    Calls Tryz.prog 124 #[.agg #[.slice A 9 c, .bool o], .string s1, .string s2] w fun e w' => ∃ L, e = .returned (.tuple #[fz, L, .int .i64 1]) ∧ Below w.heap.size w w' := by
  have hb1 := al w (.cells #[.slice A 9 c, .bool o] 97)
  have hx1 := Bx.new w 97 #[.slice A 9 c, .bool o]
  have hz1 : (w.alloc (.cells #[.slice A 9 c, .bool o] 97)).heap.size = w.heap.size + 1 := by simp
  have hb2 := hb1.alloc hb1.size (.cells #[.int .i64 0, .string { data := #[] }, .int .i64 0, .int .i64 0, .string { data := #[] }, .int .i64 0, .slice none 0 0] 153)
  have hx2 := Bx.new (w.alloc (.cells #[.slice A 9 c, .bool o] 97)) 153 #[.int .i64 0, .string { data := #[] }, .int .i64 0, .int .i64 0, .string { data := #[] }, .int .i64 0, .slice none 0 0]
  have hx1 := hx1.alloc (.cells #[.int .i64 0, .string { data := #[] }, .int .i64 0, .int .i64 0, .string { data := #[] }, .int .i64 0, .slice none 0 0] 153)
  rw [hz1] at hx2
  have hml2 := hml.below hb2
  have h2 := h.below hb2
  have hz2 : ((w.alloc (.cells #[.slice A 9 c, .bool o] 97)).alloc (.cells #[.int .i64 0, .string { data := #[] }, .int .i64 0, .int .i64 0, .string { data := #[] }, .int .i64 0, .slice none 0 0] 153)).heap.size = w.heap.size + 2 := by simp
  have hpa := fun W (hm : Ml W) => parts_any s2 o W hm hs2
  rw [hbad] at hpa
  have hp := hpa _ hml2
  clear hb1 hz1 hml h hpa hbad
  go_enter Tryz.func124, Tryz.ntmps124
  go_upto_region 1 with fail
  generalize hw2 : (w.alloc (.cells #[.slice A 9 c, .bool o] 97)).alloc (.cells #[.int .i64 0, .string { data := #[] }, .int .i64 0, .int .i64 0, .string { data := #[] }, .int .i64 0, .slice none 0 0] 153) = w2 at *
  generalize hgx : w.heap.size = g1 at *
  have HB2 := Lib.hid hb2
  have HX1 := Lib.hid hx1
  have HX2 := Lib.hid hx2
  have HT := Lib.hid h2
  have HML := Lib.hid hml2
  have HGX := Lib.hid hgx
  obtain ⟨c0, c1⟩ := hx1.work
  clear hb2 hx1 hx2 h2 hml2 hw2 hgx
  go_wp2_with (go_at_call 62; go_loud (refine hp.mono ?_; rintro e w3 ⟨v3, rfl, hO3, hB3⟩; have hx3 := HX2.out.on hB3; have hb3 := HB2.out.trans (hB3.mono (by omega)); obtain ⟨⟨a0, a1, a2, a3, a4, a5, a6⟩, f0, f1, f2, f3, f4, f5, f6⟩ := hx3.found))
  (try simp only [Exit.inBlock, Exit.then])
  have hgx := HGX.out
  subst hgx
  exact eboth_out (W := w3) (gx := w.heap.size + 1) _ 0 0 1 { data := #[] } PT.zero none 0 0 _ hx3 rfl rfl rfl ⟨_, rfl, put7_below hb3 (Nat.le_succ _) _ _ _ _ _ _ _⟩
set_option maxRecDepth 100000 in
set_option maxHeartbeats 4000000 in
theorem eboth_no (A : Option Addr) (c : Nat) (t : List PT.N) (o : Bool) (s1 s2 : ByteArray) (w : World) (hml : Ml w) (h : Ts w (.slice A 9 c) t) (g : PT.Fine t) (hs1 : s1.size ≤ 65535) (hs2 : s2.size ≤ 65535) (l2 : List ByteArray) (his2 : PN.is o s2 = true) (hl2 : PN.pt o s2 = l2) (er : Int) (hf : (PT.find t (PT.pp o s1)).2 = er) (hz : er ≠ 0) :
    Calls Tryz.prog 124 #[.agg #[.slice A 9 c, .bool o], .string s1, .string s2] w fun e w' => ∃ L, e = .returned (.tuple #[fz, L, .int .i64 er]) ∧ Below w.heap.size w w' := by
  have hb1 := al w (.cells #[.slice A 9 c, .bool o] 97)
  have hx1 := Bx.new w 97 #[.slice A 9 c, .bool o]
  have hz1 : (w.alloc (.cells #[.slice A 9 c, .bool o] 97)).heap.size = w.heap.size + 1 := by simp
  have hb2 := hb1.alloc hb1.size (.cells #[.int .i64 0, .string { data := #[] }, .int .i64 0, .int .i64 0, .string { data := #[] }, .int .i64 0, .slice none 0 0] 153)
  have hx2 := Bx.new (w.alloc (.cells #[.slice A 9 c, .bool o] 97)) 153 #[.int .i64 0, .string { data := #[] }, .int .i64 0, .int .i64 0, .string { data := #[] }, .int .i64 0, .slice none 0 0]
  have hx1 := hx1.alloc (.cells #[.int .i64 0, .string { data := #[] }, .int .i64 0, .int .i64 0, .string { data := #[] }, .int .i64 0, .slice none 0 0] 153)
  rw [hz1] at hx2
  have hml2 := hml.below hb2
  have h2 := h.below hb2
  have hz2 : ((w.alloc (.cells #[.slice A 9 c, .bool o] 97)).alloc (.cells #[.int .i64 0, .string { data := #[] }, .int .i64 0, .int .i64 0, .string { data := #[] }, .int .i64 0, .slice none 0 0] 153)).heap.size = w.heap.size + 2 := by simp
  have hpa := fun W (hm : Ml W) => parts_any s2 o W hm hs2
  obtain ⟨_, h82, _⟩ := PN.is_some his2
  rw [his2, hl2] at hpa
  rw [hl2] at h82
  obtain ⟨M2, hM2⟩ : ∃ M, l2.length = M := ⟨_, rfl⟩
  have hsm : ∀ x ∈ l2, x.size ≤ 1048576 := fun x hx => by have := (PN.pt_le o s2).2 x (by rw [hl2]; exact hx); omega
  have HSM := Lib.hid hsm
  have HM2 := Lib.hid hM2
  have h82' : M2 ≤ 8 := by omega
  have hp := hpa _ hml2
  have hfn := fun W (hm : Ml W) (h : Ts W (.slice A 9 c) t) => efind_no A c t o s1 er W hm h g hs1 hf hz
  simp only [fz, fv, PT.zero] at hfn
  have HFN := Lib.hid hfn
  clear hb1 hz1 hml h hpa hM2 his2 hl2 hf hz hfn hsm h82
  go_enter Tryz.func124, Tryz.ntmps124
  go_upto_region 1 with fail
  generalize hw2 : (w.alloc (.cells #[.slice A 9 c, .bool o] 97)).alloc (.cells #[.int .i64 0, .string { data := #[] }, .int .i64 0, .int .i64 0, .string { data := #[] }, .int .i64 0, .slice none 0 0] 153) = w2 at *
  generalize hgx : w.heap.size = g1 at *
  have HB2 := Lib.hid hb2
  have HX1 := Lib.hid hx1
  have HX2 := Lib.hid hx2
  have HT := Lib.hid h2
  have HML := Lib.hid hml2
  have HGX := Lib.hid hgx
  obtain ⟨c0, c1⟩ := hx1.work
  clear hb2 hx1 hx2 h2 hml2 hw2 hgx
  go_wp2_with (first | (go_at_call 131; go_loud (refine (HFN.out _ (HML.out.below hB4) (HT.out.below hB4)).mono ?_; rintro e w5 ⟨rfl, hB5⟩; have hb25 := hB4.trans (hB5.mono hB4.size); have hx3 := (HX2.out.on hb25).alloc (.cells #[.int .i64 0, .string { data := #[] }, .int .i64 0, .int .i64 0, .string { data := #[] }, .int .i64 0, .slice none 0 0] 153); have hb6 := (HB2.out.trans (hb25.mono (by omega))).alloc (by have := hb25.size; omega) (.cells #[.int .i64 0, .string { data := #[] }, .int .i64 0, .int .i64 0, .string { data := #[] }, .int .i64 0, .slice none 0 0] 153); obtain ⟨⟨a0, a1, a2, a3, a4, a5, a6⟩, f0, f1, f2, f3, f4, f5, f6⟩ := hx3.found; obtain ⟨⟨b0, b1, b2, b3, b4, b5, b6⟩, _⟩ := (Bx.new w5 153 #[.int .i64 0, .string { data := #[] }, .int .i64 0, .int .i64 0, .string { data := #[] }, .int .i64 0, .slice none 0 0]).found)) | (go_at_call 62; go_loud (refine hp.mono ?_; rintro e w4 ⟨v4, rfl, hO4, hB4⟩; obtain ⟨U2, d2, hv4, hd2⟩ := own_cap hO4; rw [HM2.out] at hv4 hd2; subst hv4; have hU2 := own_from hO4; have hs4 := hO4.row HSM.out (by rw [HM2.out]; omega); clear c0 c1; obtain ⟨c0, c1⟩ := (HX1.out.on hB4).work)))
  (try simp only [Exit.inBlock, Exit.then])
  have hgx := HGX.out
  subst hgx
  exact eboth_out (gx := w.heap.size + 1) _ 0 0 _ { data := #[] } PT.zero none 0 0 _ hx3 rfl rfl rfl ⟨_, rfl, put7_below hb6 (Nat.le_succ _) _ _ _ _ _ _ _⟩
set_option maxRecDepth 100000 in
set_option maxHeartbeats 4000000 in
theorem eboth_yes (A : Option Addr) (c : Nat) (t : List PT.N) (o : Bool) (s1 s2 : ByteArray) (w : World) (hml : Ml w) (h : Ts w (.slice A 9 c) t) (g : PT.Fine t) (hs1 : s1.size ≤ 65535) (hs2 : s2.size ≤ 65535) (l1 l2 : List ByteArray) (his1 : PN.is o s1 = true) (hl1 : PN.pt o s1 = l1) (his2 : PN.is o s2 = true) (hl2 : PN.pt o s2 = l2) (k : Nat) (n : PT.N) (hwk : PT.walk t 0 l1 = (((k + 1 : Nat) : Int), 0)) (hn : t[k]? = some n) :
    Calls Tryz.prog 124 #[.agg #[.slice A 9 c, .bool o], .string s1, .string s2] w fun e w' => ∃ U M d U2 M2 d2, e = .returned (.tuple #[fv (PT.plc t l1).1 (PT.plc t l1).2.1 n ((k : Int) + 1) (.slice U M d), .slice U2 M2 d2, .int .i64 0]) ∧ (l1.length = M ∧ M ≤ d ∧ Ss w' (.slice U M d) l1) ∧ (l2.length = M2 ∧ M2 ≤ d2 ∧ Ss w' (.slice U2 M2 d2) l2) ∧ Below w.heap.size w w' := by
  have hb1 := al w (.cells #[.slice A 9 c, .bool o] 97)
  have hx1 := Bx.new w 97 #[.slice A 9 c, .bool o]
  have hz1 : (w.alloc (.cells #[.slice A 9 c, .bool o] 97)).heap.size = w.heap.size + 1 := by simp
  have hb2 := hb1.alloc hb1.size (.cells #[.int .i64 0, .string { data := #[] }, .int .i64 0, .int .i64 0, .string { data := #[] }, .int .i64 0, .slice none 0 0] 153)
  have hx2 := Bx.new (w.alloc (.cells #[.slice A 9 c, .bool o] 97)) 153 #[.int .i64 0, .string { data := #[] }, .int .i64 0, .int .i64 0, .string { data := #[] }, .int .i64 0, .slice none 0 0]
  have hx1 := hx1.alloc (.cells #[.int .i64 0, .string { data := #[] }, .int .i64 0, .int .i64 0, .string { data := #[] }, .int .i64 0, .slice none 0 0] 153)
  rw [hz1] at hx2
  have hml2 := hml.below hb2
  have h2 := h.below hb2
  have hz2 : ((w.alloc (.cells #[.slice A 9 c, .bool o] 97)).alloc (.cells #[.int .i64 0, .string { data := #[] }, .int .i64 0, .int .i64 0, .string { data := #[] }, .int .i64 0, .slice none 0 0] 153)).heap.size = w.heap.size + 2 := by simp
  have hpa := fun W (hm : Ml W) => parts_any s2 o W hm hs2
  obtain ⟨_, h82, _⟩ := PN.is_some his2
  rw [his2, hl2] at hpa
  rw [hl2] at h82
  obtain ⟨M2, hM2⟩ : ∃ M, l2.length = M := ⟨_, rfl⟩
  have hsm : ∀ x ∈ l2, x.size ≤ 1048576 := fun x hx => by have := (PN.pt_le o s2).2 x (by rw [hl2]; exact hx); omega
  have HSM := Lib.hid hsm
  have HM2 := Lib.hid hM2
  have h82' : M2 ≤ 8 := by omega
  have hp := hpa _ hml2
  have hfn := fun W (hm : Ml W) (h : Ts W (.slice A 9 c) t) => efind_yes A c t o s1 l1 k n W hm h g hs1 his1 hl1 hwk hn
  obtain ⟨⟨q1, q2, q3⟩, hq⟩ : ∃ q, PT.plc t l1 = q := ⟨_, rfl⟩
  rw [hq] at hfn ⊢
  simp only [fv] at hfn
  dsimp only
  have HFN := Lib.hid hfn
  clear hb1 hz1 hml h hpa hM2 his2 hl2 hfn hsm h82 his1 hl1 hwk hn hq
  go_enter Tryz.func124, Tryz.ntmps124
  go_upto_region 1 with fail
  generalize hw2 : (w.alloc (.cells #[.slice A 9 c, .bool o] 97)).alloc (.cells #[.int .i64 0, .string { data := #[] }, .int .i64 0, .int .i64 0, .string { data := #[] }, .int .i64 0, .slice none 0 0] 153) = w2 at *
  generalize hgx : w.heap.size = g1 at *
  have HB2 := Lib.hid hb2
  have HX1 := Lib.hid hx1
  have HX2 := Lib.hid hx2
  have HT := Lib.hid h2
  have HML := Lib.hid hml2
  have HGX := Lib.hid hgx
  obtain ⟨c0, c1⟩ := hx1.work
  clear hb2 hx1 hx2 h2 hml2 hw2 hgx
  go_wp2_with (first | (go_at_call 131; go_loud (refine (HFN.out _ (HML.out.below hB4) (HT.out.below hB4)).mono ?_; rintro e w5 ⟨U, M, d, rfl, hM, hd, hs5, hU, hB5⟩; have hb25 := hB4.trans (hB5.mono hB4.size); have hx3 := (HX2.out.on hb25).alloc (.cells #[.int .i64 q1, .string q2, .int .i64 n.kind, .int .i64 n.mode, .string n.body, .int .i64 ((k : Int) + 1), .slice U M d] 153); have hb6 := (HB2.out.trans (hb25.mono (by omega))).alloc (by have := hb25.size; omega) (.cells #[.int .i64 q1, .string q2, .int .i64 n.kind, .int .i64 n.mode, .string n.body, .int .i64 ((k : Int) + 1), .slice U M d] 153); obtain ⟨⟨a0, a1, a2, a3, a4, a5, a6⟩, f0, f1, f2, f3, f4, f5, f6⟩ := hx3.found; obtain ⟨⟨b0, b1, b2, b3, b4, b5, b6⟩, _⟩ := (Bx.new w5 153 #[.int .i64 q1, .string q2, .int .i64 n.kind, .int .i64 n.mode, .string n.body, .int .i64 ((k : Int) + 1), .slice U M d]).found)) | (go_at_call 62; go_loud (refine hp.mono ?_; rintro e w4 ⟨v4, rfl, hO4, hB4⟩; obtain ⟨U2, d2, hv4, hd2⟩ := own_cap hO4; rw [HM2.out] at hv4 hd2; subst hv4; have hU2 := own_from hO4; have hs4 := hO4.row HSM.out (by rw [HM2.out]; omega); clear c0 c1; obtain ⟨c0, c1⟩ := (HX1.out.on hB4).work)))
  (try simp only [Exit.inBlock, Exit.then])
  have hgx := HGX.out
  subst hgx
  have hz4 := hB4.size
  refine eboth_out (gx := w.heap.size + 1) _ q1 ((k : Int) + 1) 0 q2 n U M d _ hx3 rfl rfl rfl ⟨U, M, d, U2, M2, d2, rfl, ⟨hM, hd, ?_⟩, ⟨HM2.out, hd2, ?_⟩, put7_below hb6 (Nat.le_succ _) _ _ _ _ _ _ _⟩
  · exact (hs5.below (al _ _)).put7 (fun ad he => by have := hU ad he; omega) _ _ _ _ _ _ _
  · exact ((hs4.below hB5).below (al _ _)).put7 (fun ad he => by have := hU2 ad he; omega) _ _ _ _ _ _ _
end Go.Proofs.YtdnobplhfbgbaaaGreatDoor
