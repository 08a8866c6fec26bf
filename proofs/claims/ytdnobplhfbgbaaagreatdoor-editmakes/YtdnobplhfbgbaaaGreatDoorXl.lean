/-
  Contract: find of edit.
-/
import Derived.Test.YtdnobplhfbgbaaaGreatDoorMXc
import Derived.Test.YtdnobplhfbgbaaaGreatDoorMXi
namespace Go.Proofs.YtdnobplhfbgbaaaGreatDoor
open Go.RowKit Go.Joins

/-- Seven cells laid into a box. -/
def put7 (w : World) (g : Nat) (a b c d e f h : Value) : World := ((((((w.setCell ⟨g, 0, none⟩ a).setCell ⟨g, 1, none⟩ b).setCell ⟨g, 2, none⟩ c).setCell ⟨g, 3, none⟩ d).setCell ⟨g, 4, none⟩ e).setCell ⟨g, 5, none⟩ f).setCell ⟨g, 6, none⟩ h
theorem Bx.put7 {w : World} {gx : Nat} {t : TypeId} {x0 x1 x2 x3 x4 x5 x6 : Value} (hx : Bx w gx t #[x0, x1, x2, x3, x4, x5, x6]) (a b c d e f h : Value) : Bx (put7 w gx a b c d e f h) gx t #[a, b, c, d, e, f, h] := by
  have h3 := ((((((hx.set 0 a).set 1 b).set 2 c).set 3 d).set 4 e).set 5 f).set 6 h
  have e3 : (((((((#[x0, x1, x2, x3, x4, x5, x6] : Array Value).setIfInBounds 0 a).setIfInBounds 1 b).setIfInBounds 2 c).setIfInBounds 3 d).setIfInBounds 4 e).setIfInBounds 5 f).setIfInBounds 6 h = #[a, b, c, d, e, f, h] := by simp
  rw [e3] at h3
  exact h3
theorem put7_block (w : World) (g k : Nat) (hk : k ≠ g) (a b c d e f h : Value) : (put7 w g a b c d e f h).heap[k]? = w.heap[k]? := by
  unfold put7
  rw [Below.heap_setCell _ _ _ _ hk, Below.heap_setCell _ _ _ _ hk, Below.heap_setCell _ _ _ _ hk, Below.heap_setCell _ _ _ _ hk, Below.heap_setCell _ _ _ _ hk, Below.heap_setCell _ _ _ _ hk, Below.heap_setCell _ _ _ _ hk]
theorem Sl.heap {w w' : World} {size : Nat} {v : Value} {n : Nat} {xs : List Value} (h : Sl w size v n xs) (hs : w.heap.size ≤ w'.heap.size) (hk : ∀ ad n c, v = .slice (some ad) n c → w'.heap[ad.block]? = w.heap[ad.block]?) : Sl w' size v n xs := by
  obtain ⟨A, c, rfl, hl, h⟩ := h
  refine ⟨A, c, rfl, hl, fun hn => ?_⟩
  obtain ⟨b, o, hA, hb, hc⟩ := h hn
  subst hA
  have := hk ⟨b, o, none⟩ n c rfl
  refine ⟨b, o, rfl, by omega, fun j hj => ?_⟩
  rw [← hc j hj]
  simp only [World.cell?]
  dsimp only at this
  rw [this]
theorem own_from {w : World} {base size n n' c : Nat} {e : TypeId} {A : Option Addr} {xs : List Value} (h : w.ownsRow base e size (.slice A n c) n' xs) : ∀ ad, A = some ad → base ≤ ad.block := by
  intro ad he
  subst he
  rcases h.2 with ⟨e, _⟩ | ⟨g, cap, cur, e, hg, _⟩
  · cases e
  · injection e with e1 e2 e3
    injection e1 with e1
    rw [e1]; exact hg
theorem put7_below {B : Nat} {w W : World} {gx : Nat} (hb : Below B w W) (hg : B ≤ gx) (a b c d e f h : Value) : Below B w (put7 W gx a b c d e f h) :=
  ((((((hb.setCell (p := ⟨gx, 0, none⟩) hg _).setCell (p := ⟨gx, 1, none⟩) hg _).setCell (p := ⟨gx, 2, none⟩) hg _).setCell (p := ⟨gx, 3, none⟩) hg _).setCell (p := ⟨gx, 4, none⟩) hg _).setCell (p := ⟨gx, 5, none⟩) hg _).setCell (p := ⟨gx, 6, none⟩) hg _
/-- What was found, as a value. -/
def fv (q1 : Int) (q2 : ByteArray) (n : PT.N) (ino : Int) (u : Value) : Value := .agg #[.int .i64 q1, .string q2, .int .i64 n.kind, .int .i64 n.mode, .string n.body, .int .i64 ino, u]
def fz : Value := fv 0 { data := #[] } PT.zero 0 (.slice none 0 0)
theorem Bx.found {w : World} {g : Nat} {q1 k m ino : Int} {q2 b : ByteArray} {u : Value} (h : Bx w g 153 #[.int .i64 q1, .string q2, .int .i64 k, .int .i64 m, .string b, .int .i64 ino, u]) : (w.cell? ⟨g, 0, none⟩ = some (.int .i64 q1) ∧ w.cell? ⟨g, 1, none⟩ = some (.string q2) ∧ w.cell? ⟨g, 2, none⟩ = some (.int .i64 k) ∧ w.cell? ⟨g, 3, none⟩ = some (.int .i64 m) ∧ w.cell? ⟨g, 4, none⟩ = some (.string b) ∧ w.cell? ⟨g, 5, none⟩ = some (.int .i64 ino) ∧ w.cell? ⟨g, 6, none⟩ = some u) ∧ w.frozen? ⟨g, 0, none⟩ = false ∧ w.frozen? ⟨g, 1, none⟩ = false ∧ w.frozen? ⟨g, 2, none⟩ = false ∧ w.frozen? ⟨g, 3, none⟩ = false ∧ w.frozen? ⟨g, 4, none⟩ = false ∧ w.frozen? ⟨g, 5, none⟩ = false ∧ w.frozen? ⟨g, 6, none⟩ = false :=
  ⟨⟨h.cell 0, h.cell 1, h.cell 2, h.cell 3, h.cell 4, h.cell 5, h.cell 6⟩, h.frozen 0, h.frozen 1, h.frozen 2, h.frozen 3, h.frozen 4, h.frozen 5, h.frozen 6⟩
theorem efind_out {W : World} {gx : Nat} {x0 x1 x2 x3 x4 x5 x6 : Value} {Q : Ending → World → Prop} (tmps : Array Value) (q1 ino er : Int) (q2 : ByteArray) (n : PT.N) (A : Option Addr) (m c : Nat) (hx : Bx W gx 153 #[x0, x1, x2, x3, x4, x5, x6]) (ht : tmps[4]? = some (.pointer (some ⟨gx, 0, none⟩))) (h5 : tmps[5]? = some (.int .i64 er))
    (hq : Q (.returned (.tuple #[fv q1 q2 n ino (.slice A m c), .int .i64 er])) (put7 W gx (.int .i64 q1) (.string q2) (.int .i64 n.kind) (.int .i64 n.mode) (.string n.body) (.int .i64 ino) (.slice A m c))) :
    bodyPost Tryz.prog Tryz.f131 Q Exit.ret { tmps := tmps, defers := [] } (put7 W gx (.int .i64 q1) (.string q2) (.int .i64 n.kind) (.int .i64 n.mode) (.string n.body) (.int .i64 ino) (.slice A m c)) := by
  have h3 := hx.put7 (.int .i64 q1) (.string q2) (.int .i64 n.kind) (.int .i64 n.mode) (.string n.body) (.int .i64 ino) (.slice A m c)
  obtain ⟨⟨c0, c1, c2, c3, c4, c5, c6⟩, _⟩ := h3.found
  refine bodyPost_ret (v := .tuple #[fv q1 q2 n ino (.slice A m c), .int .i64 er]) ?_ rfl hq
  generalize put7 W gx (.int .i64 q1) (.string q2) (.int .i64 n.kind) (.int .i64 n.mode) (.string n.body) (.int .i64 ino) (.slice A m c) = W2 at *
  simp [results, Tryz.results131, go_sem, ht, h5, c0, c1, c2, c3, c4, c5, c6, fv]
set_option maxRecDepth 100000 in
set_option maxHeartbeats 4000000 in
theorem efind_no (A : Option Addr) (c : Nat) (t : List PT.N) (o : Bool) (s : ByteArray) (er : Int) (w : World) (hml : Ml w) (h : Ts w (.slice A 9 c) t) (g : PT.Fine t) (hs : s.size ≤ 65535) (hf2 : (PT.find t (PT.pp o s)).2 = er) (hz : er ≠ 0) :
    Calls Tryz.prog 131 #[.agg #[.slice A 9 c, .bool o], .string s] w fun e w' => e = .returned (.tuple #[fz, .int .i64 er]) ∧ Below w.heap.size w w' := by
  have hb1 := al w (.cells #[.slice A 9 c, .bool o] 97)
  have hx1 := Bx.new w 97 #[.slice A 9 c, .bool o]
  have hz1 : (w.alloc (.cells #[.slice A 9 c, .bool o] 97)).heap.size = w.heap.size + 1 := by simp
  have hb2 := hb1.alloc hb1.size (.cells #[.int .i64 0, .string { data := #[] }, .int .i64 0, .int .i64 0, .string { data := #[] }, .int .i64 0, .slice none 0 0] 153)
  have hx2 := Bx.new (w.alloc (.cells #[.slice A 9 c, .bool o] 97)) 153 #[.int .i64 0, .string { data := #[] }, .int .i64 0, .int .i64 0, .string { data := #[] }, .int .i64 0, .slice none 0 0]
  have hx1 := hx1.alloc (.cells #[.int .i64 0, .string { data := #[] }, .int .i64 0, .int .i64 0, .string { data := #[] }, .int .i64 0, .slice none 0 0] 153)
  rw [hz1] at hx2
  have hml2 := hml.below hb2
  have h2 := h.below hb2
  have hz2 : ((w.alloc (.cells #[.slice A 9 c, .bool o] 97)).alloc (.cells #[.int .i64 0, .string { data := #[] }, .int .i64 0, .int .i64 0, .string { data := #[] }, .int .i64 0, .slice none 0 0] 153)).heap.size = w.heap.size + 2 := by simp
  have hf := fun W (hm : Ml W) (h : Ts W (.slice A 9 c) t) => tfind_any (.slice A 9 c) t s o W hm h g hs
  obtain ⟨f1, hf1⟩ : ∃ f, (PT.find t (PT.pp o s)).1 = f := ⟨_, rfl⟩
  rw [hf1, hf2] at hf
  have hfd := hf _ hml2 h2
  have hqb : (er == 0) = false := by simpa using hz
  clear hb1 hz1 hf hf1 hf2 hml h hz
  go_enter Tryz.func131, Tryz.ntmps131
  go_upto_region 1 with fail
  generalize hw2 : (w.alloc (.cells #[.slice A 9 c, .bool o] 97)).alloc (.cells #[.int .i64 0, .string { data := #[] }, .int .i64 0, .int .i64 0, .string { data := #[] }, .int .i64 0, .slice none 0 0] 153) = w2 at *
  generalize hgx : w.heap.size = g1 at *
  have HB2 := Lib.hid hb2
  have HX1 := Lib.hid hx1
  have HX2 := Lib.hid hx2
  have HT := Lib.hid h2
  have HML := Lib.hid hml2
  have HGX := Lib.hid hgx
  obtain ⟨c0, c1⟩ := hx1.work
  clear hb2 hx1 hx2 h2 hml2 hw2 hgx
  go_wp2_with (go_at_call 16; go_loud (refine hfd.mono ?_; rintro e w3 ⟨rfl, hB3⟩; have hx3 := HX2.out.on hB3; have hb3 := HB2.out.trans (hB3.mono (by omega)); obtain ⟨⟨a0, a1, a2, a3, a4, a5, a6⟩, f0, f1, f2, f3, f4, f5, f6⟩ := hx3.found))
  (try simp only [Exit.inBlock, Exit.then])
  have hgx := HGX.out
  subst hgx
  exact efind_out (W := w3) (gx := w.heap.size + 1) _ 0 0 _ { data := #[] } PT.zero none 0 0 hx3 rfl rfl ⟨rfl, put7_below hb3 (Nat.le_succ _) _ _ _ _ _ _ _⟩
set_option maxRecDepth 100000 in
set_option maxHeartbeats 8000000 in
theorem efind_yes (A : Option Addr) (c : Nat) (t : List PT.N) (o : Bool) (s : ByteArray) (l : List ByteArray) (k : Nat) (n : PT.N) (w : World) (hml : Ml w) (h : Ts w (.slice A 9 c) t) (g : PT.Fine t) (hs : s.size ≤ 65535) (his : PN.is o s = true) (hl : PN.pt o s = l) (hwk : PT.walk t 0 l = (((k + 1 : Nat) : Int), 0)) (hn : t[k]? = some n) :
    Calls Tryz.prog 131 #[.agg #[.slice A 9 c, .bool o], .string s] w fun e w' => ∃ U M d, e = .returned (.tuple #[fv (PT.plc t l).1 (PT.plc t l).2.1 n ((k : Int) + 1) (.slice U M d), .int .i64 0]) ∧ l.length = M ∧ M ≤ d ∧ Ss w' (.slice U M d) l ∧ (∀ ad, U = some ad → w.heap.size ≤ ad.block) ∧ Below w.heap.size w w' := by
  have hb1 := al w (.cells #[.slice A 9 c, .bool o] 97)
  have hx1 := Bx.new w 97 #[.slice A 9 c, .bool o]
  have hz1 : (w.alloc (.cells #[.slice A 9 c, .bool o] 97)).heap.size = w.heap.size + 1 := by simp
  have hb2 := hb1.alloc hb1.size (.cells #[.int .i64 0, .string { data := #[] }, .int .i64 0, .int .i64 0, .string { data := #[] }, .int .i64 0, .slice none 0 0] 153)
  have hx2 := Bx.new (w.alloc (.cells #[.slice A 9 c, .bool o] 97)) 153 #[.int .i64 0, .string { data := #[] }, .int .i64 0, .int .i64 0, .string { data := #[] }, .int .i64 0, .slice none 0 0]
  have hx1 := hx1.alloc (.cells #[.int .i64 0, .string { data := #[] }, .int .i64 0, .int .i64 0, .string { data := #[] }, .int .i64 0, .slice none 0 0] 153)
  rw [hz1] at hx2
  have hml2 := hml.below hb2
  have h2 := h.below hb2
  have hz2 : ((w.alloc (.cells #[.slice A 9 c, .bool o] 97)).alloc (.cells #[.int .i64 0, .string { data := #[] }, .int .i64 0, .int .i64 0, .string { data := #[] }, .int .i64 0, .slice none 0 0] 153)).heap.size = w.heap.size + 2 := by simp
  have hf := fun W (hm : Ml W) (h : Ts W (.slice A 9 c) t) => tfind_any (.slice A 9 c) t s o W hm h g hs
  have hpp : PT.find t (PT.pp o s) = ((k : Int) + 1, 0) := by
    rw [PT.pp_yes his, hl]
    exact hwk.trans (by rw [show ((k + 1 : Nat) : Int) = (k : Int) + 1 by omega])
  rw [hpp] at hf
  have hfd := hf _ hml2 h2
  have hpa := fun W (hm : Ml W) => parts_any s o W hm hs
  obtain ⟨hpath, h8, hok⟩ := PN.is_some his
  rw [his, hl] at hpa
  rw [hl] at h8 hok
  obtain ⟨M, hM⟩ : ∃ M, l.length = M := ⟨_, rfl⟩
  obtain ⟨⟨q1, q2, q3⟩, hq⟩ : ∃ q, PT.plc t l = q := ⟨_, rfl⟩
  rw [hq]
  have hpl := fun U d W (hm : Ml W) (h : Ts W (.slice A 9 c) t) (hs : Ss W (.slice U M d) l) (hd : M ≤ d) => eplace_any A U c M d t l o W hm h g hs hM hd (by omega) hok
  rw [hq] at hpl
  dsimp only at hpl ⊢
  have hat := fun W (h : Ts W (.slice A 9 c) t) => eat_any A c t o k n W h g.len hn
  have HPA := Lib.hid hpa
  have HPL := Lib.hid hpl
  have HAT := Lib.hid hat
  have HM := Lib.hid hM
  have hsm : ∀ x ∈ l, x.size ≤ 1048576 := fun x hx => by have := (PN.pt_le o s).2 x (by rw [hl]; exact hx); omega
  have HSM := Lib.hid hsm
  have h8' : M ≤ 8 := by omega
  clear hb1 hz1 hf hpp hml h hpa hpl hat hpath h8 hok hM hq his hl hwk hn g hsm
  go_enter Tryz.func131, Tryz.ntmps131
  go_upto_region 1 with fail
  generalize hw2 : (w.alloc (.cells #[.slice A 9 c, .bool o] 97)).alloc (.cells #[.int .i64 0, .string { data := #[] }, .int .i64 0, .int .i64 0, .string { data := #[] }, .int .i64 0, .slice none 0 0] 153) = w2 at *
  generalize hgx : w.heap.size = g1 at *
  have HB2 := Lib.hid hb2
  have HX1 := Lib.hid hx1
  have HX2 := Lib.hid hx2
  have HT := Lib.hid h2
  have HML := Lib.hid hml2
  have HGX := Lib.hid hgx
  obtain ⟨c0, c1⟩ := hx1.work
  clear hb2 hx1 hx2 h2 hml2 hw2 hgx
  go_upto_region 6 with (first | (go_at_call 126; go_loud (refine (HPL.out U d _ hm4 ht4 hs4 hd).mono ?_; rintro e w5 ⟨rfl, hB5⟩)) | (go_at_call 62; go_loud (refine (HPA.out _ (HML.out.below hB3)).mono ?_; rintro e w4 ⟨v4, rfl, hO4, hB4⟩; obtain ⟨U, d, hv4, hd⟩ := own_cap hO4; rw [HM.out] at hv4 hd; subst hv4; have hU := own_from hO4; have hU3 := hB3.size; have hs4 := hO4.row HSM.out (by rw [HM.out]; omega); have hm4 := (HML.out.below hB3).below hB4; have ht4 := (HT.out.below hB3).below hB4; obtain ⟨c0, c1⟩ := (HX1.out.on (hB3.trans (hB4.mono hB3.size))).work)) | (go_at_call 16; go_loud (refine hfd.mono ?_; rintro e w3 ⟨rfl, hB3⟩; clear c0 c1; obtain ⟨c0, c1⟩ := (HX1.out.on hB3).work)))
  have hb24 := hB3.trans (hB4.mono hB3.size)
  have hb25 := hb24.trans (hB5.mono hb24.size)
  have hb26 := hb25.alloc hb25.size (.cells #[.int .i64 q1, .string q2] 144)
  have HX16 := Lib.hid (HX1.out.on hb26)
  have HX26 := Lib.hid (HX2.out.on hb26)
  have HT6 := Lib.hid (HT.out.below hb26)
  have HXP := Lib.hid (Bx.new w5 144 #[.int .i64 q1, .string q2])
  have HS6 := Lib.hid ((hs4.below hB5).below (al w5 (.cells #[.int .i64 q1, .string q2] 144)))
  have HB6 := Lib.hid (HB2.out.trans (hb26.mono (by omega)))
  have hz6 : g1 + 2 ≤ (w5.alloc (.cells #[.int .i64 q1, .string q2] 144)).heap.size := by have := hb26.size; omega
  generalize w5.heap.size = gp at *
  generalize w5.alloc (.cells #[.int .i64 q1, .string q2] 144) = w6 at *
  have hzz : g1 + 2 ≤ w2.heap.size := by omega
  clear c0 c1 hfd hB3 hB4 hB5 hb24 hb25 hb26 hO4 hs4 hm4 ht4 hz2
  refine wp_region_rel2 Tryz.checked.mixed (by kernel_rfl) (fun done W => (done 7 = false → Below w6.heap.size w6 W) ∧ (done 7 = true → ∃ W0, Below w6.heap.size w6 W0 ∧ W = put7 W0 (g1 + 1) (.int .i64 q1) (.string q2) (.int .i64 n.kind) (.int .i64 n.mode) (.string n.body) (.int .i64 ((k : Int) + 1)) (.slice U M d)))
    (fun i v _ => match i with
      | 0 => v = .agg #[.int .i64 q1, .string q2]
      | 1 => v = .agg #[.slice A 9 c, .bool o]
      | 2 => v = .int .i64 ((k : Int) + 1)
      | 3 => v = nodeV n
      | 4 => v = .int .i64 ((k : Int) + 1)
      | 5 => v = .slice U M d
      | 6 => v = .agg #[.int .i64 q1, .string q2, .int .i64 n.kind, .int .i64 n.mode, .string n.body, .int .i64 ((k : Int) + 1), .slice U M d]
      | 7 => v = undef
      | _ => v = .int .i64 0) ?start ?each ?fin
  case start => exact ⟨fun _ => (Below.refl _ _).drew, fun h => by cases h⟩
  case each =>
    intro i hi done a W hi0 hcl hcl2 hold hp hW K hK
    have hww : ∀ (i : Nat) (W' : World), i ≠ 7 → done 7 = false → Below W.heap.size W W' → ((done 7 || 7 == i) = false → Below w6.heap.size w6 W') ∧ ((done 7 || 7 == i) = true → ∃ W0, Below w6.heap.size w6 W0 ∧ W' = put7 W0 (g1 + 1) (.int .i64 q1) (.string q2) (.int .i64 n.kind) (.int .i64 n.mode) (.string n.body) (.int .i64 ((k : Int) + 1)) (.slice U M d)) := by
      intro i W' hne h7 hb
      have e7 : (7 == i) = false := by simp; omega
      rw [e7, Bool.or_false]
      exact ⟨fun h => (hW.1 h).trans (hb.mono (hW.1 h).size), fun h => by rw [h7] at h; cases h⟩
    have h7 : i ≤ 7 → done 7 = false := fun h => by
      cases h7 : done 7 with
      | false => rfl
      | true =>
        exfalso
        rcases i with _ | _ | _ | _ | _ | _ | _ | _ | i
        · have := hcl 7 _ rfl h7 ⟨0, .phase⟩ (by simp) rfl; rw [this] at hi0; cases hi0
        · have := hcl 7 _ rfl h7 ⟨1, .phase⟩ (by simp) rfl; rw [this] at hi0; cases hi0
        · have := hcl 7 _ rfl h7 ⟨2, .phase⟩ (by simp) rfl; rw [this] at hi0; cases hi0
        · have := hcl 7 _ rfl h7 ⟨3, .phase⟩ (by simp) rfl; rw [this] at hi0; cases hi0
        · have := hcl 7 _ rfl h7 ⟨4, .phase⟩ (by simp) rfl; rw [this] at hi0; cases hi0
        · have := hcl 7 _ rfl h7 ⟨5, .phase⟩ (by simp) rfl; rw [this] at hi0; cases hi0
        · have := hcl 7 _ rfl h7 ⟨6, .phase⟩ (by simp) rfl; rw [this] at hi0; cases hi0
        · rw [h7] at hi0; cases hi0
        · omega
    rcases i with _ | _ | _ | _ | _ | _ | _ | _ | i
    · have s0 := hold 10 rfl
      simp [predsOf, Region.binds, slotV] at hp
      refine wpOp_of rfl rfl ?_
      simp at s0
      obtain ⟨p0, p1⟩ := (HXP.out.on (hW.1 (h7 (by omega)))).place
      go_simp
      exact hK _ _ (by simp) (hww 0 _ (by omega) (h7 (by omega)) (Below.refl _ _)) (fun _ _ _ h => h) rfl
    · have s0 := hold 2 rfl
      simp [predsOf, Region.binds, slotV] at hp
      refine wpOp_of rfl rfl ?_
      simp at s0
      obtain ⟨c0, c1⟩ := (HX16.out.on (hW.1 (h7 (by omega)))).work
      go_simp
      exact hK _ _ (by simp) (hww 1 _ (by omega) (h7 (by omega)) (Below.refl _ _)) (fun _ _ _ h => h) rfl
    · have s0 := hold 6 rfl
      simp [predsOf, Region.binds, slotV] at hp
      refine wpOp_of rfl rfl ?_
      simp at s0
      go_simp
      exact hK _ _ (by simp) (hww 2 _ (by omega) (h7 (by omega)) (Below.refl _ _)) (fun _ _ _ h => h) rfl
    · simp [predsOf, Region.binds, slotV] at hp
      refine wpOp_of rfl rfl ?_
      go_simp
      refine (HAT.out W (HT6.out.below (hW.1 (h7 (by omega))))).mono ?_
      rintro e W2 ⟨rfl, hB⟩
      exact hK _ _ (by simp) (hww 3 _ (by omega) (h7 (by omega)) hB) (fun _ _ _ h => h) rfl
    · have s0 := hold 6 rfl
      simp [predsOf, Region.binds, slotV] at hp
      refine wpOp_of rfl rfl ?_
      simp at s0
      go_simp
      exact hK _ _ (by simp) (hww 4 _ (by omega) (h7 (by omega)) (Below.refl _ _)) (fun _ _ _ h => h) rfl
    · have s0 := hold 8 rfl
      simp [predsOf, Region.binds, slotV] at hp
      refine wpOp_of rfl rfl ?_
      simp at s0
      go_simp
      exact hK _ _ (by simp) (hww 5 _ (by omega) (h7 (by omega)) (Below.refl _ _)) (fun _ _ _ h => h) rfl
    · simp [predsOf, Region.binds, slotV] at hp
      (try simp only [nodeV] at hp)
      refine wpOp_of rfl rfl ?_
      go_simp
      exact hK _ _ (by simp) (hww 6 _ (by omega) (h7 (by omega)) (Below.refl _ _)) (fun _ _ _ h => h) rfl
    · have s0 := hold 4 rfl
      simp [predsOf, Region.binds, slotV] at hp
      refine wpOp_of rfl rfl ?_
      simp at s0
      have hx := HX26.out.on (hW.1 (h7 (by omega)))
      obtain ⟨⟨a0, a1, a2, a3, a4, a5, a6⟩, f0, f1, f2, f3, f4, f5, f6⟩ := hx.found
      go_simp
      exact hK _ _ (by simp) ⟨fun h => by simp at h, fun _ => ⟨W, hW.1 (h7 (by omega)), rfl⟩⟩ (fun _ _ _ h => h) rfl
    · have i0 : i = 0 := by simp at hi; omega
      subst i0
      have q7 : done 7 = true := by simpa using hcl2 8 _ rfl (by simp) ⟨7, .phase⟩ (by simp) rfl
      simp [predsOf, Region.binds, slotV] at hp
      refine wpOp_of rfl rfl ?_
      go_simp
      exact hK _ _ (by simp) ⟨fun h => by simp [q7] at h, fun _ => hW.2 q7⟩ (fun _ _ _ h => h) (by simp)
  case fin =>
    intro vs W done hRs hall hW
    obtain ⟨W0, hB0, rfl⟩ := hW.2 (hall 7 (by decide))
    have hx := HX26.out.on hB0
    have hs := HS6.out.below hB0
    have hb := HB6.out.trans (hB0.mono (by omega))
    have r0 := hRs 0 (by decide)
    have r1 := hRs 1 (by decide)
    have r2 := hRs 2 (by decide)
    have r3 := hRs 3 (by decide)
    have r4 := hRs 4 (by decide)
    have r5 := hRs 5 (by decide)
    have r6 := hRs 6 (by decide)
    have r8 := hRs 8 (by decide)
    simp at r0 r1 r2 r3 r4 r5 r6 r8
    simp only [putAll, List.foldl_cons, List.foldl_nil, Act.put, List.setIfInBounds_toArray, List.set_cons_succ, List.set_cons_zero, r0, r1, r2, r3, r4, r5, r6, r8]
    clear hRs r0 r1 r2 r3 r4 r5 r6 r8 hall hW
    have HE := Lib.hid (And.intro hx (And.intro hs hb))
    clear hx hs hb
    go_wp2
    (try simp only [Exit.inBlock, Exit.then])
    have hgx := HGX.out
    subst hgx
    have hsz : (w.heap.size + 1) < w6.heap.size := by omega
    have hss : Ss (put7 W0 (w.heap.size + 1) (.int .i64 q1) (.string q2) (.int .i64 n.kind) (.int .i64 n.mode) (.string n.body) (.int .i64 ((k : Int) + 1)) (.slice U M d)) (.slice U M d) l := by
      refine ⟨HE.out.2.1.1.heap (put7_below (Below.refl 0 W0) (Nat.zero_le _) _ _ _ _ _ _ _).size ?_, HE.out.2.1.2⟩
      intro ad n' c' e
      have e1 : U = some ad := by cases e; rfl
      have := hU ad e1
      exact put7_block _ _ _ (by omega) _ _ _ _ _ _ _
    have hbb := put7_below HE.out.2.2 (Nat.le_succ _) (.int .i64 q1) (.string q2) (.int .i64 n.kind) (.int .i64 n.mode) (.string n.body) (.int .i64 ((k : Int) + 1)) (.slice U M d)
    exact efind_out (W := W0) (gx := w.heap.size + 1) _ q1 ((k : Int) + 1) 0 q2 n U M d HE.out.1 rfl rfl ⟨U, M, d, rfl, HM.out, hd, hss, fun ad he => by have := hU ad he; omega, hbb⟩
end Go.Proofs.YtdnobplhfbgbaaaGreatDoor
