/-
  Contracts: edit's taken, take, put.
-/
import Derived.Test.YtdnobplhfbgbaaaGreatDoorXd
import Derived.Test.YtdnobplhfbgbaaaGreatDoorXa
import Derived.Test.YtdnobplhfbgbaaaGreatDoorMXb
import Derived.Test.YtdnobplhfbgbaaaGreatDoorNl
namespace Go.Proofs.YtdnobplhfbgbaaaGreatDoor
open Go.RowKit Go.Joins

/-- A row of entries with its room. -/
def Ec (w : World) (v : Value) (l : List E) : Prop := Es w v l ∧ ∀ A n c, v = .slice A n c → n ≤ c
theorem Ec.below {w w' : World} {v : Value} {l : List E} (h : Ec w v l) (hb : Below w.heap.size w w') : Ec w' v l := ⟨h.1.below hb, h.2⟩
theorem Eo.ec {w : World} {base : Nat} {v : Value} {l : List E} (h : Eo w base v l) (hz : Fit l) : Ec w v l := ⟨h.row hz, fun A n c e => by obtain ⟨A', c', hv, hc⟩ := own_cap h; rw [hv] at e; cases e; exact hc⟩
theorem Bx.place {w : World} {g : Nat} {a : Int} {s : ByteArray} (h : Bx w g 144 #[.int .i64 a, .string s]) : w.cell? ⟨g, 0, none⟩ = some (.int .i64 a) ∧ w.cell? ⟨g, 1, none⟩ = some (.string s) := ⟨h.cell 0, h.cell 1⟩
theorem ns_body (l : List PT.N) (k : Nat) (n : PT.N) (b : ByteArray) (h : l[k]? = some n) : (ns l).set (k * 3 + 2) (.string b) = ns (l.set k ⟨n.kind, n.mode, b⟩) := by
  have hlt := (List.getElem?_eq_some_iff.1 h).1
  rw [← ns_set l k ⟨n.kind, n.mode, b⟩ hlt]
  obtain ⟨h0, h1, _⟩ := ns_at l k n h
  have e0 : (ns l).set (k * 3) (.int .i64 n.kind) = ns l := by
    obtain ⟨h2, h3⟩ := List.getElem?_eq_some_iff.1 h0
    rw [← h3]; exact List.set_getElem_self h2
  have e1 : (ns l).set (k * 3 + 1) (.int .i64 n.mode) = ns l := by
    obtain ⟨h2, h3⟩ := List.getElem?_eq_some_iff.1 h1
    rw [← h3]; exact List.set_getElem_self h2
  rw [e0, e1]
/-- The body of a node of a row of one's own is another one. -/
theorem To.body {nt : TypeId} {w : World} {base n g c : Nat} {l : List PT.N} (h : To nt w base (.slice (some ⟨g, 0, none⟩) n c) l) {k : Nat} (hn : l.length = n) {x : PT.N} (hk : l[k]? = some x) (b : ByteArray) :
    To nt (w.setCell ⟨g, k * 3 + 2, none⟩ (.string b)) base (.slice (some ⟨g, 0, none⟩) n c) (l.set k ⟨x.kind, x.mode, b⟩) := by
  subst hn
  have h1 := own_set h (k * 3 + 2) (.string b)
  rw [ns_body l k x b hk] at h1
  unfold To
  rw [List.length_set]
  exact h1
theorem To.box {nt : TypeId} {w : World} {base n g c : Nat} {l : List PT.N} (h : To nt w base (.slice (some ⟨g, 0, none⟩) n c) l) (hn : 0 < n) : ∃ cur, Bx w g nt cur ∧ base ≤ g ∧ cur.size = c * 3 ∧ n ≤ c := by
  rcases h.2 with ⟨h1, _⟩ | ⟨g', cap, cur, hv, hg, hh, hn', hm, hs, ht⟩
  · cases h1
  · injection hv with e1 e2 e3
    injection e1 with e1
    injection e1 with e1
    subst e1 e2 e3
    exact ⟨cur, hh, hg, hs, hn'⟩
/-- Nothing but block g has turned. -/
def Nw (g : Nat) (w w' : World) : Prop := Nx g w w' ∧ (w'.os = w.os ∧ w'.tape = w.tape ∧ w'.output = w.output)
theorem Nw.trans {g : Nat} {a b c : World} (h : Nw g a b) (k : Nw g b c) : Nw g a c := ⟨h.1.trans k.1, k.2.1.trans h.2.1, k.2.2.1.trans h.2.2.1, k.2.2.2.trans h.2.2.2⟩
theorem Nw.of {g : Nat} {a b : World} (h : Below a.heap.size a b) : Nw g a b := ⟨Nx.of h, h.os, h.tape, h.output⟩
theorem Nw.cell {w : World} {g i : Nat} {u : Value} : Nw g w (w.setCell ⟨g, i, none⟩ u) := ⟨⟨by simp, fun k _ hne => by simp [World.setCell, Array.getElem?_modify]; intro h; exact absurd h.symm hne⟩, rfl, rfl, rfl⟩
theorem Nw.below {B g : Nat} {w a b : World} (h : Below B w a) (k : Nw g a b) (hg : B ≤ g) (hB : B ≤ a.heap.size) : Below B w b :=
  h.trans ⟨k.2.1, k.2.2.1, k.2.2.2, k.1.1, fun j hj => k.1.2 j (by omega) (by omega)⟩
theorem Bx.nw {w w' : World} {g k : Nat} {t : TypeId} {cs : Array Value} (h : Bx w k t cs) (hn : Nw g w w') (hk : k ≠ g) : Bx w' k t cs := h.nx hn.1 hk
theorem PT.tl_ents {n : PT.N} (h : n.kind = 2) : PD.tl n.body = PT.ents n := by rw [PT.ents, if_pos h]

set_option maxRecDepth 100000 in
set_option maxHeartbeats 4000000 in
theorem etaken_any (A : Option Addr) (c : Nat) (t : List PT.N) (o : Bool) (k : Nat) (n : PT.N) (x : ByteArray) (w : World) (h : Ts w (.slice A 9 c) t) (h9 : t.length = 9) (hn : t[k]? = some n) (hk2 : n.kind = 2) :
    Calls Tryz.prog 127 #[.agg #[.slice A 9 c, .bool o], .agg #[.int .i64 ((k : Int) + 1), .string x]] w fun e w' => e = .returned (.bool (PD.has (PT.ents n) x)) ∧ Below w.heap.size w w' := by
  have hb1 := al w (.cells #[.slice A 9 c, .bool o] 97)
  have hx1 := Bx.new w 97 #[.slice A 9 c, .bool o]
  have hz1 : (w.alloc (.cells #[.slice A 9 c, .bool o] 97)).heap.size = w.heap.size + 1 := by simp
  have hb2 := hb1.alloc hb1.size (.cells #[.int .i64 ((k : Int) + 1), .string x] 144)
  have hx2 := Bx.new (w.alloc (.cells #[.slice A 9 c, .bool o] 97)) 144 #[.int .i64 ((k : Int) + 1), .string x]
  have hx1 := hx1.alloc (.cells #[.int .i64 ((k : Int) + 1), .string x] 144)
  rw [hz1] at hx2
  have hw2s : ((w.alloc (.cells #[.slice A 9 c, .bool o] 97)).alloc (.cells #[.int .i64 ((k : Int) + 1), .string x] 144)).heap.size = w.heap.size + 2 := by simp
  have hk9 : k < 9 := by have := (List.getElem?_eq_some_iff.1 hn).1; omega
  have hmm := PT.tl_ents hk2
  have hsrt := PT.ents_srt n
  have hfitm := PT.ents_fit n
  obtain ⟨hA, hF⟩ := PD.find_same x hsrt
  have hat := fun W (hW : Below w.heap.size w W) => eat_any A c t o k n W (h.below hW) h9 hn
  have hnm := fun W => enames_any n W
  rw [hmm] at hnm
  generalize PT.ents n = m at *
  have hfd := fun v W (h : Es W v m) => find_any v m x W h
  rw [hA, hF] at hfd
  obtain ⟨f, hf⟩ : ∃ f, PD.rfind m x = f := ⟨_, rfl⟩
  obtain ⟨b, hb⟩ : ∃ b, PD.has m x = b := ⟨_, rfl⟩
  rw [hf, hb] at hfd
  rw [hb]
  have HNM := Lib.hid hnm
  have HFD := Lib.hid hfd
  clear hnm hfd hA hF hf hb hmm hsrt hfitm h hb1 hz1 hn hk2
  go_enter Tryz.func127, Tryz.ntmps127
  go_upto_region 1 with fail
  generalize hw2 : (w.alloc (.cells #[.slice A 9 c, .bool o] 97)).alloc (.cells #[.int .i64 ((k : Int) + 1), .string x] 144) = w2 at *
  generalize hgx : w.heap.size = g1 at *
  have HW := Lib.hid (fun W (hW : Below w2.heap.size w2 W) => (hx1.on hW).work)
  have HPB := Lib.hid (fun W (hW : Below w2.heap.size w2 W) => (hx2.on hW).place)
  have HB2 := Lib.hid hb2
  have HX1 := Lib.hid hx1
  have HX2 := Lib.hid hx2
  have HGX := Lib.hid hgx
  have hz2 := hw2s
  have HAT := Lib.hid (fun W (hW : Below w2.heap.size w2 W) => hat W (hb2.trans (hW.mono (by omega))))
  clear hat hb2 hx1 hx2 hw2 hgx hw2s
  refine wp_region_grow Tryz.checked.mixed (by kernel_rfl) (fun W => Below w2.heap.size w2 W)
    (fun i v W => match i with
      | 0 => v = .agg #[.slice A 9 c, .bool o]
      | 1 => v = .pointer (some ⟨g1 + 1, 0, none⟩)
      | 2 => v = .int .i64 ((k : Int) + 1)
      | 3 => v = nodeV n
      | 4 => Ec W v m
      | 5 => v = .pointer (some ⟨g1 + 1, 1, none⟩)
      | 6 => v = .string x
      | 7 => v = .tuple #[.int .i64 f, .bool b]
      | 8 => v = .tuple #[.int .i64 f, .bool b]
      | 9 => v = .int .i64 f
      | 10 => v = .bool b
      | 11 => v = .int .i64 f
      | _ => v = .bool b) ?hS ?hR ?start ?each ?fin
  case hS =>
    intro W W' h hb
    exact h.trans (hb.mono h.size)
  case hR =>
    intro j v W W' h hb
    rcases j with _ | _ | _ | _ | _ | _ | _ | _ | _ | _ | _ | _ | j <;> first | exact h | exact Es.below h hb | exact Ss.below h hb | exact Ec.below h hb
  case start => exact (Below.refl _ _).drew
  case each =>
    intro i hi a W hold hp h6 K hK
    rcases i with _ | _ | _ | _ | _ | _ | _ | _ | _ | _ | _ | _ | i
    · skip
      have s2 := hold 2 rfl
      simp [predsOf, Region.binds, slotV] at hp
      refine wpOp_of rfl rfl ?_
      simp at s2
      obtain ⟨e1, e2⟩ := HW.out W h6
      go_simp
      exact hK _ _ (by simp) (Below.refl _ _) rfl
    · skip
      have s3 := hold 3 rfl
      simp [predsOf, Region.binds, slotV] at hp
      refine wpOp_of rfl rfl ?_
      simp at s3
      go_simp
      exact hK _ _ (by simp) (Below.refl _ _) rfl
    · skip
      simp [predsOf, Region.binds, slotV] at hp
      refine wpOp_of rfl rfl ?_
      have e1 := (HPB.out W h6).1
      go_simp
      exact hK _ _ (by simp) (Below.refl _ _) rfl
    · skip
      simp [predsOf, Region.binds, slotV] at hp
      refine wpOp_of rfl rfl ?_
      go_simp
      refine (HAT.out W h6).mono ?_
      rintro e W2 ⟨rfl, hB⟩
      exact hK _ _ (by simp) hB rfl
    · skip
      simp [predsOf, Region.binds, slotV] at hp
      refine wpOp_of rfl rfl ?_
      go_simp
      refine (HNM.out W).mono ?_
      rintro e W2 ⟨v2, rfl, hO, hF, hB'⟩
      exact hK _ _ (by simp) hB' (hO.ec hF)
    · skip
      have s3 := hold 3 rfl
      simp [predsOf, Region.binds, slotV] at hp
      refine wpOp_of rfl rfl ?_
      simp at s3
      go_simp
      exact hK _ _ (by simp) (Below.refl _ _) rfl
    · skip
      simp [predsOf, Region.binds, slotV] at hp
      refine wpOp_of rfl rfl ?_
      have e1 := (HPB.out W h6).2
      go_simp
      exact hK _ _ (by simp) (Below.refl _ _) rfl
    · skip
      simp [predsOf, Region.binds, slotV] at hp
      refine wpOp_of rfl rfl ?_
      go_simp
      refine (HFD.out _ W hp.1.1).mono ?_
      rintro e W2 ⟨rfl, hB⟩
      exact hK _ _ (by simp) hB rfl
    · skip
      simp [predsOf, Region.binds, slotV] at hp
      refine wpOp_of rfl rfl ?_
      go_simp
      exact hK _ _ (by simp) (Below.refl _ _) (by simp)
    · skip
      simp [predsOf, Region.binds, slotV] at hp
      refine wpOp_of rfl rfl ?_
      go_simp
      exact hK _ _ (by simp) (Below.refl _ _) (by simp)
    · skip
      simp [predsOf, Region.binds, slotV] at hp
      refine wpOp_of rfl rfl ?_
      go_simp
      exact hK _ _ (by simp) (Below.refl _ _) (by simp)
    · skip
      simp [predsOf, Region.binds, slotV] at hp
      refine wpOp_of rfl rfl ?_
      go_simp
      exact hK _ _ (by simp) (Below.refl _ _) (by simp)
    · have i0 : i = 0 := by simp at hi; omega
      subst i0
      simp [predsOf, Region.binds, slotV] at hp
      refine wpOp_of rfl rfl ?_
      go_simp
      exact hK _ _ (by simp) (Below.refl _ _) (by simp)
  case fin =>
    intro vs W hRs h6
    have r0 := hRs 0 (by decide)
    have r1 := hRs 1 (by decide)
    have r2 := hRs 2 (by decide)
    have r3 := hRs 3 (by decide)
    have r5 := hRs 5 (by decide)
    have r6 := hRs 6 (by decide)
    have r7 := hRs 7 (by decide)
    have r8 := hRs 8 (by decide)
    have r9 := hRs 9 (by decide)
    have r10 := hRs 10 (by decide)
    have r11 := hRs 11 (by decide)
    have r12 := hRs 12 (by decide)
    simp at r0 r1 r2 r3 r5 r6 r7 r8 r9 r10 r11 r12
    simp only [putAll, List.foldl_cons, List.foldl_nil, Act.put, List.setIfInBounds_toArray, List.set_cons_succ, List.set_cons_zero, r0, r1, r2, r3, r5, r6, r7, r8, r9, r10, r11, r12]
    have hb6 := HB2.out.trans (h6.mono (by omega))
    clear hRs r0 r1 r2 r3 r5 r6 r7 r8 r9 r10 r11 r12
    go_wp2
    go_ret
    have hgx := HGX.out
    subst hgx
    exact ⟨rfl, hb6⟩
end Go.Proofs.YtdnobplhfbgbaaaGreatDoor
