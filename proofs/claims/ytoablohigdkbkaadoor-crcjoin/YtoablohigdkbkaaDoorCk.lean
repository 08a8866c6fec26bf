/-
  The law CrcJoin: its walk.
-/
import Derived.Test.YtoablohigdkbkaaDoorCh
import Derived.Test.YtoablohigdkbkaaDoorRg
import Derived.RegionTactic
import Derived.ChangeAlike
namespace Go.Proofs.YtoablohigdkbkaaDoor
open Go.RowKit Go.Joins

/-- Block g is just the cells cs of type t, none of them frozen. -/
def Bx (w : World) (g : Nat) (t : TypeId) (cs : Array Value) : Prop := w.heap[g]? = some (.cells cs t (0, 0))
theorem Bx.lt {w : World} {g : Nat} {t : TypeId} {cs : Array Value} (h : Bx w g t cs) : g < w.heap.size := by
  unfold Bx at h
  rcases Nat.lt_or_ge g w.heap.size with hl | hl
  · exact hl
  · rw [Array.getElem?_eq_none hl] at h; cases h
theorem Bx.below {w w' : World} {g : Nat} {t : TypeId} {cs : Array Value} {B : Nat} (h : Bx w g t cs) (hb : Below B w w') (hg : g < B) : Bx w' g t cs := (hb.block g hg).trans h
theorem Bx.new (w : World) (t : TypeId) (cs : Array Value) : Bx (w.alloc (.cells cs t)) w.heap.size t cs := heap_alloc_new w _
theorem Bx.alloc {w : World} {g : Nat} {t : TypeId} {cs : Array Value} (h : Bx w g t cs) (o : Obj) : Bx (w.alloc o) g t cs := (Below.heap_alloc w o g h.lt).trans h
theorem Bx.set {w : World} {g : Nat} {t : TypeId} {cs : Array Value} (h : Bx w g t cs) (i : Nat) (u : Value) : Bx (w.setCell ⟨g, i, none⟩ u) g t (cs.setIfInBounds i u) := by
  unfold Bx at h ⊢
  simp [World.setCell, Array.getElem?_modify, h]
theorem Bx.far {w : World} {g : Nat} {t : TypeId} {cs : Array Value} (h : Bx w g t cs) {p : Addr} (hp : g ≠ p.block) (u : Value) : Bx (w.setCell p u) g t cs := (Below.heap_setCell w p u g hp).trans h
theorem Bx.cell {w : World} {g : Nat} {t : TypeId} {cs : Array Value} (h : Bx w g t cs) (i : Nat) : w.cell? ⟨g, i, none⟩ = cs[i]? := by
  unfold Bx at h
  simp [World.cell?, h]
theorem Bx.frozen {w : World} {g : Nat} {t : TypeId} {cs : Array Value} (h : Bx w g t cs) (i : Nat) : w.frozen? ⟨g, i, none⟩ = false := by
  unfold Bx at h
  simp [World.frozen?, h]

/-- The first k bytes of the three, joined; noughts behind. -/
def jn (la lb lc : List Nat) (k : Nat) : List Nat := (List.range 20).map fun i => if i < k then la.getD i 0 ^^^ lb.getD i 0 ^^^ lc.getD i 0 else 0
theorem jn_length (la lb lc : List Nat) (k : Nat) : (jn la lb lc k).length = 20 := by simp [jn]
theorem jn_set (la lb lc : List Nat) (k : Nat) (hk : k < 20) : (((jn la lb lc k).map bv).toArray).setIfInBounds k (.int .u8 ((la.getD k 0 ^^^ lb.getD k 0 ^^^ lc.getD k 0 : Nat) : Int)) = ((jn la lb lc (k + 1)).map bv).toArray := by
  apply Array.ext'
  rw [Array.toList_setIfInBounds]
  apply List.ext_getElem?
  intro j
  simp only [List.getElem?_set]
  by_cases hkj : k = j
  · subst hkj
    simp [jn, hk, bv]
  · rw [if_neg hkj]
    by_cases hj : j < 20
    · by_cases h1 : j < k
      · have h2 : j < k + 1 := by omega
        simp [jn, hj, h1, h2]
      · have h2 : ¬ j < k + 1 := by omega
        simp [jn, hj, h1, h2]
    · simp [jn, hj]
theorem jn_zip (la lb lc : List Nat) (na : la.length = 20) (nb : lb.length = 20) (nc : lc.length = 20) : jn la lb lc 20 = List.zipWith (· ^^^ ·) (List.zipWith (· ^^^ ·) la lb) lc := by
  apply List.ext_getElem?
  intro j
  by_cases hj : j < 20
  · have h1 : j < la.length := by omega
    have h2 : j < lb.length := by omega
    have h3 : j < lc.length := by omega
    simp [jn, hj, h1, h2, h3, List.getElem?_zipWith]
  · have h1 : la[j]? = none := List.getElem?_eq_none (by omega)
    simp [jn, hj, List.getElem?_zipWith, h1]
theorem jn_lt (la lb lc : List Nat) (ba : ∀ b ∈ la, b < 256) (bb : ∀ b ∈ lb, b < 256) (bc : ∀ b ∈ lc, b < 256) (k : Nat) : ∀ b ∈ jn la lb lc k, b < 256 := by
  have get : ∀ (l : List Nat) (i : Nat), (∀ b ∈ l, b < 256) → l.getD i 0 < 256 := by
    intro l i h
    rw [List.getD_eq_getElem?_getD]
    cases hx : l[i]? with
    | none => decide
    | some x => exact h x (List.mem_of_getElem? hx)
  intro b hb
  obtain ⟨i, _, rfl⟩ := List.mem_map.1 hb
  split
  · exact Nat.xor_lt_two_pow (n := 8) (Nat.xor_lt_two_pow (n := 8) (get la i ba) (get lb i bb)) (get lc i bc)
  · decide
theorem cell_of {w : World} {g : Nat} {l : List Nat} (h : Bx w g 32 (l.map bv).toArray) (k : Nat) (hk : k < l.length) : w.cell? ⟨g, k, none⟩ = some (.int .u8 ((l.getD k 0 : Nat) : Int)) := by
  rw [h.cell k]
  simp [hk, bv]
theorem get_lt (l : List Nat) (i : Nat) (h : ∀ b ∈ l, b < 256) : l.getD i 0 < 256 := by
  rw [List.getD_eq_getElem?_getD]
  cases hx : l[i]? with
  | none => decide
  | some x => exact h x (List.mem_of_getElem? hx)
theorem Tx.box {w : World} {g : Nat} {l : List Nat} (h : Bx w g 32 (l.map bv).toArray) (hl : l.length = 20) (hb : ∀ b ∈ l, b < 256) : Tx w (.slice (some ⟨g, 0, none⟩) 20 20) l := by
  refine ⟨⟨_, _, by rw [hl], by simp, fun _ => ⟨g, 0, rfl, h.lt, fun j _ => ?_⟩⟩, hb, by omega⟩
  rw [Nat.zero_add, h.cell j]
  simp

set_option maxHeartbeats 4000000 in
theorem join_any (la lb lc : List Nat) (na : la.length = 20) (nb : lb.length = 20) (nc : lc.length = 20) (ba : ∀ b ∈ la, b < 256) (bb : ∀ b ∈ lb, b < 256) (bc : ∀ b ∈ lc, b < 256) (w : World) (hT : Tab w) :
    Calls Tryd.prog 5 #[.agg (la.map bv).toArray, .agg (lb.map bv).toArray, .agg (lc.map bv).toArray] w fun e w' => e = .returned (.bool true) ∧ Below w.heap.size w w' := by
  generalize hca : (la.map bv).toArray = ca
  generalize hcb : (lb.map bv).toArray = cb
  generalize hcc : (lc.map bv).toArray = cc
  have sa : ca.size = 20 := by rw [← hca]; simpa using na
  have sb : cb.size = 20 := by rw [← hcb]; simpa using nb
  have sc : cc.size = 20 := by rw [← hcc]; simpa using nc
  go_enter Tryd.func5, Tryd.ntmps5
  go_wp2_with fail
  refine (begun_any _ (((hT.alloc _).alloc _).alloc _)).mono ?_
  rintro e w1 ⟨rfl, hb1⟩
  have Xa := ((((Bx.new w 32 ca).alloc (.cells cb 32)).alloc (.cells cc 32))).below hb1 (by simp; omega)
  have Xb := (((Bx.new (w.alloc (.cells ca 32)) 32 cb).alloc (.cells cc 32))).below hb1 (by simp)
  have Xc := (Bx.new ((w.alloc (.cells ca 32)).alloc (.cells cb 32)) 32 cc).below hb1 (by simp)
  have hT1 := (((hT.alloc (.cells ca 32)).alloc (.cells cb 32)).alloc (.cells cc 32)).below hb1
  have hbw : Below w.heap.size w w1 := ((((Below.refl _ w).alloc (Nat.le_refl _) (.cells ca 32)).alloc (by simp) (.cells cb 32)).alloc (by simp; omega) (.cells cc 32)).trans (hb1.mono (by simp; omega))
  simp only [World.size_alloc] at Xb Xc
  have zw := hbw.size
  clear hb1
  have la1 := Xa.lt
  have lb1 := Xb.lt
  have lc1 := Xc.lt
  generalize hga : w.heap.size = ga at Xa Xb Xc la1 lb1 lc1 zw hbw ⊢
  go_wp2_with fail
  have X0 := Bx.new w1 32 ((jn la lb lc 0).map bv).toArray
  have Xa1 := Xa.alloc (.cells ((jn la lb lc 0).map bv).toArray 32)
  have Xb1 := Xb.alloc (.cells ((jn la lb lc 0).map bv).toArray 32)
  have Xc1 := Xc.alloc (.cells ((jn la lb lc 0).map bv).toArray 32)
  have hb2 := hbw.alloc zw (.cells ((jn la lb lc 0).map bv).toArray 32)
  have hz : ((jn la lb lc 0).map bv).toArray = #[Value.int .u8 0, .int .u8 0, .int .u8 0, .int .u8 0, .int .u8 0, .int .u8 0, .int .u8 0, .int .u8 0, .int .u8 0, .int .u8 0, .int .u8 0, .int .u8 0, .int .u8 0, .int .u8 0, .int .u8 0, .int .u8 0, .int .u8 0, .int .u8 0, .int .u8 0, .int .u8 0] := rfl
  rw [← hz]
  clear hz
  generalize w1.alloc (.cells ((jn la lb lc 0).map bv).toArray 32) = w2 at *
  have hlt2 : ga + 1 + 1 < w1.heap.size := lc1
  generalize w1.heap.size = gd at X0 hlt2 ⊢
  clear Xa Xb Xc la1 lb1 lc1 zw hbw hT1
  subst hca hcb hcc
  clear sa sb sc
  go_loopw [8] (fun i wr => ∃ k : Nat, k ≤ 20 ∧ i = .int .i64 k ∧ Bx wr gd 32 ((jn la lb lc k).map bv).toArray ∧ Bx wr ga 32 (la.map bv).toArray ∧ Bx wr (ga + 1) 32 (lb.map bv).toArray ∧ Bx wr (ga + 1 + 1) 32 (lc.map bv).toArray ∧ Below ga w wr) (fun i _ => 20 - (intOf i).toNat)
  case atStart => exact ⟨0, Nat.zero_le _, rfl, X0, Xa1, Xb1, Xc1, hb2⟩
  case round =>
    clear X0 Xa1 Xb1 Xc1 hb2
    obtain ⟨k, hk, rfl, X0, Xa1, Xb1, Xc1, hb2⟩ := hrel
    by_cases hlt : k < 20
    · have hca := cell_of Xa1 k (by omega)
      have hcb := cell_of Xb1 k (by omega)
      have hcc := cell_of Xc1 k (by omega)
      have hcd := cell_of X0 k (by rw [jn_length]; omega)
      have hfd := X0.frozen k
      have hset := jn_set la lb lc k hlt
      have ga1 := get_lt la k ba
      have gb1 := get_lt lb k bb
      have gc1 := get_lt lc k bc
      generalize la.getD k 0 = x at hca hset ga1
      generalize lb.getD k 0 = y at hcb hset gb1
      generalize lc.getD k 0 = z at hcc hset gc1
      generalize (jn la lb lc k).getD k 0 = u at hcd
      have hx1 := u8_xor_nat x y ga1 gb1
      have hx2 := u8_xor_nat (x ^^^ y) z (Nat.xor_lt_two_pow (n := 8) ga1 gb1) gc1
      have Y0 := X0.set k (.int .u8 ((x ^^^ y ^^^ z : Nat) : Int))
      rw [hset] at Y0
      have Ya := Xa1.far (p := ⟨gd, k, none⟩) (by simp; omega) (.int .u8 ((x ^^^ y ^^^ z : Nat) : Int))
      have Yb := Xb1.far (p := ⟨gd, k, none⟩) (by simp; omega) (.int .u8 ((x ^^^ y ^^^ z : Nat) : Int))
      have Yc := Xc1.far (p := ⟨gd, k, none⟩) (by simp; omega) (.int .u8 ((x ^^^ y ^^^ z : Nat) : Int))
      have hb3 := hb2.setCell (p := ⟨gd, k, none⟩) (by simp; omega) (.int .u8 ((x ^^^ y ^^^ z : Nat) : Int))
      clear X0 Xa1 Xb1 Xc1 hb2 hset
      go_wp2
      go_region
      all_goals go_wp2
      all_goals go_roundw
      case rel => exact ⟨k + 1, by omega, by go_num, Y0, Ya, Yb, Yc, hb3.drew⟩
      case measure => simp [intOf]; omega
    · have hk20 : k = 20 := by omega
      subst hk20
      have xd := Tx.box X0 (jn_length _ _ _ _) (jn_lt la lb lc ba bb bc 20)
      have xa := Tx.box Xa1 na ba
      have xb := Tx.box Xb1 nb bb
      have xc := Tx.box Xc1 nc bc
      have hT2 : Tab wr := hT.below (by rw [hga]; exact hb2)
      have hsum : PlainCrc.sum (jn la lb lc 20) = PlainCrc.sum la ^^^ PlainCrc.sum lb ^^^ PlainCrc.sum lc := by
        rw [jn_zip la lb lc na nb nc]
        exact PlainCrc.sum_join la lb lc (by omega) (by omega) ba bb bc
      have la4 : PlainCrc.sum la < 4294967296 := by unfold PlainCrc.sum; omega
      have lb4 : PlainCrc.sum lb < 4294967296 := by unfold PlainCrc.sum; omega
      have lc4 : PlainCrc.sum lc < 4294967296 := by unfold PlainCrc.sum; omega
      generalize jn la lb lc 20 = ld at xd hsum
      clear X0 Xa1 Xb1 Xc1 hk hlt
      go_wp2
      refine wp_region_grow Tryd.checked.mixed (by kernel_rfl) (fun W => Tab W ∧ Tx W (.slice (some ⟨gd, 0, none⟩) 20 20) ld ∧ Tx W (.slice (some ⟨ga, 0, none⟩) 20 20) la ∧ Tx W (.slice (some ⟨ga + 1, 0, none⟩) 20 20) lb ∧ Tx W (.slice (some ⟨ga + 1 + 1, 0, none⟩) 20 20) lc ∧ Below ga w W)
        (fun i v W => match i with
          | 0 => v = .slice (some ⟨gd, 0, none⟩) 20 20
          | 1 => Ls W v [ld]
          | 2 => v = .int .u32 ((PlainCrc.sum ld : Nat) : Int)
          | 3 => v = .slice (some ⟨ga, 0, none⟩) 20 20
          | 4 => Ls W v [la]
          | 5 => v = .int .u32 ((PlainCrc.sum la : Nat) : Int)
          | 6 => v = .slice (some ⟨ga + 1, 0, none⟩) 20 20
          | 7 => Ls W v [lb]
          | 8 => v = .int .u32 ((PlainCrc.sum lb : Nat) : Int)
          | 9 => v = .int .u32 ((PlainCrc.sum la ^^^ PlainCrc.sum lb : Nat) : Int)
          | 10 => v = .slice (some ⟨ga + 1 + 1, 0, none⟩) 20 20
          | 11 => Ls W v [lc]
          | 12 => v = .int .u32 ((PlainCrc.sum lc : Nat) : Int)
          | 13 => v = .int .u32 ((PlainCrc.sum ld : Nat) : Int)
          | 14 => v = .bool true
          | _ => v = .bool true) ?hS ?hR ?start ?each ?fin
      case hS =>
        rintro W W' ⟨h1, h2, h3, h4, h5, h6⟩ hb
        exact ⟨h1.below hb, h2.below hb, h3.below hb, h4.below hb, h5.below hb, h6.trans (hb.mono (by have := h6.size; omega))⟩
      case hR =>
        intro j v W W' h hb
        rcases j with _ | _ | _ | _ | _ | _ | _ | _ | _ | _ | _ | _ | _ | _ | _ | j <;> first | exact h | exact Ls.below h hb
      case start => exact ⟨hT2, xd, xa, xb, xc, hb2.drew⟩
      case each =>
        intro i hi a W hold hp ⟨h1, h2, h3, h4, h5, h6⟩ K hK
        rcases i with _ | _ | _ | _ | _ | _ | _ | _ | _ | _ | _ | _ | _ | _ | _ | i
        · have s := hold 7 rfl
          refine wpOp_of rfl rfl ?_
          simp at s
          go_simp
          exact hK _ _ (by simp) (Below.refl _ _) rfl
        · simp [predsOf, Region.binds, slotV] at hp
          refine wpOp_of rfl rfl ?_
          go_simp
          exact hK _ _ (by simp) (al _ _) (Ls.new1 rfl h2)
        · simp [predsOf, Region.binds, slotV] at hp
          refine wpOp_of rfl rfl ?_
          go_simp
          refine (sum_any _ _ _ h1 hp).mono ?_
          rintro e W' ⟨rfl, rfl⟩
          exact hK _ _ (by simp) (Below.refl _ _) (by simp)
        · have s := hold 3 rfl
          refine wpOp_of rfl rfl ?_
          simp at s
          go_simp
          exact hK _ _ (by simp) (Below.refl _ _) rfl
        · simp [predsOf, Region.binds, slotV] at hp
          refine wpOp_of rfl rfl ?_
          go_simp
          exact hK _ _ (by simp) (al _ _) (Ls.new1 rfl h3)
        · simp [predsOf, Region.binds, slotV] at hp
          refine wpOp_of rfl rfl ?_
          go_simp
          refine (sum_any _ _ _ h1 hp.1).mono ?_
          rintro e W' ⟨rfl, rfl⟩
          exact hK _ _ (by simp) (Below.refl _ _) (by simp)
        · have s := hold 4 rfl
          refine wpOp_of rfl rfl ?_
          simp at s
          go_simp
          exact hK _ _ (by simp) (Below.refl _ _) rfl
        · simp [predsOf, Region.binds, slotV] at hp
          refine wpOp_of rfl rfl ?_
          go_simp
          exact hK _ _ (by simp) (al _ _) (Ls.new1 rfl h4)
        · simp [predsOf, Region.binds, slotV] at hp
          refine wpOp_of rfl rfl ?_
          go_simp
          refine (sum_any _ _ _ h1 hp.1).mono ?_
          rintro e W' ⟨rfl, rfl⟩
          exact hK _ _ (by simp) (Below.refl _ _) (by simp)
        · simp [predsOf, Region.binds, slotV] at hp
          have hx := u32_xor_nat _ _ la4 lb4
          refine wpOp_of rfl rfl ?_
          go_simp
          exact hK _ _ (by simp) (Below.refl _ _) rfl
        · have s := hold 5 rfl
          refine wpOp_of rfl rfl ?_
          simp at s
          go_simp
          exact hK _ _ (by simp) (Below.refl _ _) rfl
        · simp [predsOf, Region.binds, slotV] at hp
          refine wpOp_of rfl rfl ?_
          go_simp
          exact hK _ _ (by simp) (al _ _) (Ls.new1 rfl h5)
        · simp [predsOf, Region.binds, slotV] at hp
          refine wpOp_of rfl rfl ?_
          go_simp
          refine (sum_any _ _ _ h1 hp.1).mono ?_
          rintro e W' ⟨rfl, rfl⟩
          exact hK _ _ (by simp) (Below.refl _ _) (by simp)
        · simp [predsOf, Region.binds, slotV] at hp
          have hx := u32_xor_nat _ _ (Nat.xor_lt_two_pow (n := 32) la4 lb4) lc4
          refine wpOp_of rfl rfl ?_
          go_simp
          exact hK _ _ (by simp) (Below.refl _ _) (by show Value.int .u32 _ = Value.int .u32 _; rw [hsum])
        · simp [predsOf, Region.binds, slotV] at hp
          refine wpOp_of rfl rfl ?_
          go_simp
          exact hK _ _ (by simp) (Below.refl _ _) (by simp)
        · have i0 : i = 0 := by simp at hi; omega
          subst i0
          simp [predsOf, Region.binds, slotV] at hp
          refine wpOp_of rfl rfl ?_
          go_simp
          exact hK _ _ (by simp) (Below.refl _ _) rfl
      case fin =>
        intro vs W hRs ⟨_, _, _, _, _, h6⟩
        have hr := hRs 15 (by decide)
        simp at hr
        simp only [putAll, List.foldl_cons, List.foldl_nil, Act.put, List.setIfInBounds_toArray, List.set_cons_succ, List.set_cons_zero, hr]
        go_wp2
        go_ret
        exact ⟨rfl, by rw [hga]; exact h6⟩
end Go.Proofs.YtoablohigdkbkaaDoor
