/-
  Plain: in a tree that may be going up ends, and gives as many ways as there are links.
  slices.Sort at strings, laid by the shelf's program.
  Contracts: slices.Sort at a row of one's own; tree's Ways.
  Contract: the law's begun.
-/
import Derived.Test.YtniegpdllijjfaaGreatDoorVd
import Derived.Ground.SlgmProg
import Derived.Shelf.SortM.Plain
import Derived.Shelf.SortM.SortNone
import Derived.Test.YtniegpdllijjfaaGreatDoorSh
import Derived.Sort.OwnSorted
namespace Go.Proofs.YtniegpdllijjfaaGreatDoor
open Go.RowKit Go.Joins

namespace PT
theorem reach_has {t : List N} {k : Nat} (h : Reach t k) : ∃ l, Way t l k := by
  induction h with
  | root => exact ⟨[], .root⟩
  | step _ he ih =>
    obtain ⟨l, hl⟩ := ih
    exact ⟨l ++ [_], .step hl he⟩
theorem from_folder {t : List N} (g : Fine t) {i : Nat} {e : E} (he : e ∈ names t i) : ∃ n, t[i]? = some n ∧ n.kind = 2 ∧ Reach t i := by
  obtain ⟨n, hn⟩ : ∃ n, t[i]? = some n := ⟨_, List.getElem?_eq_getElem (mem_lt he)⟩
  have hk : n.kind = 2 := by
    rw [names_at hn] at he
    rcases Classical.em (n.kind = 2) with h | h
    · exact h
    · rw [ents_none h] at he
      cases he
  exact ⟨n, hn, hk, g.reach i n hn (by omega)⟩
theorem deep_way {t : List N} (g : Fine t) : ∀ (d k : Nat), (∃ l, Way t l k) → (∀ l, Way t l k → l.length < d) → Deep (links t) d ((k : Int) + 1)
  | 0, k, ⟨l, hl⟩, h => absurd (h l hl) (by omega)
  | d + 1, k, _, h => by
    refine .inr fun x hx hxk => ?_
    obtain ⟨i, e, _, he, rfl⟩ := (links_mem 9 (by rw [g.len]; omega)).1 hx
    obtain ⟨n, hn, hk, hr⟩ := from_folder g he
    have hix : ix e = k := by
      have := ix_int he
      simp only at hxk
      omega
    refine deep_way g d i (reach_has hr) fun l hl => ?_
    have := h (l ++ [e.1]) (hix ▸ Way.step hl he)
    simp at this
    omega
/-- A folder has one way up at most; what the root alone bears, none. -/
theorem ups_folder {t : List N} (g : Fine t) : ∀ (d k : Nat) (below : List ByteArray) (n : N), t[k]? = some n → n.kind = 2 → (ups (links t) d ((k : Int) + 1) below).length ≤ 1
  | 0, _, _, _, _, _ => by simp [ups]
  | d + 1, k, below, n, hn, hk => by
    rw [ups]
    split
    · simp
    · rename_i hne
      have hc := cntL_links g.len k
      have h1 := g.one k n (by omega) hn hk
      rw [h1, cntL, List.countP_eq_length_filter] at hc
      obtain ⟨x, hx⟩ := List.length_eq_one_iff.1 hc
      have hm : x ∈ (links t).filter fun x => decide (x.1.2 = (k : Int) + 1) := by rw [hx]; simp
      rw [hx]
      obtain ⟨i, e, _, he, rfl⟩ := (links_mem 9 (by rw [g.len]; omega)).1 (List.mem_filter.1 hm).1
      obtain ⟨m, hm2, hk2, _⟩ := from_folder g he
      simpa using ups_folder g d i _ m hm2 hk2
theorem flat_le {α β : Type} (f : α → List β) : ∀ (l : List α), (∀ x ∈ l, (f x).length ≤ 1) → (l.flatMap f).length ≤ l.length
  | [], _ => by simp
  | x :: r, h => by
    have h1 := h x (by simp)
    have h2 := flat_le f r fun y hy => h y (by simp [hy])
    simp only [List.flatMap_cons, List.length_append, List.length_cons]
    omega
theorem ups_le {t : List N} (g : Fine t) (d : Nat) (z : Int) (below : List ByteArray) : (ups (links t) (d + 1) z below).length ≤ (links t).length + 1 := by
  rw [ups]
  split
  · simp
  · refine Nat.le_trans (flat_le _ _ fun x hx => ?_) (Nat.le_succ_of_le (List.length_filter_le _ _))
    obtain ⟨i, e, _, he, rfl⟩ := (links_mem 9 (by rw [g.len]; omega)).1 (List.mem_filter.1 hx).1
    obtain ⟨m, hm2, hk2, _⟩ := from_folder g he
    exact ups_folder g d i _ m hm2 hk2
theorem links_name {t : List N} (g : Fine t) : ∀ x ∈ links t, x.1.1.size ≤ 6 := by
  intro x hx
  obtain ⟨i, e, _, he, rfl⟩ := (links_mem 9 (by rw [g.len]; omega)).1 hx
  obtain ⟨n, hn, _⟩ := from_folder g he
  rw [names_at hn] at he
  exact (PD.may_size (ents_may he)).2.1
theorem deep_all {t : List N} (g : Fine t) (z : Int) : Deep (links t) 10 z := by
  refine .inr fun x hx _ => ?_
  obtain ⟨i, e, _, he, rfl⟩ := (links_mem 9 (by rw [g.len]; omega)).1 hx
  obtain ⟨n, hn, hk, hr⟩ := from_folder g he
  exact deep_way g 9 i (reach_has hr) fun l hl => by have := g.way_length hl; omega
end PT
end Go.Proofs.YtniegpdllijjfaaGreatDoor
namespace Go.Proofs.YtniegpdllijjfaaGreatDoor
open Go.Shelf
def Tryz.laysSlM6_f47_ren : Go.Shelf.Ren := ⟨fun | 6 => 47 | 8 => 69 | 9 => 68 | 19 => 98 | 20 => 99 | 21 => 89 | 22 => 90 | 23 => 91 | 24 => 92 | 25 => 93 | 26 => 94 | 27 => 95 | 28 => 96 | 29 => 97 | 36 => 115 | 31 => 116 | 32 => 117 | 37 => 118 | 38 => 119 | 39 => 120 | 41 => 129 | n => n, fun | 27 => 34 | 29 => 9 | 3 => 3 | 32 => 108 | 26 => 34 | 0 => 0 | 44 => 133 | 46 => 135 | 4 => 4 | 36 => 126 | 35 => 125 | 41 => 52 | 5 => 5 | 9 => 9 | 53 => 144 | 57 => 148 | 63 => 159 | 64 => 160 | n => n, fun | n => n⟩
theorem Tryz.laysSlM6_f47 : Go.Proofs.SlLaysM.n6 Tryz.prog Tryz.laysSlM6_f47_ren := {
  mixed := by kernel_rfl
  f6 := ⟨Tryz.f47.name, by decide, Tryz.func47.trans (congrArg some (by kernel_rfl))⟩
  f8 := Tryz.func69.trans (congrArg some (by kernel_rfl))
  f9 := ⟨Tryz.f68.name, by decide, Tryz.func68.trans (congrArg some (by kernel_rfl))⟩
  f19 := Tryz.func98.trans (congrArg some (by kernel_rfl))
  f20 := Tryz.func99.trans (congrArg some (by kernel_rfl))
  f21 := ⟨Tryz.f89.name, by decide, Tryz.func89.trans (congrArg some (by kernel_rfl))⟩
  f22 := ⟨Tryz.f90.name, by decide, Tryz.func90.trans (congrArg some (by kernel_rfl))⟩
  f23 := ⟨Tryz.f91.name, by decide, Tryz.func91.trans (congrArg some (by kernel_rfl))⟩
  f24 := ⟨Tryz.f92.name, by decide, Tryz.func92.trans (congrArg some (by kernel_rfl))⟩
  f25 := ⟨Tryz.f93.name, by decide, Tryz.func93.trans (congrArg some (by kernel_rfl))⟩
  f26 := ⟨Tryz.f94.name, by decide, Tryz.func94.trans (congrArg some (by kernel_rfl))⟩
  f27 := ⟨Tryz.f95.name, by decide, Tryz.func95.trans (congrArg some (by kernel_rfl))⟩
  f28 := ⟨Tryz.f96.name, by decide, Tryz.func96.trans (congrArg some (by kernel_rfl))⟩
  f29 := ⟨Tryz.f97.name, by decide, Tryz.func97.trans (congrArg some (by kernel_rfl))⟩
  f31 := Tryz.func116.trans (congrArg some (by kernel_rfl))
  f32 := Tryz.func117.trans (congrArg some (by kernel_rfl))
  f36 := ⟨Tryz.f115.name, by decide, Tryz.func115.trans (congrArg some (by kernel_rfl))⟩
  f37 := ⟨Tryz.f118.name, by decide, Tryz.func118.trans (congrArg some (by kernel_rfl))⟩
  f38 := ⟨Tryz.f119.name, by decide, Tryz.func119.trans (congrArg some (by kernel_rfl))⟩
  f39 := ⟨Tryz.f120.name, by decide, Tryz.func120.trans (congrArg some (by kernel_rfl))⟩
  f41 := ⟨Tryz.f129.name, by decide, Tryz.func129.trans (congrArg some (by kernel_rfl))⟩
  t0 := Tryz.underlying0
  a0 := Tryz.isAgg0
  z0 := Tryz.sizeOf0
  v0 := Tryz.zeroValue0
  t3 := Tryz.underlying3
  a3 := Tryz.isAgg3
  z3 := Tryz.sizeOf3
  v3 := Tryz.zeroValue3
  t4 := Tryz.underlying4
  a4 := Tryz.isAgg4
  z4 := Tryz.sizeOf4
  v4 := Tryz.zeroValue4
  t5 := Tryz.underlying5
  a5 := Tryz.isAgg5
  z5 := Tryz.sizeOf5
  v5 := Tryz.zeroValue5
  t9 := Tryz.underlying9
  a9 := Tryz.isAgg9
  z9 := Tryz.sizeOf9
  v9 := Tryz.zeroValue9
  t26 := Tryz.underlying34
  a26 := Tryz.isAgg34
  z26 := Tryz.sizeOf34
  v26 := Tryz.zeroValue34
  t27 := Tryz.underlying34
  a27 := Tryz.isAgg34
  z27 := Tryz.sizeOf34
  v27 := Tryz.zeroValue34
  t29 := Tryz.underlying9
  a29 := Tryz.isAgg9
  z29 := Tryz.sizeOf9
  v29 := Tryz.zeroValue9
  t32 := Tryz.underlying108
  a32 := Tryz.isAgg108
  z32 := Tryz.sizeOf108
  v32 := Tryz.zeroValue108
  t35 := Tryz.underlying125
  a35 := Tryz.isAgg125
  z35 := Tryz.sizeOf125
  v35 := Tryz.zeroValue125
  t36 := Tryz.underlying126
  a36 := Tryz.isAgg126
  z36 := Tryz.sizeOf126
  v36 := Tryz.zeroValue126
  t41 := Tryz.underlying52
  a41 := Tryz.isAgg52
  z41 := Tryz.sizeOf52
  v41 := Tryz.zeroValue52
  t44 := Tryz.underlying133
  a44 := Tryz.isAgg133
  z44 := Tryz.sizeOf133
  v44 := Tryz.zeroValue133
  t46 := Tryz.underlying135
  a46 := Tryz.isAgg135
  z46 := Tryz.sizeOf135
  v46 := Tryz.zeroValue135
  t53 := Tryz.underlying144
  a53 := Tryz.isAgg144
  z53 := Tryz.sizeOf144
  v53 := Tryz.zeroValue144
  t57 := Tryz.underlying148
  a57 := Tryz.isAgg148
  z57 := Tryz.sizeOf148
  v57 := Tryz.zeroValue148
  t63 := Tryz.underlying159
  a63 := Tryz.isAgg159
  z63 := Tryz.sizeOf159
  v63 := Tryz.zeroValue159
  t64 := Tryz.underlying160
  a64 := Tryz.isAgg160
  z64 := Tryz.sizeOf160
  v64 := Tryz.zeroValue160 }
open Go.Sort Go.RowKit in
theorem Tryz.slices_Sort_string (blk off cap : Nat) (ss : List (List UInt8)) (w : World) (hH : Holds encStr w blk off ss.toArray) (hblk : blk < w.heap.size) (hsz : ss.length < 4611686018427387904) :
    Calls Tryz.prog 47 #[.slice (some ⟨blk, off, none⟩) ss.length cap] w fun e w' =>
      e = .returned (.tuple #[]) ∧ ∃ n os, w' = grow (putRow encStr (Sort.ahead w n) blk off (ss.mergeSort fun x y => decide (x ≤ y)).toArray) os := AnyM.slices_Sort_string Tryz.laysSlM6_f47 blk off cap ss w hH hblk hsz
open Go.RowKit Go.Sort in
/-- .. and plain. (LAID AT THE INSTANCE 'slices.Sort[[]string,string]': no walk: one application.) -/
theorem Tryz.slices_Sort_string_none (p : Option Addr) (cap : Nat) (w : World) :
    Calls Tryz.prog 47 #[.slice p 0 cap] w fun e w' => e = .returned (.tuple #[]) ∧ w' = w := AnyM.slices_Sort_string_none Tryz.laysSlM6_f47 p cap w
end Go.Proofs.YtniegpdllijjfaaGreatDoor
namespace Go.Proofs.YtniegpdllijjfaaGreatDoor
open Go.RowKit Go.Joins Go.Sort

def bls (ss : List ByteArray) : List (List UInt8) := ss.map fun s => s.data.toList
/-- The texts, sorted as the library sorts them. -/
def srtS (ss : List ByteArray) : List ByteArray := ((bls ss).mergeSort fun x y => decide (x ≤ y)).map fun l => (⟨l.toArray⟩ : ByteArray)
theorem srtS_length (ss : List ByteArray) : (srtS ss).length = ss.length := by simp [srtS, bls]
theorem enc_bls (ss : List ByteArray) : (bls ss).map encStr = ss.map Value.string := by
  simp only [bls, List.map_map]
  rfl
theorem enc_srtS (ss : List ByteArray) : ((bls ss).mergeSort fun x y => decide (x ≤ y)).map encStr = (srtS ss).map Value.string := by
  simp only [srtS, List.map_map]
  rfl
theorem Ro.base {w : World} {a b : Nat} {v : Value} {l : List ByteArray} (h : Ro w b v l) (hab : a ≤ b) : Ro w a v l := by
  obtain ⟨h1, h2⟩ := h
  refine ⟨h1, ?_⟩
  rcases h2 with h0 | ⟨g, cap, cur, hv, hg, hr⟩
  · exact .inl h0
  · exact .inr ⟨g, cap, cur, hv, Nat.le_trans hab hg, hr⟩
theorem PT.linksTo_few (t : List PT.N) : ∀ k, (PT.linksTo t k).length ≤ k * 120
  | 0 => by simp [PT.linksTo]
  | k + 1 => by
    rw [PT.linksTo_succ, List.length_append]
    have h1 := PT.linksTo_few t k
    have h2 := PT.ents_length (PT.atz t ((k : Int) + 1))
    have h3 : (PT.inside t ((k : Int) + 1)).length = (PT.ents (PT.atz t ((k : Int) + 1))).length := by simp [PT.inside]
    omega
theorem PT.links_few {t : List PT.N} (_ : PT.Fine t) : (PT.links t).length ≤ 1080 := PT.linksTo_few t 9
theorem sort_ro (v : Value) (ss : List ByteArray) (w : World) (base : Nat) (h : Ro w base v ss) (hb : base ≤ w.heap.size) (hl : ss.length ≤ 2000000) : Calls Tryz.prog 47 #[v] w fun e w' => e = .returned (.tuple #[]) ∧ Ro w' base v (srtS ss) ∧ Below base w w' := by
  obtain ⟨hln, hn | ⟨g, cap, cur, rfl, hg, hh, h1, h2, h3, h4⟩⟩ := h
  · obtain ⟨rfl, hn0⟩ := hn
    have h0 : ss = [] := List.length_eq_zero_iff.1 hn0
    subst h0
    refine (Tryz.slices_Sort_string_none none 0 w).mono ?_
    rintro e w' ⟨rfl, rfl⟩
    have he : srtS [] = [] := List.length_eq_zero_iff.1 (srtS_length [])
    rw [he]
    exact ⟨rfl, World.ownsRow_nil _ _ _ _, Below.refl _ _⟩
  · have hbl : (bls ss).length = ss.length := by simp [bls]
    rw [Nat.mul_one] at h4
    have h4' : cur.toList.take (bls ss).length = (bls ss).map encStr := by rw [hbl, enc_bls]; exact h4
    have hH := holds_of_block hh h4'
    have hlt : g < w.heap.size := (Array.getElem?_eq_some_iff.1 hh).1
    have hc := Tryz.slices_Sort_string g 0 cap (bls ss) w hH hlt (by rw [hbl]; omega)
    rw [hbl] at hc
    refine hc.mono ?_
    rintro e w' ⟨rfl, n, os, rfl⟩
    have hml : ((bls ss).mergeSort fun x y => decide (x ≤ y)).length = (bls ss).length := by simp
    have ho := ownsRow_sorted (n := n) (os := os) hml hg hh (by rw [hbl]; exact h1) h2 h3
    rw [hbl, enc_srtS] at ho
    refine ⟨rfl, ?_, (Below.refl base w).grown (grownBy_sorted _) hb fun k hk => ?_⟩
    · unfold Ro
      rw [srtS_length]
      exact ho
    · simp at hk
      omega
set_option maxRecDepth 100000 in
set_option maxHeartbeats 4000000 in
theorem ways_any (v : Value) (t : List PT.N) (z : Int) (w : World) (h : Ts w v t) (g : PT.Fine t) : Calls Tryz.prog 24 #[v, .int .i64 z] w fun e w' => ∃ v', e = .returned v' ∧ Ro w' w.heap.size v' (srtS (ups (PT.links t) 10 z [])) ∧ Below w.heap.size w w' := by
  have hm := may_any' v t w h
  rw [(PT.may_iff t).2 g] at hm
  have hli := fun W hb => tlinks_any v t W (h.below hb) g.len
  have hup := fun u W hl hs => up_any (PT.links t) hl (fun x hx => Nat.le_trans (PT.links_name g x hx) (by decide)) 10 z [] u (.slice none 0 0) W (PT.deep_all g z) (Nat.le_trans (PT.ups_le g 9 z []) (by have : (PT.links t).length ≤ 999999 := (by have := PT.links_few g; omega); omega)) hs (Ss.nil W) (fun A n c e => by cases e; exact Nat.le_refl _) (by decide) (by simp)
  have hlen : (ups (PT.links t) 10 z []).length ≤ 2000000 := Nat.le_trans (PT.ups_le g 9 z []) (by have := PT.links_few g; omega)
  generalize ups (PT.links t) 10 z [] = U at *
  generalize PT.links t = l at *
  have HLI := Lib.hid hli
  have HUP := Lib.hid hup
  clear h g hli hup
  go_enter Tryz.func24, Tryz.ntmps24
  go_wp2_with (first | (go_at_call 47; refine hs4.mono ?_; rintro e w4 ⟨rfl, hO4, hB4⟩) | (go_at_call 46; refine hu3.mono ?_; rintro e w3 ⟨v3, rfl, hO3, hB3⟩; have hs4 := sort_ro v3 U w3 w.heap.size (hO3.base hb2.size) (hb2.trans (hB3.mono hb2.size)).size hlen) | (go_at_call 35; refine hl2.mono ?_; rintro e w2 ⟨v2, rfl, hO2, hn2, hB2⟩; have hb2 := hB1.trans (hB2.mono hB1.size); have hu3 := HUP.out v2 w2 hn2 hO2.row) | (go_at_call 12; refine hm.mono ?_; rintro e w1 ⟨rfl, hB1⟩; have hl2 := HLI.out w1 hB1))
  go_ret
  exact ⟨_, rfl, hO4, (hb2.trans (hB3.mono hb2.size)).trans hB4⟩
set_option maxHeartbeats 4000000 in
/-- No tree: no ways. -/
theorem ways_no (v : Value) (t : List PT.N) (z : Int) (w : World) (h : Ts w v t) (g : PT.mayB t = false) : Calls Tryz.prog 24 #[v, .int .i64 z] w fun e w' => e = .returned (.slice none 0 0) ∧ Below w.heap.size w w' := by
  have hm := may_any' v t w h
  rw [g] at hm
  clear h g
  go_enter Tryz.func24, Tryz.ntmps24
  go_wp2_with (go_at_call 12; refine hm.mono ?_; rintro e w1 ⟨rfl, hB1⟩)
  go_ret
  exact ⟨rfl, hB1⟩
end Go.Proofs.YtniegpdllijjfaaGreatDoor
namespace Go.Proofs.YtniegpdllijjfaaGreatDoor
open Go.RowKit Go.Joins

set_option maxRecDepth 100000 in
theorem bt2_ways : srtS (ups (PT.links bt2) 10 3 []) = [sAB] := by decide +kernel
set_option maxRecDepth 100000 in
set_option maxHeartbeats 8000000 in
theorem begun_any (w : World) (hw : Ml w) : Calls Tryz.prog 8 #[] w fun e w' => e = .returned (.bool true) ∧ Below w.heap.size w w' := by
  have h1 := new_any w
  have h2 := fun v W (h : Ts W v PT.new) => rmake_any v PT.new sA 2 1 0 false W h PT.new_fine (by decide)
  have h3 := fun v W (h : Ts W v bt1) => rmake_any v bt1 sAB 1 1 0 false W h bt1_fine (by decide)
  rw [show (PT.make PT.new (PT.pp false sA) 2 1 0).1 = bt1 from rfl] at h2
  rw [show (PT.make bt1 (PT.pp false sAB) 1 1 0).1 = bt2 from rfl] at h3
  have h4 := fun v W (hw : Ml W) (h : Ts W v bt2) => tfind_any v bt2 sAB false W hw h bt2_fine (by decide)
  have h5 := fun v W (hw : Ml W) (h : Ts W v bt2) => tfind_any v bt2 sB false W hw h bt2_fine (by decide)
  rw [bt2_ab] at h4
  rw [bt2_b] at h5
  have h6 := fun v W (h : Ts W v bt2) => ways_any v bt2 3 W h bt2_fine
  rw [bt2_ways] at h6
  have h7 := fun v W (h : Ts W v PT.new) => may_any' v PT.new W h
  have h8 := fun v W (h : Ts W v bt2) => may_any' v bt2 W h
  have h9 := fun W => may_any' (.slice none 0 0) [] W (Ts.nil W)
  rw [new_may] at h7
  rw [bt2_may] at h8
  rw [nil_may] at h9
  have h10 := fun v W (h : Ts W v bt2) => tlinksI_any v bt2 3 W h
  rw [bt2_links] at h10
  have h11 := fun v u W (h : Ts W v bt2) (h' : Ts W u bt2) => tsame_any v u bt2 bt2 W h h'
  have h12 := fun v u W (h : Ts W v bt2) (h' : Ts W u PT.new) => tsame_any v u bt2 PT.new W h h'
  rw [decide_eq_true rfl] at h11
  rw [decide_eq_false bt2_new] at h12
  have hl2 : bt2.length = 9 := bt2_fine.len
  generalize bt2 = t2 at *
  generalize bt1 = t1 at *
  have H2 := Lib.hid h2
  have H3 := Lib.hid h3
  have H4 := Lib.hid h4
  have H5 := Lib.hid h5
  have H6 := Lib.hid h6
  have H7 := Lib.hid h7
  have H8 := Lib.hid h8
  have H9 := Lib.hid h9
  have H10 := Lib.hid h10
  have H11 := Lib.hid h11
  have H12 := Lib.hid h12
  clear h2 h3 h4 h5 h6 h7 h8 h9 h10 h11 h12
  go_enter Tryz.func8, Tryz.ntmps8
  go_wp2_with fail
  refine h1.mono ?_
  rintro e w1 ⟨v1, rfl, hT1, hB1⟩
  have T1 := hT1.row PT.new_fit
  have hT1f := T1.form
  rw [show PT.new.length = 9 from rfl] at hT1f
  obtain ⟨A1, e1, rfl⟩ := hT1f
  have k2 := H2.out _ w1 T1
  clear hT1 h1
  simp only [sA] at k2
  go_wp2_with fail
  refine k2.mono ?_
  rintro e w2 ⟨v2, rfl, T2, hB2⟩
  have T1 := T1.below hB2
  have hb2 := hB1.trans (hB2.mono hB1.size)
  have k3 := H3.out _ w2 T2
  clear k2 hB1 hB2 T2
  simp only [sAB] at k3
  go_wp2_with fail
  refine k3.mono ?_
  rintro e w3 ⟨v3, rfl, T3, hB3⟩
  have T1 := T1.below hB3
  have hb3 := hb2.trans (hB3.mono hb2.size)
  have k4 := H4.out _ w3 (hw.below hb3) T3
  clear k3 hB3 hb2
  simp only [sAB] at k4
  go_wp2_with fail
  refine k4.mono ?_
  rintro e w4 ⟨rfl, hB4⟩
  have T1 := T1.below hB4
  have T3 := T3.below hB4
  have hb4 := hb3.trans (hB4.mono hb3.size)
  have k5 := H5.out _ w4 (hw.below hb4) T3
  clear k4 hB4 hb3
  simp only [sB] at k5
  go_wp2_with fail
  refine k5.mono ?_
  rintro e w5 ⟨rfl, hB5⟩
  have T1 := T1.below hB5
  have T3 := T3.below hB5
  have hb5 := hb4.trans (hB5.mono hb4.size)
  have k6 := H6.out _ w5 T3
  clear k5 hB5 hb4
  go_wp2_with fail
  refine k6.mono ?_
  rintro e w6 ⟨v6, rfl, hO6, hB6⟩
  have T1 := T1.below hB6
  have T3 := T3.below hB6
  have hb6 := hb5.trans (hB6.mono hb5.size)
  have k7 := H7.out _ w6 T1
  clear k6 hB6 hb5
  have hS6 : Ss w6 v6 [sAB] := hO6.row (by intro s hs; simp at hs; subst hs; decide) (by decide)
  obtain ⟨A6, c6, rfl⟩ := hS6.form
  obtain ⟨b6, o6, rfl, hl6, hc6⟩ := hS6.at (by decide)
  have g6 := hc6 0 sAB rfl
  simp only [Nat.add_zero] at g6
  have hc := fun W (hb : Below w6.heap.size w6 W) => (hb.cell (p := ⟨b6, o6, none⟩) hl6).trans g6
  have HC := Lib.hid hc
  have q6 := Below.refl w6.heap.size w6
  have hsq := seq_yes sAB
  clear hO6 hS6 hc6 g6 hc
  go_wp2_with fail
  refine k7.mono ?_
  rintro e w7 ⟨rfl, hB7⟩
  have T1 := T1.below hB7
  have T3 := T3.below hB7
  have hb7 := hb6.trans (hB7.mono hb6.size)
  have q7 := q6.trans (hB7.mono q6.size)
  have k8 := H8.out _ w7 T3
  clear k7 hb6 q6 hB7
  go_wp2_with fail
  refine k8.mono ?_
  rintro e w8 ⟨rfl, hB8⟩
  have T1 := T1.below hB8
  have T3 := T3.below hB8
  have hb8 := hb7.trans (hB8.mono hb7.size)
  have q8 := q7.trans (hB8.mono q7.size)
  have k9 := H9.out w8
  clear k8 hb7 q7 hB8
  go_wp2_with fail
  refine k9.mono ?_
  rintro e w9 ⟨rfl, hB9⟩
  have T1 := T1.below hB9
  have T3 := T3.below hB9
  have hb9 := hb8.trans (hB9.mono hb8.size)
  have q9 := q8.trans (hB9.mono q8.size)
  have k10 := H10.out _ w9 T3
  clear k9 hb8 q8 hB9
  go_wp2_with fail
  refine k10.mono ?_
  rintro e w10 ⟨rfl, hB10⟩
  have T1 := T1.below hB10
  have T3 := T3.below hB10
  have hb10 := hb9.trans (hB10.mono hb9.size)
  have q10 := q9.trans (hB10.mono q9.size)
  have g10 := HC.out w10 q10; have k11 := H11.out _ _ w10 T3 T3
  clear k10 hb9 q9 hB10
  simp only [sAB] at g10 hsq
  go_wp2_with fail
  refine k11.mono ?_
  rintro e w11 ⟨rfl, hB11⟩
  have T1 := T1.below hB11
  have T3 := T3.below hB11
  have hb11 := hb10.trans (hB11.mono hb10.size)
  have k12 := H12.out _ _ w11 T3 T1
  clear k11 hb10 hB11
  go_wp2_with fail
  refine k12.mono ?_
  rintro e w12 ⟨rfl, hB12⟩
  have hb12 := hb11.trans (hB12.mono hb11.size)
  go_wp2
  go_ret
  exact ⟨rfl, hb12⟩
end Go.Proofs.YtniegpdllijjfaaGreatDoor
