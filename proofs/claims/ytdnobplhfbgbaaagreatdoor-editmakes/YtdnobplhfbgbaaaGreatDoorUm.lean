/-
  Contracts: numbers read by choice: Num, Path, Over, as far as what stands goes; Text.
-/
import Derived.Test.YtdnobplhfbgbaaaGreatDoorMUk
import Derived.Test.YtdnobplhfbgbaaaGreatDoorMRg
namespace Go.Proofs.YtdnobplhfbgbaaaGreatDoor
open Go.RowKit Go.Joins

/-- The numbers that are read lie in w; the box g tells where the next one is; nothing that was there in w0 has turned. -/
def Pw (w0 : World) (A : Option Addr) (n c g : Nat) (w : World) : Prop := Below w0.heap.size w0 w ∧ w0.heap.size ≤ g ∧ ∃ ix : Nat, ix ≤ n ∧ Bx w g 92 #[.slice A n c, .int .i64 (ix : Int)]
theorem Pw.lt {w0 w : World} {A : Option Addr} {n c g : Nat} (h : Pw w0 A n c g w) : g < w.heap.size := by
  obtain ⟨_, _, ix, _, hx⟩ := h
  exact hx.lt
theorem Pw.on {w0 w w' : World} {A : Option Addr} {n c g B : Nat} (h : Pw w0 A n c g w) (hb : Below B w w') (hB : g < B) : Pw w0 A n c g w' := by
  obtain ⟨h1, hg, ix, h2, h3⟩ := h
  exact ⟨h1.trans (hb.mono (by omega)), hg, ix, h2, h3.below hb hB⟩
section
variable {w0 : World} {A : Option Addr} {n c g : Nat} {bs : List Nat}
theorem numP (hv : Tx w0 (.slice A n c) bs) (hn : bs.length = n) (m : Nat) (h1 : 1 ≤ m) (hm : m ≤ 65536) (w : World) (h : Pw w0 A n c g w) : Calls Tryz.prog 23 #[.pointer (some ⟨g, 0, none⟩), .int .i64 (m : Int)] w fun e w' => ∃ r : Nat, e = .returned (.int .i64 (r : Int)) ∧ r < m ∧ Pw w0 A n c g w' ∧ Nx g w w' := by
  obtain ⟨hb, hg, ix, hi, hx⟩ := h
  refine (num_any w0 A n c bs hv hn g ix m (m : Int) rfl w hb hg hx hi h1 hm).mono ?_
  rintro e w' ⟨rfl, hx', hnx, hb'⟩
  exact ⟨_, rfl, numV_lt _ _ _ (by omega), ⟨hb', hg, _, by rw [← hn]; exact nextV_le (by omega), hx'⟩, hnx⟩
theorem pathP (hv : Tx w0 (.slice A n c) bs) (hn : bs.length = n) (w : World) (h : Pw w0 A n c g w) : Calls Tryz.prog 22 #[.pointer (some ⟨g, 0, none⟩)] w fun e w' => ∃ s : ByteArray, e = .returned (.string s) ∧ s.size ≤ 8 ∧ Pw w0 A n c g w' ∧ Nx g w w' := by
  obtain ⟨hb, hg, ix, hi, hx⟩ := h
  refine (mpath_any w0 A n c bs hv hn g ix w hb hg hx hi).mono ?_
  rintro e w' ⟨s, j, rfl, hs, hj, hx', hnx, hb'⟩
  exact ⟨s, rfl, hs, ⟨hb', hg, j, hj, hx'⟩, hnx⟩
set_option maxHeartbeats 4000000 in
theorem overP (w : World) (h : Pw w0 A n c g w) : Calls Tryz.prog 34 #[.pointer (some ⟨g, 0, none⟩)] w fun e w' => ∃ b : Bool, e = .returned (.bool b) ∧ Below w.heap.size w w' := by
  obtain ⟨hb, hg, ix, hi, hx⟩ := h
  have c0 := hx.cell 0
  have c1 := hx.cell 1
  simp at c0 c1
  clear hx hb
  go_enter Tryz.func34, Tryz.ntmps34
  go_wp2_with fail
  go_quiet (fail)
  go_wp2
  go_ret
  exact ⟨_, rfl, drewN_below (Below.refl _ _) _⟩
end
def lots8 : List Int := [0, 1, 3, 17, 40, 41, 60, 121]
theorem lots8_at {r : Nat} (h : r < 8) : ∃ z : Nat, lots8[r]? = some (z : Int) ∧ z ≤ 121 := by
  rcases r with _ | _ | _ | _ | _ | _ | _ | _ | r
  · exact ⟨0, rfl, by decide⟩
  · exact ⟨1, rfl, by decide⟩
  · exact ⟨3, rfl, by decide⟩
  · exact ⟨17, rfl, by decide⟩
  · exact ⟨40, rfl, by decide⟩
  · exact ⟨41, rfl, by decide⟩
  · exact ⟨60, rfl, by decide⟩
  · exact ⟨121, rfl, by decide⟩
  · omega
theorem row_at (l : List Int) {r : Nat} {z : Int} (h : l[r]? = some z) : (l.map iv).toArray[r]? = some (.int .i64 z) := by
  rw [List.getElem?_toArray, List.getElem?_map, h]; rfl
set_option maxRecDepth 100000 in
set_option maxHeartbeats 4000000 in
theorem textP {w0 : World} {A : Option Addr} {n c g : Nat} {bs : List Nat} (hv : Tx w0 (.slice A n c) bs) (hn : bs.length = n) (w : World) (h : Pw w0 A n c g w) : Calls Tryz.prog 41 #[.pointer (some ⟨g, 0, none⟩)] w fun e w' => ∃ s : ByteArray, e = .returned (.string s) ∧ s.size ≤ 121 ∧ Pw w0 A n c g w' ∧ Nx g w w' := by
  have hgl := h.lt
  have hB0 := al w (.cells #[.int .i64 0, .int .i64 1, .int .i64 3, .int .i64 17, .int .i64 40, .int .i64 41, .int .i64 60, .int .i64 121] 3)
  have hy0 := Bx.new w 3 #[.int .i64 0, .int .i64 1, .int .i64 3, .int .i64 17, .int .i64 40, .int .i64 41, .int .i64 60, .int .i64 121]
  have hnum := numP hv hn 8 (by decide) (by decide) _ (h.on hB0 hgl)
  have hne : w.heap.size ≠ g := by omega
  have hnx0 := Nx.of (g := g) hB0
  have HY := Lib.hid hy0
  clear hB0 hy0
  go_enter Tryz.func41, Tryz.ntmps41
  go_wp2_with fail
  refine hnum.mono ?_
  rintro e w1 ⟨r, rfl, hr, hp1, hn1⟩
  obtain ⟨z, hz, hz121⟩ := lots8_at hr
  have hc := ((HY.out.nx hn1 hne).cell r).trans (row_at lots8 hz)
  have hnx1 := hnx0.trans hn1
  have hmk := makeN z (by omega) w1
  have hgl1 := hp1.lt
  have hB2 := al w1 (.cells (zeroCellsN z) 5)
  have hx2 := Bx.new w1 5 (zeroCellsN z)
  have hw1s := hnx1.1
  have hnum2 := numP hv hn 26 (by decide) (by decide) _ (hp1.on hB2 hgl1)
  have hne2 : w1.heap.size ≠ g := by omega
  have hnx2 := hnx1.trans (Nx.of (g := g) hB2)
  clear hnum hn1 HY hnx0 hnx1 hB2
  have HX := Lib.hid hx2
  clear hx2
  go_wp2_with fail
  refine hnum2.mono ?_
  rintro e w2 ⟨r2, rfl, hr2, hp2, hn2⟩
  have hx2 := HX.out.nx hn2 hne2
  have hnx3 := hnx2.trans hn2
  have hz2 : w1.heap.size < w2.heap.size := hx2.lt
  have hw97 : IntKind.i64.wrap (97 + (r2 : Int)) = 97 + (r2 : Int) := by rw [IntKind.wrap_i64]; omega
  have hu97 : IntKind.u8.wrap (97 + (r2 : Int)) = 97 + (r2 : Int) := by rw [IntKind.wrap_u8]; omega
  have hgg : g < w1.heap.size := hgl1
  generalize hgb : w1.heap.size = gb at *
  have hcells : (zeroCellsN z) = ((List.replicate z 0).map bv).toArray := by
    apply Array.ext_getElem?
    intro j
    rcases Nat.lt_or_ge j z with hj | hj
    · rw [zeroCellsN_at z j hj]
      simp [bv, hj]
    · rw [Array.getElem?_eq_none (by simp [zeroCellsN, madeCells]; exact hj), Array.getElem?_eq_none (by simp; exact hj)]
  rw [hcells] at hx2
  have HX2 := Lib.hid hx2
  have HP2 := Lib.hid hp2
  have HN3 := Lib.hid hnx3
  clear hnum2 hn2 HX hnx2 hp1 hmk hc hz hp2 hnx3 hcells hx2 h hgb
  go_wp2
  go_loopw [6] (fun i wr => ∃ (k : Nat) (l : List Nat), k ≤ z ∧ i = .int .i64 (k : Int) ∧ l.length = z ∧ (∀ b ∈ l, b < 256) ∧ Bx wr gb 5 (l.map bv).toArray ∧ Below gb w2 wr) (fun i _ => z - (intOf i).toNat)
  case atStart => exact ⟨0, List.replicate z 0, Nat.zero_le _, rfl, List.length_replicate, fun b hb => by rw [(List.mem_replicate.1 hb).2]; decide, HX2.out, Below.refl _ _⟩
  case round =>
    obtain ⟨k, l, hk, rfl, hl, hlt, hx, hB⟩ := hrel
    by_cases hkz : k < z
    · have hw0 : IntKind.i64.wrap (k : Int) = k := by rw [IntKind.wrap_i64]; omega
      obtain ⟨q, hq⟩ : ∃ q, k % 3 = q := ⟨_, rfl⟩
      have hq3 : q < 3 := by omega
      have hrt : Int.tmod (k : Int) 3 = (q : Int) := by rw [← hq]; exact rfl
      have hrm : (k : Int) % 3 = (q : Int) := by rw [← hq]; exact rfl
      have hwq : IntKind.i64.wrap (q : Int) = q := by rw [IntKind.wrap_i64]; omega
      have huq : IntKind.u8.wrap (q : Int) = q := by rw [IntKind.wrap_u8]; omega
      have hus : IntKind.u8.wrap (97 + (r2 : Int) + (q : Int)) = 97 + (r2 : Int) + (q : Int) := by rw [IntKind.wrap_u8]; omega
      obtain ⟨x, hx0⟩ : ∃ x, l[k]? = some x := ⟨_, List.getElem?_eq_getElem (by omega)⟩
      have hck : wr.cell? ⟨gb, k, none⟩ = some (.int .u8 (x : Int)) := by rw [hx.cell k, List.getElem?_toArray, List.getElem?_map, hx0]; rfl
      have hfk := hx.frozen k
      have hset := hx.set k (.int .u8 (97 + (r2 : Int) + (q : Int)))
      have hset2 : (l.map bv).toArray.setIfInBounds k (.int .u8 (97 + (r2 : Int) + (q : Int))) = ((l.set k (97 + r2 + q)).map bv).toArray := by
        rw [List.map_set, List.setIfInBounds_toArray]
        rfl
      rw [hset2] at hset
      have HS := Lib.hid hset
      have HBk := Lib.hid (hB.setCell (p := ⟨gb, k, none⟩) (Nat.le_refl gb) (.int .u8 (97 + (r2 : Int) + (q : Int))))
      have HL := Lib.hid (show ∀ b ∈ l.set k (97 + r2 + q), b < 256 from fun b hb => by
        rcases List.mem_or_eq_of_mem_set hb with hb | rfl
        · exact hlt b hb
        · omega)
      clear hx hset hset2 hB hx0 hq hlt
      go_wp2
      go_roundw
      case rel => exact ⟨k + 1, l.set k (97 + r2 + q), by omega, by go_num, by rw [List.length_set]; exact hl, HL.out, HS.out, HBk.out⟩
      case measure => simp [intOf]; omega
    · have hkz' : k = z := by omega
      subst hkz'
      have hT : Tx wr (.slice (some ⟨gb, 0, none⟩) k k) l := Tx.of hl hx.lt hlt (by omega) fun j b hj => by rw [hx.cell j, List.getElem?_toArray, List.getElem?_map, hj]; rfl
      have hst := hT.string
      have HP := Lib.hid (HP2.out.on hB hgg)
      have hss := PD.str_size l
      rw [hl] at hss
      have HNN := Lib.hid (show Nx g w wr from ⟨Nat.le_trans HN3.out.1 hB.size, fun j hj hne => by
        have h1 := HN3.out.2 j hj hne
        have h2 : j < gb := by omega
        exact (hB.block j h2).trans h1⟩)
      clear hx hT hB HP2 HX2 HN3 hlt
      go_wp2
      go_ret
      exact ⟨_, rfl, by omega, HP.out, HNN.out⟩
end Go.Proofs.YtdnobplhfbgbaaaGreatDoor
