/-
  Texts that are written into: '[]byte(s)', 'copy' of a text; the contract of the document's long.
  Contracts: the document's file, Mode, Cut, Write.
-/
import Derived.Test.YtdnobplhfbgbaaaGreatDoorUj
import Derived.Lib.LazyBuf
namespace Go.Proofs.YtdnobplhfbgbaaaGreatDoor
open Go.RowKit Go.Joins

/-- A text out of its cells. -/
theorem Tx.of {w : World} {g n c : Nat} {bs : List Nat} (hn : bs.length = n) (hg : g < w.heap.size) (hb : ∀ b ∈ bs, b < 256) (hm : n ≤ 1048576) (hc : ∀ (j b : Nat), bs[j]? = some b → w.cell? ⟨g, j, none⟩ = some (.int .u8 (b : Int))) : Tx w (.slice (some ⟨g, 0, none⟩) n c) bs := by
  subst hn
  refine ⟨⟨_, c, rfl, by simp, fun _ => ⟨g, 0, rfl, hg, fun j hj => ?_⟩⟩, hb, hm⟩
  rw [Nat.zero_add, List.getElem?_map]
  have hj' : j < bs.length := by omega
  rw [hc j bs[j] (List.getElem?_eq_getElem hj'), List.getElem?_eq_getElem hj']
  rfl
def byteVals (s : ByteArray) : List Value := s.data.toList.map fun x => Value.int .u8 (x.toNat : Int)
theorem byteVals_at {s : ByteArray} {j b : Nat} (h : (nums s)[j]? = some b) : (byteVals s)[j]? = some (.int .u8 (b : Int)) := by
  unfold nums at h
  unfold byteVals
  rw [List.getElem?_map] at h ⊢
  cases hx : s.data.toList[j]? with
  | none => rw [hx] at h; cases h
  | some x =>
    rw [hx] at h
    injection h with h
    rw [Option.map_some, ← h]
/-- 'copy(b[o:], s)', as much as there is room for. -/
theorem copy_text (w : World) (g o dLen dCap m : Nat) (s : ByteArray) (hm : m = min s.size dLen) (hc : ∀ j, j < m → (w.cell? ⟨g, o + j, none⟩).isSome = true) (hf : ∀ j, j < m → w.frozen? ⟨g, o + j, none⟩ = false) :
    ∃ W, (∀ ty, (Builtin.copy_ #[30, 9] ty #[.slice (some ⟨g, o, none⟩) dLen dCap, .string s]).run Tryz.prog w = .ok (.int .i64 (m : Int)) W) ∧ (∀ j b : Nat, j < m → (nums s)[j]? = some b → W.cell? ⟨g, o + j, none⟩ = some (.int .u8 (b : Int))) ∧ (∀ j : Nat, j < o ∨ o + m ≤ j → W.cell? ⟨g, j, none⟩ = w.cell? ⟨g, j, none⟩) ∧ (∀ B, B ≤ g → Below B w W) := by
  have hl : ((byteVals s).take m).length = m := by
    unfold byteVals
    rw [List.length_take, List.length_map, ← Lib.size_eq]
    omega
  refine ⟨w.setCells g o ((byteVals s).take m), fun ty => ?_, fun j b hj hb => ?_, fun j hj => ?_, fun B hB => ?_⟩
  · have hst := run_storeCells_cells (P := Tryz.prog) g o ((byteVals s).take m) 0 w (by rw [hl]; simpa using hc) (by rw [hl]; simpa using hf) (by
      intro v hv
      have hv := List.mem_of_mem_take hv
      unfold byteVals at hv
      obtain ⟨x, _, rfl⟩ := List.mem_map.1 hv
      rfl)
    obtain ⟨i0, hi, hz0, hz1, hz2⟩ := info_parts Tryz.info5
    simp only [Nat.add_zero] at hst
    have hmin : Nat.min s.size dLen = m := hm.symm
    simp [Builtin.copy_, run_underlying Tryz.underlying30, Builtin.lenOf, Builtin.firstCells, sizeOf, typeInfo, hi, hmin]
    rw [show List.map (fun x : UInt8 => Value.int IntKind.u8 (x.toNat : Int)) s.data.toList = byteVals s from rfl, hst]
    rfl
  · have hb' := byteVals_at hb
    have hin := World.cell?_setCells_in g ((byteVals s).take m) o w (by rw [hl]; exact hc) j (by rw [hl]; exact hj)
    rw [hin]
    have h2 : ((byteVals s).take m)[j]? = some (.int .u8 (b : Int)) := by rw [List.getElem?_take, if_pos hj]; exact hb'
    obtain ⟨_, h3⟩ := List.getElem?_eq_some_iff.1 h2
    rw [h3]
  · exact World.cell?_setCells_out g _ o w ⟨g, j, none⟩ fun _ _ => by rw [hl]; exact hj
  · exact below_setCells hB _ _ _ (Below.refl _ _)
theorem frozen_low {W : World} {g : Nat} {cs : Array Value} {t : TypeId} {lo hi j : Nat} (h : W.heap[g]? = some (.cells cs t (lo, hi))) (hj : j < lo) : W.frozen? ⟨g, j, none⟩ = false := by
  unfold World.frozen?
  simp only
  rw [h]
  simp
  omega
set_option maxRecDepth 100000 in
/-- '[]byte(s)'. -/
theorem to_bytes (w : World) (s : ByteArray) (hm : s.size ≤ 1048576) : ∃ W c, (convert 9 30 (.string s)).run Tryz.prog w = .ok (.slice (some ⟨w.heap.size, 0, none⟩) s.size c) W ∧ Tx W (.slice (some ⟨w.heap.size, 0, none⟩) s.size c) (nums s) ∧ (∀ j, j < s.size → W.frozen? ⟨w.heap.size, j, none⟩ = false) ∧ Below w.heap.size w W ∧ w.heap.size < W.heap.size ∧ s.size ≤ c := by
  have hr := run_bytes_of_string (P := Tryz.prog) w 9 30 5 s Tryz.underlying9 Tryz.underlying30 Tryz.underlying5
  have hcap := grownCap_ge w s.size 0 5
  generalize grownCap w s.size 0 5 = c at *
  have hsz : (bytesRow s c).size = c := by
    unfold bytesRow
    rw [Array.size_append, Array.size_map, Array.size_replicate]
    have : s.data.size = s.size := rfl
    omega
  refine ⟨_, c, hr, ?_, fun j hj => ?_, ((Below.refl w.heap.size w).drew).alloc (Nat.le_refl _) _, by simp, hcap⟩
  · refine Tx.of (nums_length s) (by simp) (nums_lt s) hm fun j b hj => ?_
    have hcell := cell_alloc_mark_at w.drew (bytesRow s c) 5 ((bytesRow s c).size, (bytesRow s c).size + 1) w.heap.size j rfl
    rw [hcell]
    have hjs : j < s.data.size := by
      have := (List.getElem?_eq_some_iff.1 hj).1
      rw [nums_length] at this
      exact this
    rw [bytesRow_at s c j hjs]
    unfold nums at hj
    rw [List.getElem?_map] at hj
    have hx : s.data.toList[j]? = some s.data[j] := by rw [Array.getElem?_toList]; exact Array.getElem?_eq_getElem hjs
    rw [hx] at hj
    injection hj with hj
    rw [← hj]
  · refine frozen_low (heap_alloc_new w.drew _) ?_
    rw [hsz]
    omega

def zeroCellsN (n : Nat) : Array Value := madeCells #[.int .u8 0] n
theorem makeN (n : Nat) (hn : n ≤ 1048576) (w : World) : (Instr.makeSlice 30 (.int .i64 (n : Int)) (.int .i64 (n : Int))).run Tryz.prog w = .ok (.slice (some ⟨w.heap.size, 0, none⟩) n n) (w.alloc (.cells (zeroCellsN n) 5)) := by
  obtain ⟨i0, hi, hz0, hz1, hz2⟩ := info_parts Tryz.info5
  have h := run_make (P := Tryz.prog) w 30 5 i0 (.int .u8 0) Tryz.underlying30 hi hz0 .i64 .i64 (n : Int) (n : Int) (by omega) (by omega) (by rw [hz2]; omega) (by omega)
  rw [hz1] at h
  simp only [Int.toNat_natCast, Nat.mul_one] at h
  exact h
theorem zeroCellsN_at (n j : Nat) (hj : j < n) : (zeroCellsN n)[j]? = some (.int .u8 0) := by
  unfold zeroCellsN madeCells
  rw [Array.getElem?_map, Array.getElem?_range, if_pos hj]
  simp [Nat.mod_one]
theorem PT.longL_at {s : List Nat} {n j b : Nat} (h : (PT.longL s n)[j]? = some b) : j < n ∧ ((j < s.length ∧ s[j]? = some b) ∨ (s.length ≤ j ∧ b = 0)) := by
  have hj := (List.getElem?_eq_some_iff.1 h).1
  rw [PT.longL_length] at hj
  refine ⟨hj, ?_⟩
  unfold PT.longL at h
  rcases Nat.lt_or_ge j s.length with hl | hl
  · left
    rw [List.getElem?_append_left (by rw [List.length_take]; omega), List.getElem?_take, if_pos hj] at h
    exact ⟨hl, h⟩
  · right
    rw [List.getElem?_append_right (by rw [List.length_take]; omega), List.getElem?_replicate] at h
    split at h
    · injection h with h
      exact ⟨hl, h.symm⟩
    · cases h
theorem PT.longL_lt {s : List Nat} (h : ∀ b ∈ s, b < 256) (n : Nat) : ∀ b ∈ PT.longL s n, b < 256 := by
  intro b hb
  unfold PT.longL at hb
  rcases List.mem_append.1 hb with hb | hb
  · exact h b (List.mem_of_mem_take hb)
  · rw [List.mem_replicate] at hb
    rw [hb.2]; decide
set_option maxHeartbeats 4000000 in
theorem long_any (s : ByteArray) (n : Nat) (w : World) (hn : n ≤ 1048576) : Calls Tryz.prog 89 #[.string s, .int .i64 (n : Int)] w fun e w' => e = .returned (.string (PT.long s n)) ∧ Below w.heap.size w w' := by
  have hmk := makeN n hn w
  have hb1 := al w (.cells (zeroCellsN n) 5)
  have hx1 := Bx.new w 5 (zeroCellsN n)
  have hz1 : (w.alloc (.cells (zeroCellsN n) 5)).heap.size = w.heap.size + 1 := by simp
  go_enter Tryz.func89, Tryz.ntmps89
  go_upto_region 2 with fail
  generalize w.alloc (.cells (zeroCellsN n) 5) = w1 at *
  generalize hgx : w.heap.size = gx at *
  obtain ⟨m, hm⟩ : ∃ m, m = min s.size n := ⟨_, rfl⟩
  obtain ⟨W, hcp, hin, hout, hbel⟩ := copy_text w1 gx 0 n n m s hm (fun j hj => by rw [Nat.zero_add, hx1.cell, zeroCellsN_at n j (by omega)]; rfl) (fun j _ => by rw [Nat.zero_add]; exact hx1.frozen j)
  have hcp1 := hcp 3
  have hbw := hb1.trans (hbel gx (Nat.le_refl _))
  have hbs := (hbel gx (Nat.le_refl _)).size
  have hT : Tx W (.slice (some ⟨gx, 0, none⟩) n n) (PT.longL (nums s) n) := by
    refine Tx.of (PT.longL_length _ _) (by omega) (PT.longL_lt (nums_lt s) n) hn fun j b hj => ?_
    obtain ⟨h1, h2 | h2⟩ := PT.longL_at hj
    · rw [nums_length] at h2
      have := hin j b (by omega) h2.2
      rw [Nat.zero_add] at this
      exact this
    · rw [nums_length] at h2
      rw [hout j (.inr (by omega)), hx1.cell, zeroCellsN_at n j h1, h2.2]
      rfl
  have hst := hT.string
  have HB := Lib.hid hbw
  clear hcp hin hout hbel hT hx1 hb1 hmk hbw hm
  rw [show str (PT.longL (nums s) n) = PT.long s n from rfl] at hst
  go_wp2
  trace_state
  go_ret
  exact ⟨rfl, hgx ▸ HB.out⟩
end Go.Proofs.YtdnobplhfbgbaaaGreatDoor
namespace Go.Proofs.YtdnobplhfbgbaaaGreatDoor
open Go.RowKit Go.Joins

namespace PT
def fileF (t : List N) (p : Option (List ByteArray)) : Int × Int := if (find t p).2 = 0 ∧ kindAt t (px (find t p).1) = 2 then (0, 4) else find t p
/-- What file finds. -/
theorem Fine.file_yes {t : List N} (g : Fine t) {p : Option (List ByteArray)} (h : (fileF t p).2 = 0) : ∃ (l : List ByteArray) (k : Nat) (n : N), p = some l ∧ walk t 0 l = (((k + 1 : Nat) : Int), 0) ∧ fileF t p = ((k : Int) + 1, 0) ∧ k < 9 ∧ t[k]? = some n ∧ n.kind = 1 := by
  cases p with
  | none =>
    unfold fileF at h
    rw [if_neg (by rintro ⟨h1, _⟩; cases h1)] at h
    cases h
  | some l =>
    have hf : find t (some l) = walk t 0 l := rfl
    unfold fileF at h ⊢
    rw [hf] at h ⊢
    split at h
    · cases h
    · rename_i hn
      obtain ⟨k, n, hw, hk9, hnk, hn0, _⟩ := g.walk_yes h
      rw [if_neg hn]
      rw [hw] at hn
      simp only [px_succ, kindAt_at hnk, true_and] at hn
      exact ⟨l, k, n, rfl, hw, by rw [hw]; congr 1, hk9, hnk, g.file_kind hnk hn0 hn⟩
theorem Fine.file_no {t : List N} (_ : Fine t) {p : Option (List ByteArray)} (h : (fileF t p).2 ≠ 0) : (p = none ∧ (fileF t p).2 = 1) ∨ ∃ l, p = some l ∧ (((walk t 0 l).2 ≠ 0 ∧ (fileF t p).2 = (walk t 0 l).2) ∨ ((walk t 0 l).2 = 0 ∧ kindAt t (px (walk t 0 l).1) = 2 ∧ (fileF t p).2 = 4)) := by
  cases p with
  | none =>
    left
    unfold fileF
    rw [if_neg (by rintro ⟨h1, _⟩; cases h1)]
    exact ⟨rfl, rfl⟩
  | some l =>
    right
    refine ⟨l, rfl, ?_⟩
    have hf : find t (some l) = walk t 0 l := rfl
    unfold fileF at h ⊢
    rw [hf] at h ⊢
    split at h
    · rename_i hc
      rw [if_pos hc]
      exact .inr ⟨hc.1, hc.2, rfl⟩
    · rename_i hc
      rw [if_neg hc]
      exact .inl ⟨h, rfl⟩
theorem write_no {t : List N} (g : Fine t) {p : Option (List ByteArray)} (h : (fileF t p).2 ≠ 0) (off : Int) (x : ByteArray) : write t p off x = (t, (fileF t p).2) := by
  rcases g.file_no h with ⟨rfl, h1⟩ | ⟨l, rfl, h1 | h1⟩
  · rw [h1]; rfl
  · rw [h1.2, write, if_pos h1.1]
  · rw [h1.2.2, write, if_neg (by rw [h1.1]; decide), if_pos h1.2.1]
theorem cut_no {t : List N} (g : Fine t) {p : Option (List ByteArray)} (h : (fileF t p).2 ≠ 0) (size : Int) : cut t p size = (t, (fileF t p).2) := by
  rcases g.file_no h with ⟨rfl, h1⟩ | ⟨l, rfl, h1 | h1⟩
  · rw [h1]; rfl
  · rw [h1.2, cut, if_pos h1.1]
  · rw [h1.2.2, cut, if_neg (by rw [h1.1]; decide), if_pos h1.2.1]
end PT
set_option maxHeartbeats 4000000 in
theorem rfile_any (v : Value) (t : List PT.N) (s : ByteArray) (o : Bool) (w : World) (h : Ts w v t) (g : PT.Fine t) (hs : s.size ≤ 65535) : Calls Tryz.prog 88 #[v, .string s, .bool o] w fun e w' => e = .returned (.tuple #[.int .i64 (PT.fileF t (PT.pp o s)).1, .int .i64 (PT.fileF t (PT.pp o s)).2]) ∧ Below w.heap.size w w' := by
  have hfd := rtfind_any v t s o w h g hs
  obtain ⟨b0, o0, c, rfl⟩ := h.nine g
  have h9 := g.len
  unfold PT.fileF
  rcases Classical.em ((PT.find t (PT.pp o s)).2 = 0) with hz | hz
  · obtain ⟨l, hl⟩ : ∃ l, PT.pp o s = some l := by
      cases hp : PT.pp o s with
      | none => rw [hp] at hz; cases hz
      | some l => exact ⟨l, rfl⟩
    rw [hl] at hfd hz ⊢
    rw [show PT.find t (some l) = PT.walk t 0 l from rfl] at hfd hz ⊢
    obtain ⟨k, n, hw, hk9, hnk, hn0, _⟩ := g.walk_yes hz
    rw [hw] at hfd ⊢
    simp only [PT.px_succ, PT.kindAt_at hnk, true_and]
    rw [show ((k + 1 : Nat) : Int) = (k : Int) + 1 by omega] at hfd ⊢
    dsimp only at hfd
    have HCK := Lib.hid (fun W hW => (h.kindCell h9 hnk W hW).1)
    have hw1 : IntKind.i64.wrap ((k : Int) + 1 - 1) = (k : Int) := by rw [IntKind.wrap_i64]; omega
    have hkk : n.kind = 2 ∨ (¬ n.kind = 2 ∧ (n.kind == 2) = false) := by
      rcases Classical.em (n.kind = 2) with e | e
      · exact .inl e
      · right; exact ⟨e, by simpa using e⟩
    generalize n.kind = kk at *
    clear h hnk hw hz hl g
    rcases hkk with rfl | ⟨h1, h2⟩
    · rw [if_pos rfl]
      go_enter Tryz.func88, Tryz.ntmps88
      go_wp2_with (go_at_call 37; refine hfd.mono ?_; rintro e w1 ⟨rfl, hB1⟩; have hck := HCK.out _ hB1)
      go_ret2
      exact ⟨rfl, hB1⟩
    · rw [if_neg h1]
      go_enter Tryz.func88, Tryz.ntmps88
      go_wp2_with (go_at_call 37; refine hfd.mono ?_; rintro e w1 ⟨rfl, hB1⟩; have hck := HCK.out _ hB1)
      go_ret2
      exact ⟨rfl, hB1⟩
  · rw [if_neg (fun e => hz e.1)]
    generalize PT.find t (PT.pp o s) = p at *
    obtain ⟨pa, pe⟩ := p
    dsimp only at *
    have hz1 : (pe == 0) = false := by simpa using hz
    clear h g
    go_enter Tryz.func88, Tryz.ntmps88
    go_wp2_with (go_at_call 37; refine hfd.mono ?_; rintro e w1 ⟨rfl, hB1⟩)
    go_ret2
    exact ⟨rfl, hB1⟩
set_option maxRecDepth 100000 in
set_option maxHeartbeats 8000000 in
theorem rmode_any (v : Value) (t : List PT.N) (s : ByteArray) (m : Int) (o : Bool) (w : World) (h : Ts w v t) (g : PT.Fine t) (hs : s.size ≤ 65535) : Calls Tryz.prog 48 #[v, .string s, .int .i64 m, .bool o] w fun e w' => ∃ v', e = .returned (.tuple #[v', .int .i64 (PT.mode t (PT.pp o s) m).2]) ∧ Ts w' v' (PT.mode t (PT.pp o s) m).1 ∧ Below w.heap.size w w' := by
  have hfd := rtfind_any v t s o w h g hs
  have hfine := PT.mode_fine g (PT.pp o s) m
  obtain ⟨b0, o0, c, rfl⟩ := h.nine g
  have h9 := g.len
  have H := Lib.hid h
  obtain ⟨R, hR⟩ : ∃ R, PT.mode t (PT.pp o s) m = R := ⟨_, rfl⟩
  rw [hR] at hfine ⊢
  rcases Classical.em ((PT.find t (PT.pp o s)).2 = 0) with hz | hz
  rotate_left
  · have HRV := Lib.hid (show R = (t, (PT.find t (PT.pp o s)).2) from by
      rw [← hR]
      cases hp : PT.pp o s with
      | none => rfl
      | some l =>
        rw [hp] at hz
        rw [PT.mode, if_pos (show (PT.walk t 0 l).2 ≠ 0 from hz)]
        rfl)
    generalize PT.find t (PT.pp o s) = p at *
    obtain ⟨pa, pe⟩ := p
    dsimp only at *
    have hz1 : (pe == 0) = false := by simpa using hz
    clear h g hR hfine
    go_enter Tryz.func48, Tryz.ntmps48
    go_wp2_with (go_at_call 37; refine hfd.mono ?_; rintro e w1 ⟨rfl, hB1⟩)
    go_ret2
    rw [HRV.out]
    exact ⟨_, rfl, H.out.below hB1, hB1⟩
  obtain ⟨l, hl⟩ : ∃ l, PT.pp o s = some l := by
    cases hp : PT.pp o s with
    | none => rw [hp] at hz; cases hz
    | some l => exact ⟨l, rfl⟩
  rw [hl] at hfd hz hR
  rw [show PT.find t (some l) = PT.walk t 0 l from rfl] at hfd hz
  obtain ⟨k, n, hw, hk9, hnk, hn0, _⟩ := g.walk_yes hz
  have hRv : R = (if m < 0 ∨ 255 < m then (t, 1) else (t.set k ⟨n.kind, m, n.body⟩, 0)) := by
    rw [← hR, PT.mode, if_neg (by rw [hz]; decide), hw]
    simp only [PT.px_succ, hnk]
  rw [hw] at hfd
  rw [show ((k + 1 : Nat) : Int) = (k : Int) + 1 by omega] at hfd
  dsimp only at hfd
  have hw1 : IntKind.i64.wrap ((k : Int) + 1 - 1) = (k : Int) := by rw [IntKind.wrap_i64]; omega
  by_cases hm : m < 0 ∨ 255 < m
  · have HRV := Lib.hid (show R = (t, 1) from by rw [hRv, if_pos hm])
    have hmm : decide (m < 0) = true ∨ (decide (m < 0) = false ∧ decide (255 < m) = true) := by
      rcases Classical.em (m < 0) with e | e
      · exact .inl (by simpa using e)
      · exact .inr ⟨by simpa using e, by simp; omega⟩
    clear h g hR hfine hRv hw hz hm hl hnk
    rcases hmm with h1 | ⟨h1, h2⟩
    all_goals
      go_enter Tryz.func48, Tryz.ntmps48
      go_wp2_with (go_at_call 37; refine hfd.mono ?_; rintro e w1 ⟨rfl, hB1⟩)
      go_ret2
      rw [HRV.out]
      exact ⟨_, rfl, H.out.below hB1, hB1⟩
  · have HRV := Lib.hid (show R = (t.set k ⟨n.kind, m, n.body⟩, 0) from by rw [hRv, if_neg hm])
    have h1 : decide (m < 0) = false := by simp; omega
    have h2 : decide (255 < m) = false := by simp; omega
    rw [HRV.out] at hfine
    have HFF := Lib.hid hfine.fit
    have HCK := Lib.hid (fun W hW => h.kindCell h9 hnk W hW)
    have HWT := Lib.hid (fun W (hW : Below w.heap.size w W) => with_ix _ t k ⟨n.kind, m, n.body⟩ W (H.out.below hW) (by rw [h9]; exact hk9))
    obtain ⟨kd, md, bd⟩ := n
    dsimp only at *
    clear h g hR hfine hRv hw hz hm hl hnk
    go_enter Tryz.func48, Tryz.ntmps48
    go_wp2_with (first | (go_at_call 37; refine hfd.mono ?_; rintro e w1 ⟨rfl, hB1⟩; obtain ⟨c0, c1, c2⟩ := HCK.out _ hB1; have hs1 := hB1.size) | (go_at_call 77; refine (HWT.out _ (hB1.alloc hs1 _)).mono ?_; rintro e w2 ⟨v2, rfl, hO2, hB2⟩))
    go_ret2
    rw [HRV.out]
    have hz2 : w.heap.size ≤ (w1.alloc (.cells #[.int .i64 kd, .int .i64 m, .string bd] 27)).heap.size := by simp; omega
    exact ⟨_, rfl, hO2.row HFF.out, (hB1.alloc hs1 _).trans (hB2.mono hz2)⟩
set_option maxRecDepth 100000 in
set_option maxHeartbeats 8000000 in
theorem rcut_any (v : Value) (t : List PT.N) (s : ByteArray) (z : Int) (o : Bool) (w : World) (h : Ts w v t) (g : PT.Fine t) (hs : s.size ≤ 65535) : Calls Tryz.prog 46 #[v, .string s, .int .i64 z, .bool o] w fun e w' => ∃ v', e = .returned (.tuple #[v', .int .i64 (PT.cut t (PT.pp o s) z).2]) ∧ Ts w' v' (PT.cut t (PT.pp o s) z).1 ∧ Below w.heap.size w w' := by
  have hfd := rfile_any v t s o w h g hs
  have hfine := PT.cut_fine g (PT.pp o s) z
  obtain ⟨b0, o0, c, rfl⟩ := h.nine g
  have h9 := g.len
  have H := Lib.hid h
  obtain ⟨R, hR⟩ : ∃ R, PT.cut t (PT.pp o s) z = R := ⟨_, rfl⟩
  rw [hR] at hfine ⊢
  rcases Classical.em ((PT.fileF t (PT.pp o s)).2 = 0) with hz | hz
  rotate_left
  · have HRV := Lib.hid (hR.symm.trans (PT.cut_no g hz z))
    generalize PT.fileF t (PT.pp o s) = p at *
    obtain ⟨pa, pe⟩ := p
    dsimp only at *
    have hz1 : (pe == 0) = false := by simpa using hz
    clear h g hR hfine
    have HFD := Lib.hid hfd
    clear hfd
    go_enter Tryz.func46, Tryz.ntmps46
    go_wp2_with (go_at_call 88; refine HFD.out.mono ?_; rintro e w1 ⟨rfl, hB1⟩)
    go_ret2
    rw [HRV.out]
    exact ⟨_, rfl, H.out.below hB1, hB1⟩
  obtain ⟨l, k, n, hl, hw, hff, hk9, hnk, hk1⟩ := g.file_yes hz
  rw [hff] at hfd
  dsimp only at hfd
  have HFD := Lib.hid hfd
  have hRv : R = (if z < 0 then (t, 1) else if 120 < z then (t, 8) else (t.set k ⟨n.kind, n.mode, PT.long n.body z.toNat⟩, 0)) := by
    rw [← hR, hl, PT.cut, if_neg (by rw [hw]; simp), hw]
    simp only [PT.px_succ, PT.kindAt_at hnk, hnk]
    rw [if_neg (by rw [hk1]; decide)]
  have hw1 : IntKind.i64.wrap ((k : Int) + 1 - 1) = (k : Int) := by rw [IntKind.wrap_i64]; omega
  by_cases h0 : z < 0
  · have HRV := Lib.hid (show R = (t, 1) from by rw [hRv, if_pos h0])
    clear h g hR hfine hRv hw hz hl hnk hfd hff
    go_enter Tryz.func46, Tryz.ntmps46
    go_wp2_with (go_at_call 88; refine HFD.out.mono ?_; rintro e w1 ⟨rfl, hB1⟩)
    go_ret2
    rw [HRV.out]
    exact ⟨_, rfl, H.out.below hB1, hB1⟩
  rw [if_neg h0] at hRv
  by_cases h8 : 120 < z
  · have HRV := Lib.hid (show R = (t, 8) from by rw [hRv, if_pos h8])
    clear h g hR hfine hRv hw hz hl hnk hfd hff
    go_enter Tryz.func46, Tryz.ntmps46
    go_wp2_with (go_at_call 88; refine HFD.out.mono ?_; rintro e w1 ⟨rfl, hB1⟩)
    go_ret2
    rw [HRV.out]
    exact ⟨_, rfl, H.out.below hB1, hB1⟩
  rw [if_neg h8] at hRv
  obtain ⟨zn, rfl⟩ : ∃ zn : Nat, z = (zn : Int) := ⟨z.toNat, by omega⟩
  rw [Int.toNat_natCast] at hRv
  have HRV := Lib.hid hRv
  rw [hRv] at hfine
  have HFF := Lib.hid hfine.fit
  have HCK := Lib.hid (fun W hW => h.kindCell h9 hnk W hW)
  have HLG := Lib.hid (fun W => long_any n.body zn W (by omega))
  have HWT := Lib.hid (fun W (hW : Below w.heap.size w W) => with_ix _ t k ⟨n.kind, n.mode, PT.long n.body zn⟩ W (H.out.below hW) (by rw [h9]; exact hk9))
  obtain ⟨kd, md, bd⟩ := n
  dsimp only at *
  generalize PT.long bd zn = nb at *
  clear h g hR hfine hRv hw hz hl hnk hfd hff hk1
  go_enter Tryz.func46, Tryz.ntmps46
  go_wp2_with (first
    | (go_at_call 88; refine HFD.out.mono ?_; rintro e w1 ⟨rfl, hB1⟩; obtain ⟨c0, c1, c2⟩ := HCK.out _ hB1; have hs1 := hB1.size; have hbx := Bx.new w1 27 #[.int .i64 kd, .int .i64 md, .string bd]; have hb1 := hB1.alloc hs1 (.cells #[.int .i64 kd, .int .i64 md, .string bd] 27); have hz1 : w.heap.size ≤ (w1.alloc (.cells #[.int .i64 kd, .int .i64 md, .string bd] 27)).heap.size := by simp; omega)
    | (go_at_call 89; refine (HLG.out _).mono ?_; rintro e w2 ⟨rfl, hB2⟩; have hx2 := hbx.on hB2; obtain ⟨d0, d1, d2⟩ := hx2.tri; have f2 := hx2.frozen 2; have hb2 := hb1.trans (hB2.mono hz1); have hz2 := Nat.le_trans hz1 hB2.size; clear hbx hx2)
    | (go_at_call 77; refine (HWT.out _ (hb2.setCell (p := ⟨w1.heap.size, 2, none⟩) hs1 _)).mono ?_; rintro e w3 ⟨v3, rfl, hO3, hB3⟩))
  go_ret2
  rw [HRV.out]
  have hz3 : w.heap.size ≤ (w2.setCell ⟨w1.heap.size, 2, none⟩ (.string nb)).heap.size := by simp; omega
  exact ⟨_, rfl, hO3.row HFF.out, (hb2.setCell (p := ⟨w1.heap.size, 2, none⟩) hs1 _).trans (hB3.mono hz3)⟩
theorem PT.over_nums (s x : ByteArray) (off : Nat) : (PT.longL (nums s) (max s.size (off + x.size))).take off ++ (nums x ++ (PT.longL (nums s) (max s.size (off + x.size))).drop (off + x.size)) = nums (PT.over s off x) := by
  rw [PT.over, nums_str]
  intro b hb
  rcases List.mem_append.1 hb with hb | hb
  · exact PT.longL_lt (nums_lt s) _ b (List.mem_of_mem_take hb)
  · rcases List.mem_append.1 hb with hb | hb
    · exact nums_lt x b hb
    · exact PT.longL_lt (nums_lt s) _ b (List.mem_of_mem_drop hb)
set_option maxRecDepth 100000 in
/-- '[]byte(long(b, N))', cut at on, a text copied into it, and a string again. -/
theorem written (w : World) (bd x : ByteArray) (on N : Nat) (hN : max bd.size (on + x.size) = N) (hx0 : ¬ x.size = 0) (hon : on ≤ 120 ∧ on + x.size ≤ 120) (hN1 : N ≤ 120) : ∃ W c, (∃ W1, (convert 9 30 (.string (PT.long bd N))).run Tryz.prog w = .ok (.slice (some ⟨w.heap.size, 0, none⟩) N c) W1 ∧ (∀ V, (Instr.slice 30 (.slice (some ⟨w.heap.size, 0, none⟩) N c) (some (.int .i64 (on : Int))) none none).run Tryz.prog V = .ok (.slice (some ⟨w.heap.size, on, none⟩) (N - on) (c - on)) V) ∧ (∀ ty, (Builtin.copy_ #[30, 9] ty #[.slice (some ⟨w.heap.size, on, none⟩) (N - on) (c - on), .string x]).run Tryz.prog W1 = .ok (.int .i64 (x.size : Int)) W)) ∧ (convert 30 9 (.slice (some ⟨w.heap.size, 0, none⟩) N c)).run Tryz.prog W = .ok (.string (PT.over bd on x)) W ∧ Below w.heap.size w W ∧ w.heap.size < W.heap.size := by
  obtain ⟨W1, c, hcv, hT, hfr, hB, hz, hc⟩ := to_bytes w (PT.long bd N) (by rw [PT.long_size]; omega)
  rw [PT.long_size] at hcv hT hfr hc
  have hnl : nums (PT.long bd N) = PT.longL (nums bd) N := nums_str _ (PT.longL_lt (nums_lt bd) N)
  rw [hnl] at hT
  have hcell : ∀ j : Nat, j < N → ∃ b, (PT.longL (nums bd) N)[j]? = some b ∧ W1.cell? ⟨w.heap.size, j, none⟩ = some (.int .u8 (b : Int)) := fun j hj => by
    have hjl : j < (PT.longL (nums bd) N).length := by rw [PT.longL_length]; exact hj
    obtain ⟨A', c', hv, _, hA⟩ := hT.1
    injection hv with q1 q2 q3
    obtain ⟨b0, o0, q4, _, hcc⟩ := hA (by omega)
    rw [← q1] at q4
    injection q4 with q4
    injection q4 with q5 q6
    subst q5 q6
    have := hcc j (by omega)
    rw [Nat.zero_add, List.getElem?_map, List.getElem?_eq_getElem hjl] at this
    exact ⟨_, List.getElem?_eq_getElem hjl, this⟩
  obtain ⟨W, hcp, hin, hout, hbel⟩ := copy_text W1 w.heap.size on (N - on) (c - on) x.size x (by omega) (fun j hj => by
    obtain ⟨b, _, h2⟩ := hcell (on + j) (by omega)
    rw [h2]; rfl) (fun j hj => hfr (on + j) (by omega))
  have hB2 := hB.trans (hbel w.heap.size (Nat.le_refl _))
  have hz2 := (hbel w.heap.size (Nat.le_refl _)).size
  refine ⟨W, c, ⟨W1, hcv, fun V => ?_, hcp⟩, ?_, hB2, by omega⟩
  · have hne : ¬ c = on := by omega
    have h1 : (Instr.slice 30 (.slice (some ⟨w.heap.size, 0, none⟩) N c) (some (.int .i64 (on : Int))) none none).run Tryz.prog V = .ok (.slice (if c = on then (some ⟨w.heap.size, 0, none⟩ : Option Addr) else (some ⟨w.heap.size, 0, none⟩ : Option Addr).map (·.add (on * 1))) (N - on) (c - on)) V := by
      rw [run_slice_l V 30 (some ⟨w.heap.size, 0, none⟩) N c (by kernel_rfl) .i64 (on : Int) (by omega) (by omega)]
      kernel_rfl
    rw [h1, if_neg hne]
    simp [Addr.add_lit]
  · have hT4 : Tx W (.slice (some ⟨w.heap.size, 0, none⟩) N c) (nums (PT.over bd on x)) := by
      have hos := PT.over_size bd x on
      refine Tx.of (by rw [nums_length, hos, hN]) (by omega) (nums_lt _) (by omega) fun j b hj => ?_
      rw [← PT.over_nums, hN] at hj
      have hll := PT.longL_length (nums bd) N
      rcases Nat.lt_or_ge j on with h1 | h1
      · rw [List.getElem?_append_left (by rw [List.length_take]; omega), List.getElem?_take, if_pos h1] at hj
        rw [hout j (.inl h1)]
        obtain ⟨b', h2, h3⟩ := hcell j (by omega)
        rw [h2] at hj
        injection hj with hj
        rw [h3, hj]
      · rw [List.getElem?_append_right (by rw [List.length_take]; omega), List.length_take, hll, Nat.min_eq_left (by omega)] at hj
        rcases Nat.lt_or_ge (j - on) x.size with h2 | h2
        · rw [List.getElem?_append_left (by rw [nums_length]; exact h2)] at hj
          have := hin (j - on) b h2 hj
          rw [show on + (j - on) = j by omega] at this
          exact this
        · rw [List.getElem?_append_right (by rw [nums_length]; exact h2), List.getElem?_drop, nums_length, show on + x.size + (j - on - x.size) = j by omega] at hj
          rw [hout j (.inr (by omega))]
          have hjN := (List.getElem?_eq_some_iff.1 hj).1
          rw [hll] at hjN
          obtain ⟨b', h3, h4⟩ := hcell j hjN
          rw [h3] at hj
          injection hj with hj
          rw [h4, hj]
    have := hT4.string
    rw [str_nums] at this
    exact this
set_option maxRecDepth 100000 in
set_option maxHeartbeats 8000000 in
theorem rwrite_any (v : Value) (t : List PT.N) (s : ByteArray) (off : Int) (x : ByteArray) (o : Bool) (w : World) (h : Ts w v t) (g : PT.Fine t) (hs : s.size ≤ 65535) (hx : x.size ≤ 1048576) : Calls Tryz.prog 39 #[v, .string s, .int .i64 off, .string x, .bool o] w fun e w' => ∃ v', e = .returned (.tuple #[v', .int .i64 (PT.write t (PT.pp o s) off x).2]) ∧ Ts w' v' (PT.write t (PT.pp o s) off x).1 ∧ Below w.heap.size w w' := by
  have hfd := rfile_any v t s o w h g hs
  have hfine := PT.write_fine g (PT.pp o s) off x
  obtain ⟨b0, o0, c, rfl⟩ := h.nine g
  have h9 := g.len
  have H := Lib.hid h
  obtain ⟨R, hR⟩ : ∃ R, PT.write t (PT.pp o s) off x = R := ⟨_, rfl⟩
  rw [hR] at hfine ⊢
  rcases Classical.em ((PT.fileF t (PT.pp o s)).2 = 0) with hz | hz
  rotate_left
  · have HRV := Lib.hid (hR.symm.trans (PT.write_no g hz off x))
    generalize PT.fileF t (PT.pp o s) = p at *
    obtain ⟨pa, pe⟩ := p
    dsimp only at *
    have hz1 : (pe == 0) = false := by simpa using hz
    clear h g hR hfine
    have HFD := Lib.hid hfd
    clear hfd
    go_enter Tryz.func39, Tryz.ntmps39
    go_wp2_with (go_at_call 88; refine HFD.out.mono ?_; rintro e w1 ⟨rfl, hB1⟩)
    go_ret2
    rw [HRV.out]
    exact ⟨_, rfl, H.out.below hB1, hB1⟩
  obtain ⟨l, k, n, hl, hw, hff, hk9, hnk, hk1⟩ := g.file_yes hz
  rw [hff] at hfd
  dsimp only at hfd
  have HFD := Lib.hid hfd
  have hbs : n.body.size ≤ 120 := by
    rcases g.shape k n hnk with rfl | ⟨_, _, _, h⟩
    · decide
    · exact h
  have hRv : R = (if off < 0 then (t, 1) else if 120 < off ∨ 120 - off < (x.size : Int) then (t, 8) else if x.size = 0 then (t, 0) else (t.set k ⟨n.kind, n.mode, PT.over n.body off.toNat x⟩, 0)) := by
    rw [← hR, hl, PT.write, if_neg (by rw [hw]; simp), hw]
    simp only [PT.px_succ, PT.kindAt_at hnk, hnk]
    rw [if_neg (by rw [hk1]; decide)]
  have hw1 : IntKind.i64.wrap ((k : Int) + 1 - 1) = (k : Int) := by rw [IntKind.wrap_i64]; omega
  obtain ⟨xs, hxs⟩ : ∃ xs, x.size = xs := ⟨_, rfl⟩
  by_cases h0 : off < 0
  · have HRV := Lib.hid (show R = (t, 1) from by rw [hRv, if_pos h0])
    clear h g hR hfine hRv hw hz hl hnk hfd hff hxs hk1 hbs
    go_enter Tryz.func39, Tryz.ntmps39
    go_wp2_with (go_at_call 88; refine HFD.out.mono ?_; rintro e w1 ⟨rfl, hB1⟩)
    go_ret2
    rw [HRV.out]
    exact ⟨_, rfl, H.out.below hB1, hB1⟩
  rw [if_neg h0] at hRv
  have hd0 : decide (off < 0) = false := by simpa using h0
  by_cases h8 : 120 < off ∨ 120 - off < (x.size : Int)
  · have HRV := Lib.hid (show R = (t, 8) from by rw [hRv, if_pos h8])
    have h8' : decide (120 < off) = true ∨ (decide (120 < off) = false ∧ IntKind.i64.wrap (120 - off) = 120 - off ∧ decide (120 - off < (x.size : Int)) = true) := by
      rcases Classical.em (120 < off) with e | e
      · exact .inl (by simpa using e)
      · right
        exact ⟨by simpa using e, by rw [IntKind.wrap_i64]; omega, by simp; omega⟩
    clear h g hR hfine hRv hw hz hl hnk hfd hff hxs hk1 hbs h8 h0
    rcases h8' with e1 | ⟨e1, e2, e3⟩
    all_goals
      go_enter Tryz.func39, Tryz.ntmps39
      go_wp2_with (go_at_call 88; refine HFD.out.mono ?_; rintro e w1 ⟨rfl, hB1⟩)
      go_ret2
      rw [HRV.out]
      exact ⟨_, rfl, H.out.below hB1, hB1⟩
  rw [if_neg h8] at hRv
  obtain ⟨on, rfl⟩ : ∃ on : Nat, off = (on : Int) := ⟨off.toNat, by omega⟩
  rw [Int.toNat_natCast] at hRv
  have hon : on ≤ 120 ∧ on + x.size ≤ 120 := by omega
  have e1 : decide (120 < (on : Int)) = false := by simp; omega
  have e2 : IntKind.i64.wrap (120 - (on : Int)) = 120 - (on : Int) := by rw [IntKind.wrap_i64]; omega
  have e3 : decide (120 - (on : Int) < (x.size : Int)) = false := by simp; omega
  by_cases hx0 : x.size = 0
  · have HRV := Lib.hid (show R = (t, 0) from by rw [hRv, if_pos hx0])
    have e4 : ((x.size : Int) == 0) = true := beq_iff_eq.2 (by omega)
    clear h g hR hfine hRv hw hz hl hnk hfd hff hxs hk1 hbs h8 h0 hx0
    go_enter Tryz.func39, Tryz.ntmps39
    go_wp2_with (go_at_call 88; refine HFD.out.mono ?_; rintro e w1 ⟨rfl, hB1⟩)
    go_ret2
    rw [HRV.out]
    exact ⟨_, rfl, H.out.below hB1, hB1⟩
  rw [if_neg hx0] at hRv
  have e4 : ((x.size : Int) == 0) = false := beq_eq_false_iff_ne.2 (by omega)
  have HRV := Lib.hid hRv
  rw [hRv] at hfine
  have HFF := Lib.hid hfine.fit
  have HCK := Lib.hid (fun W hW => h.kindCell h9 hnk W hW)
  obtain ⟨kd, md, bd⟩ := n
  dsimp only at *
  obtain ⟨N, hN⟩ : ∃ N, max bd.size (on + x.size) = N := ⟨_, rfl⟩
  have hNl : N ≤ 120 ∧ on + x.size ≤ N := by omega
  have hw2 : IntKind.i64.wrap ((on : Int) + (x.size : Int)) = (on : Int) + (x.size : Int) := by rw [IntKind.wrap_i64]; omega
  have HLG := Lib.hid (fun W => long_any bd N W (by omega))
  have HWT := Lib.hid (fun W (hW : Below w.heap.size w W) => with_ix _ t k ⟨kd, md, PT.over bd on x⟩ W (H.out.below hW) (by rw [h9]; exact hk9))
  have hmx : max (bd.size : Int) ((on : Int) + (x.size : Int)) = (N : Int) := by omega
  have HX := Lib.hid hx0
  have HN := Lib.hid hN
  clear h g hR hfine hRv hw hz hl hnk hfd hff hk1 hxs h0 h8 hx0 hN
  go_enter Tryz.func39, Tryz.ntmps39
  go_wp2_with (first
    | (go_at_call 88; refine HFD.out.mono ?_; rintro e w1 ⟨rfl, hB1⟩; obtain ⟨c0, c1, c2⟩ := HCK.out _ hB1; have hs1 := hB1.size; have hbx := Bx.new w1 27 #[.int .i64 kd, .int .i64 md, .string bd]; have hb1 := hB1.alloc hs1 (.cells #[.int .i64 kd, .int .i64 md, .string bd] 27); have hz1 : w.heap.size ≤ (w1.alloc (.cells #[.int .i64 kd, .int .i64 md, .string bd] 27)).heap.size := by simp; omega)
    | (go_at_call 89; refine (HLG.out _).mono ?_; rintro e w2 ⟨rfl, hB2⟩; obtain ⟨w4, c3, ⟨w3, hcv, hsl, hcp⟩, hst, hB4, hz4⟩ := written w2 bd x on N HN.out HX.out hon hNl.1; have hB24 := hB2.trans (hB4.mono hB2.size); have hx4 := hbx.on hB24; obtain ⟨d0, d1, d2⟩ := hx4.tri; have f2 := hx4.frozen 2; have hb4 := hb1.trans (hB24.mono hz1); have hz24 := Nat.le_trans hB2.size (Nat.le_of_lt hz4); clear hbx hx4 hB4 hB24)
    | (go_at_call 77; refine (HWT.out _ (hb4.setCell (p := ⟨w1.heap.size, 2, none⟩) hs1 _)).mono ?_; rintro e w5 ⟨v5, rfl, hO5, hB5⟩))
  go_ret2
  rw [HRV.out]
  have hz5 : w.heap.size ≤ (w4.setCell ⟨w1.heap.size, 2, none⟩ (.string (PT.over bd on x))).heap.size := by simp; omega
  exact ⟨_, rfl, hO5.row HFF.out, (hb4.setCell (p := ⟨w1.heap.size, 2, none⟩) hs1 _).trans (hB5.mono hz5)⟩

end Go.Proofs.YtdnobplhfbgbaaaGreatDoor
