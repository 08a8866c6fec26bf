/-
  Contract: glacislaw1.begun.
-/
import Derived.Test.YtgoggancldipcaaDl
import Derived.Deep.DeepCutAuto
namespace Go.Proofs.Ytgoggancldipcaa
open Go.RowKit

theorem blk_size (n : Int) : (blk n).size = 64 := by simp [blk, strOfNums, blkL, ByteArray.size]
theorem blank_size : blank.size = 64 := by decide +kernel

def d0 : D := ⟨[blank, blank, blank], [], 0, false⟩
def d1 : D := ⟨[blank, blank, blank], [(1, blk 3)], 0, false⟩
theorem new3 : M.new 3 = d0 := rfl
theorem write1 : M.write d0 1 (blk 3) = (d1, true) := by
  simp [M.write, M.can, hasB, d0, d1, blk_size, M.pushed]
theorem read1 : M.read d1 1 = (blk 3, true) := by
  simp [M.read, M.can, hasB, d1, M.get, M.waits]
theorem crash1 : M.read (M.crash d1 []) 1 = (blank, true) := by
  simp [M.read, M.can, hasB, d1, M.get, M.waits, M.crash, M.kept, M.lasting]
theorem crash2 : M.read (M.crash d1 [true]) 1 = (blk 3, true) := by
  simp [M.read, M.can, hasB, d1, M.get, M.waits, M.crash, M.kept, M.lasting, M.put]
theorem flush1 : M.flush d1 = (⟨[blank, blk 3, blank], [], 0, false⟩, true) := by
  simp [M.flush, hasB, d1, M.lasting, M.put]
theorem crash3 : M.crash d1 [true] = ⟨[blank, blk 3, blank], [], 0, false⟩ := by
  simp [hasB, d1, M.crash, M.kept, M.lasting, M.put]
theorem unlike : (blank.toList == (blk 3).toList) = false := by decide +kernel

theorem Sl_nil (w : World) : Sl w 1 (.slice none ([] : List Bool).length 0) ([] : List Bool).length (([] : List Bool).map Value.bool) := ⟨none, 0, rfl, rfl, fun h => absurd h (by simp)⟩

theorem Sl_made (W : World) (t : TypeId) (cs : List Value) (g n : Nat) (hg : g = W.heap.size) (hn : cs.length = n) : Sl (W.alloc (.cells cs.toArray t)) 1 (.slice (some ⟨g, 0, none⟩) n n) n cs := by
  subst hg hn
  refine ⟨_, _, rfl, by simp, fun _ => ⟨_, _, rfl, by simp, fun j hj => ?_⟩⟩
  rw [Nat.zero_add, (Bx.new W t cs.toArray).cell j]
  simp

/-- The contracts with the struct that is told written out, for a disk that is known. -/
theorem new_o (n : Int) (w : World) {l : List ByteArray} {wt : List (Int × ByteArray)} {arm : Int} {down : Bool} {n0 n1 : Nat} (hM : M.new n = ⟨l, wt, arm, down⟩) (h0 : l.length = n0) (h1 : wt.length = n1) :
    Calls Try.prog 9 #[.int .i64 n] w fun e w' => ∃ A c A1 c1, e = .returned (.agg #[.slice A n0 c, .slice A1 n1 c1, .int .i64 arm, .bool down]) ∧ IsD w' (.agg #[.slice A n0 c, .slice A1 n1 c1, .int .i64 arm, .bool down]) ⟨l, wt, arm, down⟩ ∧ Below w.heap.size w w' :=
  (new_any n w).mono fun e w' ⟨v, he, hD, hb⟩ => by
    rw [hM] at hD
    obtain ⟨A, c, A1, c1, rfl, _, _⟩ := hD.open_
    subst h0 h1
    exact ⟨A, c, A1, c1, he, hD, hb⟩
theorem write_o (v : Value) (d : D) (i : Int) (b : ByteArray) (w : World) (h : IsD w v d) (hl : d.last.length ≤ 65536) (hw : d.wait.length ≤ 60000) (ha0 : 0 ≤ d.arm) (ha : d.arm ≤ 65536)
    {l : List ByteArray} {wt : List (Int × ByteArray)} {arm : Int} {down : Bool} {n0 n1 : Nat} {r : Bool} (hM : M.write d i b = (⟨l, wt, arm, down⟩, r)) (h0 : l.length = n0) (h1 : wt.length = n1) :
    Calls Try.prog 17 #[v, .int .i64 i, .string b] w fun e w' => ∃ A c A1 c1, e = .returned (.tuple #[.agg #[.slice A n0 c, .slice A1 n1 c1, .int .i64 arm, .bool down], .bool r]) ∧
      IsD w' (.agg #[.slice A n0 c, .slice A1 n1 c1, .int .i64 arm, .bool down]) ⟨l, wt, arm, down⟩ ∧ Below w.heap.size w w' :=
  (write_any v d i b w h hl hw ha0 ha).mono fun e w' ⟨v, he, hD, hb⟩ => by
    rw [hM] at hD he
    obtain ⟨A, c, A1, c1, rfl, _, _⟩ := hD.open_
    subst h0 h1
    exact ⟨A, c, A1, c1, he, hD, hb⟩
theorem flush_o (v : Value) (d : D) (w : World) (h : IsD w v d) (hl : d.last.length ≤ 65536) (hw : d.wait.length ≤ 65536)
    {l : List ByteArray} {wt : List (Int × ByteArray)} {arm : Int} {down : Bool} {n0 n1 : Nat} {r : Bool} (hM : M.flush d = (⟨l, wt, arm, down⟩, r)) (h0 : l.length = n0) (h1 : wt.length = n1) :
    Calls Try.prog 11 #[v] w fun e w' => ∃ A c A1 c1, e = .returned (.tuple #[.agg #[.slice A n0 c, .slice A1 n1 c1, .int .i64 arm, .bool down], .bool r]) ∧
      IsD w' (.agg #[.slice A n0 c, .slice A1 n1 c1, .int .i64 arm, .bool down]) ⟨l, wt, arm, down⟩ ∧ Below w.heap.size w w' :=
  (flush_any v d w h hl hw).mono fun e w' ⟨v, he, hD, hb⟩ => by
    rw [hM] at hD he
    obtain ⟨A, c, A1, c1, rfl, _, _⟩ := hD.open_
    subst h0 h1
    exact ⟨A, c, A1, c1, he, hD, hb⟩
theorem crash_o (v : Value) (d : D) (A2 : Option Addr) (n2 c2 : Nat) (ks : List Bool) (w : World) (h : IsD w v d) (h2 : Sl w 1 (.slice A2 n2 c2) n2 (ks.map Value.bool)) (hl : d.last.length ≤ 65536) (hw : d.wait.length ≤ 65536) (hk : n2 ≤ 65536)
    {l : List ByteArray} {wt : List (Int × ByteArray)} {arm : Int} {down : Bool} {n0 n1 : Nat} (hM : M.crash d ks = ⟨l, wt, arm, down⟩) (h0 : l.length = n0) (h1 : wt.length = n1) (hn2 : ks.length = n2) :
    Calls Try.prog 13 #[v, .slice A2 n2 c2] w fun e w' => ∃ A c A1 c1, e = .returned (.agg #[.slice A n0 c, .slice A1 n1 c1, .int .i64 arm, .bool down]) ∧
      IsD w' (.agg #[.slice A n0 c, .slice A1 n1 c1, .int .i64 arm, .bool down]) ⟨l, wt, arm, down⟩ ∧ Below w.heap.size w w' := by
  subst hn2
  exact (crash_any v d A2 c2 ks w h h2 hl hw hk).mono fun e w' ⟨v, he, hD, hb⟩ => by
    rw [hM] at hD
    obtain ⟨A, c, A1, c1, rfl, _, _⟩ := hD.open_
    subst h0 h1
    exact ⟨A, c, A1, c1, he, hD, hb⟩
theorem read_o (v : Value) (d : D) (i : Int) (w : World) (h : IsD w v d) (hw : d.wait.length ≤ 65536) {s : ByteArray} {r : Bool} (hM : M.read d i = (s, r)) :
    Calls Try.prog 15 #[v, .int .i64 i] w fun e w' => e = .returned (.tuple #[.string s, .bool r]) ∧ Below w.heap.size w w' := by
  have := read_any v d i w h hw
  rw [hM] at this
  exact this

/-- One box of one's own, behind a call. -/
theorem one_box {w w1 : World} {t : TypeId} {cs : Array Value} (hb : Below (w.alloc (.cells cs t)).heap.size (w.alloc (.cells cs t)) w1) :
    Bx w1 w.heap.size t cs ∧ w.heap.size + 1 ≤ w1.heap.size ∧ Below w.heap.size w w1 := by
  have h1 := (Bx.new w t cs).below hb (by simp)
  refine ⟨h1, ?_, ?_⟩
  · have := hb.size; simp at this; omega
  · exact ((Below.refl _ w).alloc (Nat.le_refl _) _).trans (hb.mono (by simp))

/-- A slot points to a box that holds the disk. -/
def Holds (w wx : World) (d : D) (n0 n1 : Nat) (s : Value) : Prop :=
  ∃ g A c A1 c1, s = .pointer (some ⟨g, 0, none⟩) ∧ w.heap.size ≤ g ∧ Bx wx g 28 #[.slice A n0 c, .slice A1 n1 c1, .int .i64 d.arm, .bool d.down] ∧ IsD wx (.agg #[.slice A n0 c, .slice A1 n1 c1, .int .i64 d.arm, .bool d.down]) d ∧ Below w.heap.size w wx

/-- A box behind a struct that is stored into another one. -/
theorem Bx.far4 {w : World} {g h : Nat} {t : TypeId} {cs : Array Value} (hx : Bx w g t cs) (hne : g ≠ h) (a b c d : Value) :
    Bx ((((w.setCell ⟨h, 0, none⟩ a).setCell ⟨h, 1, none⟩ b).setCell ⟨h, 2, none⟩ c).setCell ⟨h, 3, none⟩ d) g t cs :=
  (((hx.far (p := ⟨h, 0, none⟩) hne a).far (p := ⟨h, 1, none⟩) hne b).far (p := ⟨h, 2, none⟩) hne c).far (p := ⟨h, 3, none⟩) hne d
theorem Bx.put4 {w : World} {g : Nat} {t : TypeId} {p q r s : Value} (hx : Bx w g t #[p, q, r, s]) (a b c d : Value) :
    Bx ((((w.setCell ⟨g, 0, none⟩ a).setCell ⟨g, 1, none⟩ b).setCell ⟨g, 2, none⟩ c).setCell ⟨g, 3, none⟩ d) g t #[a, b, c, d] := by
  have := (((hx.set 0 a).set 1 b).set 2 c).set 3 d
  simpa using this
theorem Bx.drew {w : World} {g : Nat} {t : TypeId} {cs : Array Value} (h : Bx w g t cs) : Bx w.drew g t cs := h
theorem Bx.c4 {w : World} {g : Nat} {t : TypeId} {p q r s : Value} (hx : Bx w g t #[p, q, r, s]) :
    w.cell? ⟨g, 0, none⟩ = some p ∧ w.cell? ⟨g, 1, none⟩ = some q ∧ w.cell? ⟨g, 2, none⟩ = some r ∧ w.cell? ⟨g, 3, none⟩ = some s := ⟨hx.cell 0, hx.cell 1, hx.cell 2, hx.cell 3⟩

/-- The contracts made in a world W that has come from w0. -/
theorem block_f (w0 : World) (n : Int) (hn0 : 0 ≤ n) (hn : n ≤ 255) (W : World) (hW : Below w0.heap.size w0 W) :
    Calls Try.prog 19 #[.int .u8 n] W fun e w' => e = .returned (.string (blk n)) ∧ Below W.heap.size W w' ∧ Below w0.heap.size w0 w' :=
  (block_any n hn0 hn W).mono fun _ _ ⟨he, hb⟩ => ⟨he, hb, hW.trans (hb.mono hW.size)⟩
theorem write_f (w0 : World) (v : Value) (d : D) (i : Int) (b : ByteArray) (W : World) (h : IsD w0 v d) (hl : d.last.length ≤ 65536) (hw : d.wait.length ≤ 60000) (ha0 : 0 ≤ d.arm) (ha : d.arm ≤ 65536)
    {l : List ByteArray} {wt : List (Int × ByteArray)} {arm : Int} {down : Bool} {n0 n1 : Nat} {r : Bool} (hM : M.write d i b = (⟨l, wt, arm, down⟩, r)) (h0 : l.length = n0) (h1 : wt.length = n1) (hW : Below w0.heap.size w0 W) :
    Calls Try.prog 17 #[v, .int .i64 i, .string b] W fun e w' => ∃ A c A1 c1, e = .returned (.tuple #[.agg #[.slice A n0 c, .slice A1 n1 c1, .int .i64 arm, .bool down], .bool r]) ∧
      IsD w' (.agg #[.slice A n0 c, .slice A1 n1 c1, .int .i64 arm, .bool down]) ⟨l, wt, arm, down⟩ ∧ Below W.heap.size W w' ∧ Below w0.heap.size w0 w' :=
  (write_o v d i b W (h.below hW) hl hw ha0 ha hM h0 h1).mono fun _ _ ⟨A, c, A1, c1, he, hD, hb⟩ => ⟨A, c, A1, c1, he, hD, hb, hW.trans (hb.mono hW.size)⟩

set_option maxRecDepth 100000 in
set_option maxHeartbeats 2000000 in
theorem begun_any (w : World) : Calls Try.prog 8 #[] w fun e w' => e = .returned (.bool true) ∧ Below w.heap.size w w' := by
  go_enter Try.func8, Try.ntmps8
  go_wp2_with fail
  refine (new_o 3 _ (l := [blank, blank, blank]) (wt := []) (arm := 0) (down := false) (n0 := 3) (n1 := 0) rfl rfl rfl).mono ?_
  rintro e w1 ⟨A, c, A1, c1, rfl, hD, hb1⟩
  go_upto_region 2 with fail
  have hD1 := hD.below (show Below w1.heap.size w1 (w1.alloc (.cells #[.slice A 3 c, .slice A1 0 c1, .int .i64 0, .bool false] 28)) from (Below.refl _ _).alloc (Nat.le_refl _) _)
  have hX1 := Bx.new w1 28 #[.slice A 3 c, .slice A1 0 c1, .int .i64 0, .bool false]
  have hs1 : w1.heap.size < (w1.alloc (.cells #[.slice A 3 c, .slice A1 0 c1, .int .i64 0, .bool false] 28)).heap.size := by simp
  have hW1 : Below w1.heap.size w1 (w1.alloc (.cells #[.slice A 3 c, .slice A1 0 c1, .int .i64 0, .bool false] 28)) := (Below.refl _ _).alloc (Nat.le_refl _) _
  obtain ⟨g, hg⟩ : ∃ g, g = w1.heap.size := ⟨_, rfl⟩
  have hgw : w1.heap.size ≤ g := by omega
  rw [← hg] at hX1 hs1 hW1 ⊢
  generalize w1.alloc (.cells #[.slice A 3 c, .slice A1 0 c1, .int .i64 0, .bool false] 28) = W at hD1 hX1 hs1 hW1 ⊢
  clear hD hg
  have hneW : g ≠ W.heap.size := by omega
  go_cut [2, 3] (fun s2 s3 wx => Holds w1 wx d1 3 1 s2 ∧ s3 = .bool true ∧ Bx wx g 28 #[.slice A 3 c, .slice A1 0 c1, .int .i64 0, .bool false])
  case first =>
    go_region_held3 (fun w' => w'.cell? ⟨g, 0, none⟩ = some (.slice A 3 c) ∧ w'.cell? ⟨g, 1, none⟩ = some (.slice A1 0 c1) ∧ w'.cell? ⟨g, 2, none⟩ = some (.int .i64 0) ∧ w'.cell? ⟨g, 3, none⟩ = some (.bool false))
      (first | (with_reducible exact hX1.drew.c4) | (with_reducible exact (hX1.alloc _).drew.c4) | (with_reducible exact hx2.c4) | (with_reducible exact (hx2.alloc _).c4) | (with_reducible exact hx3.c4) | (with_reducible exact (hx3.alloc _).c4) | (with_reducible exact (hx3.far4 hne2 _ _ _ _).c4) | (with_reducible exact (hx3.far4 hneW _ _ _ _).c4))
      (first
        | (go_at_call 19; refine (block_f W 3 (by decide) (by decide) _ ?_).mono ?_; (first | exact (Below.refl _ _).drew | exact ((Below.refl _ _).alloc (Nat.le_refl _) _).drew); rintro e w2 ⟨rfl, hc2, hb2⟩; (try (have hz2 : Bx w2 W.heap.size 28 z4 := (Bx.new W 28 z4).below (below_undrew hc2) (by simp))); have hne2 : g ≠ w2.heap.size := (by have := hb2.size; omega); have hx2 := hX1.below hb2 hs1)
        | (go_at_call 17; refine (write_f W _ d0 1 (blk 3) _ hD1 (by decide) (by decide) (by decide) (by decide) (l := [blank, blank, blank]) (wt := [(1, blk 3)]) (arm := 0) (down := false) (n0 := 3) (n1 := 1) (r := true) write1 rfl rfl ?_).mono ?_; (first | exact hb2 | exact hb2.alloc hb2.size _); rintro e w3 ⟨A', c', A1', c1', rfl, hD3, hc3, hb3⟩; (try (have hz3 : Bx w3 W.heap.size 28 z4 := hz2.below hc3 hz2.lt; have hz4 := hz3.four; obtain ⟨z0, z1, z2, z3, y0, y1, y2, y3⟩ := hz4)); (try (have hz3 : Bx w3 w2.heap.size 28 z4 := (Bx.new w2 28 z4).below hc3 (by simp); have hz4 := hz3.four; obtain ⟨z0, z1, z2, z3, y0, y1, y2, y3⟩ := hz4)); have hne3 : g ≠ w3.heap.size := (by have := hb3.size; omega); have hx3 := hX1.below hb3 hs1))
    all_goals go_wp2_with fail
    all_goals go_meet
    · have hbz := (hW1.mono hgw).trans (hb3.mono (by omega))
      exact ⟨⟨_, A', c', A1', c1', rfl, hbz.size, Bx.new w3 28 _, hD3.alloc _, hbz.alloc hbz.size _⟩, rfl, hx3.alloc _⟩
    · have hbz := (hW1.mono hgw).trans (hb3.mono (by omega))
      have hz2 : w1.heap.size ≤ w2.heap.size := by have := hb2.size; omega
      exact ⟨⟨_, A', c', A1', c1', rfl, hz2, hz3.put4 _ _ _ _, hD3.far4 hz3 _ _ _ _, below_set4 hbz hz2 _ _ _ _⟩, rfl, hx3.far4 hne2 _ _ _ _⟩
    · have hbz := (hW1.mono hgw).trans (hb3.mono (by omega))
      have hz2' : w1.heap.size ≤ W.heap.size := by omega
      exact ⟨⟨_, A', c', A1', c1', rfl, hz2', hz3.put4 _ _ _ _, hD3.far4 hz3 _ _ _ _, below_set4 hbz hz2' _ _ _ _⟩, rfl, hx3.far4 hneW _ _ _ _⟩
  case rest =>
    obtain ⟨⟨gx, A, c, A1, c1, rfl, hgx, hX, hDx, hbx⟩, rfl, hG⟩ := hcut
    simp only [d1] at hX hDx
    have hlx := hX.lt
    have hlg := hG.lt
    have hbw : Below w.heap.size w wc := hb1.trans (hbx.mono hb1.size)
    obtain ⟨x0, x1, x2, x3, _, _, _, _⟩ := hX.four
    go_wp2_with fail
    refine (read_o _ d1 1 _ hDx (by decide) read1).mono ?_
    rintro e w2 ⟨rfl, hb2⟩
    have hX2 := hX.below hb2 hlx
    have hG2 := hG.below hb2 hlg
    have hbw2 := hbw.trans (hb2.mono hbw.size)
    have hD2 := hDx.below hb2
    clear x0 x1 x2 x3
    obtain ⟨x0, x1, x2, x3, _, _, _, _⟩ := hX2.four
    go_wp2_with fail
    refine (crash_o _ d1 none 0 0 [] _ hD2 (Sl_nil _) (by decide) (by decide) (by decide) (l := [blank, blank, blank]) (wt := []) (arm := 0) (down := false) (n0 := 3) (n1 := 0) rfl rfl rfl rfl).mono ?_
    rintro e w3 ⟨A3, c3, A13, c13, rfl, hD3, hb3⟩
    have hX3 := hX2.below hb3 hX2.lt
    have hG3 := hG2.below hb3 hG2.lt
    have hbw3 := hbw2.trans (hb3.mono hbw2.size)
    have hDx3 := hD2.below hb3
    go_wp2_with fail
    refine (read_o _ (M.crash d1 []) 1 _ hD3 (by decide) crash1).mono ?_
    rintro e w4 ⟨rfl, hb4⟩
    have hX4 := hX3.below hb4 hX3.lt
    have hG4 := hG3.below hb4 hG3.lt
    have hbw4 := hbw3.trans (hb4.mono hbw3.size)
    have hDx4 := hDx3.below hb4
    clear x0 x1 x2 x3
    obtain ⟨x0, x1, x2, x3, _, _, _, _⟩ := hX4.four
    go_wp2_with fail
    refine (flush_o _ d1 _ hDx4 (by decide) (by decide) flush1 (n0 := 3) (n1 := 0) rfl rfl).mono ?_
    rintro e w5 ⟨A5, c5, A15, c15, rfl, hD5, hb5⟩
    have hX5 := hX4.below hb5 hX4.lt
    have hG5 := hG4.below hb5 hG4.lt
    have hbw5 := hbw4.trans (hb5.mono hbw4.size)
    have hDx5 := hDx4.below hb5
    clear x0 x1 x2 x3
    have hl5 := hX5.lt
    obtain ⟨x0, x1, x2, x3, _, _, _, _⟩ := hX5.four
    go_wp2_with fail
    refine (crash_o _ d1 _ 1 1 [true] _ ((hDx5.alloc _).alloc _) (Sl_made _ 4 [.bool true] _ 1 (by simp) rfl) (by decide) (by decide) (by decide) (l := [blank, blk 3, blank]) (wt := []) (arm := 0) (down := false) (n0 := 3) (n1 := 0) crash3 rfl rfl rfl).mono ?_
    rintro e w6 ⟨A6, c6, A16, c16, rfl, hD6, hb6⟩
    have hZ6 := ((Bx.new w5 28 #[.slice A5 3 c5, .slice A15 0 c15, .int .i64 0, .bool false]).alloc (.cells #[.bool true] 4)).below hb6 (by simp; omega)
    have hG6 := ((hG5.alloc (.cells #[.slice A5 3 c5, .slice A15 0 c15, .int .i64 0, .bool false] 28)).alloc (.cells #[.bool true] 4)).below hb6 (by have := hG5.lt; simp; omega)
    have hbw6 := (((hbw5.alloc hbw5.size (.cells #[.slice A5 3 c5, .slice A15 0 c15, .int .i64 0, .bool false] 28)).alloc (by have := hbw5.size; simp; omega) (.cells #[.bool true] 4))).trans (hb6.mono (by have := hbw5.size; simp; omega))
    go_wp2_with fail
    refine (read_o _ (M.crash d1 [true]) 1 _ (by rw [crash3]; exact hD6) (by decide) crash2).mono ?_
    rintro e w7 ⟨rfl, hb7⟩
    have hZ7 := hZ6.below hb7 hZ6.lt
    have hG7 := hG6.below hb7 hG6.lt
    have hbw7 := hbw6.trans (hb7.mono hbw6.size)
    clear x0 x1 x2 x3
    obtain ⟨x0, x1, x2, x3, _, _, _, _⟩ := hG7.four
    go_wp2_with fail
    refine (block_any 3 (by decide) (by decide) _).mono ?_
    rintro e w8 ⟨rfl, hb8⟩
    have hZ8 := hZ7.below hb8 hZ7.lt
    have hbw8 := hbw7.trans (hb8.mono hbw7.size)
    obtain ⟨z0, z1, z2, z3, _, _, _, _⟩ := hZ8.four
    have u1 := unlike
    have u2 : ((blank.size : Int) == 64) = true := by rw [blank_size]; rfl
    go_wp2
    go_ret
    exact ⟨rfl, hbw8⟩

def zeros64 : Array Value := madeCells #[.int .u8 0] 64
theorem make64 (w : World) : (Instr.makeSlice 45 (.int .i64 64) (.int .i64 64)).run Try.prog w = .ok (.slice (some ⟨w.heap.size, 0, none⟩) 64 64) (w.alloc (.cells zeros64 5)) := by
  obtain ⟨i0, hi, hz0, hz1, hz2⟩ := info_parts Try.info5
  have h := run_make (P := Try.prog) w 45 5 i0 (.int .u8 0) Try.underlying45 hi hz0 .i64 .i64 64 64 (by decide) (by decide) (by rw [hz2]; decide) (by decide)
  rw [hz1] at h
  exact h
theorem conv64 (w : World) : (convert 45 9 (.slice (some ⟨w.heap.size, 0, none⟩) 64 64)).run Try.prog (w.alloc (.cells zeros64 5)) = .ok (.string blank) (w.alloc (.cells zeros64 5)) :=
  run_convert_bytes_arg _ 45 5 Try.underlying45 Try.underlying5 w.heap.size 0 64 64 (List.replicate 64 0) (by simp) (fun i hi => by
      rw [Nat.zero_add, (Bx.new w 5 zeros64).cell i, ← Array.getElem?_toList]
      unfold zeros64
      rw [toList_madeCells_one]
      exact rep_at _ (Value.int .u8) rfl 64 i hi) 9 Try.underlying9

theorem field28 (A : Option Addr) (n c : Nat) (b : Value) (w : World) : (Instr.field 28 (.agg #[.slice A n c, b, .int .i64 0, .bool false]) 0).run Try.prog w = .ok (.slice A n c) w := by kernel_rfl

/-- Box g holds the disk d; of what was there when w0 was nothing has turned. -/
def HoldsAt (w0 wx : World) (g : Nat) (d : D) (n0 n1 : Nat) : Prop :=
  ∃ A c A1 c1, Bx wx g 28 #[.slice A n0 c, .slice A1 n1 c1, .int .i64 d.arm, .bool d.down] ∧ IsD wx (.agg #[.slice A n0 c, .slice A1 n1 c1, .int .i64 d.arm, .bool d.down]) d ∧ Below w0.heap.size w0 wx

end Go.Proofs.Ytgoggancldipcaa
