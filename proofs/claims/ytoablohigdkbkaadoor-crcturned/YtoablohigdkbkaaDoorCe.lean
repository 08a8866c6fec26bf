/-
  Texts and rows of texts that the call lays itself; the contract of glacislaw2.begun.
-/
import Derived.Test.YtoablohigdkbkaaDoorCc
import Derived.Lib.SmallJoins
namespace Go.Proofs.YtoablohigdkbkaaDoor
open Go.RowKit Go.Joins

theorem conv22 (w : World) (C : Array Value) (n c g : Nat) (hg : g = w.heap.size) : (convert 22 22 (.slice (some ⟨g, 0, none⟩) n c)).run Tryd.prog (w.alloc (.cells C 5)) = .ok (.slice (some ⟨g, 0, none⟩) n c) (w.alloc (.cells C 5 (C.size, C.size + 1))) :=
  run_convert_bytes_const_at w 22 5 C n c g hg Tryd.underlying22 Tryd.underlying5

theorem Tx.nil (w : World) : Tx w (.slice none 0 0) [] := ⟨⟨none, 0, rfl, rfl, fun h => absurd h (by decide)⟩, by simp, by decide⟩

theorem Sl.new (w : World) (cs : Array Value) (t : TypeId) (fr : Nat × Nat) (n c g : Nat) (hg : g = w.heap.size) (h : cs.size = n) : Sl (w.alloc (.cells cs t fr)) 1 (.slice (some ⟨g, 0, none⟩) n c) n cs.toList := by
  refine ⟨_, _, rfl, by simpa using h, fun _ => ⟨_, 0, rfl, by simp [hg], fun j _ => ?_⟩⟩
  rw [Nat.zero_add, cell_alloc_mark_at w cs t fr g j hg]
  simp

theorem Tx.new (w : World) (cs : Array Value) (fr : Nat × Nat) (n c g : Nat) (hg : g = w.heap.size) (bs : List Nat) (hc : cs.toList = bs.map bv) (hn : bs.length = n) (hb : ∀ b ∈ bs, b < 256) (hm : n < 4294967296) : Tx (w.alloc (.cells cs 5 fr)) (.slice (some ⟨g, 0, none⟩) n c) bs := by
  subst hn
  refine ⟨?_, hb, hm⟩
  rw [← hc]
  refine Sl.new w cs 5 fr _ c g hg ?_
  rw [← Array.length_toList, hc, List.length_map]

theorem al (w : World) (o : Obj) : Below w.heap.size w (w.alloc o) := (Below.refl _ _).alloc (Nat.le_refl _) _
theorem Tab.alloc {w : World} (h : Tab w) (o : Obj) : Tab (w.alloc o) := h.below (al _ _)
theorem Tx.alloc {w : World} {v : Value} {bs : List Nat} (h : Tx w v bs) (o : Obj) : Tx (w.alloc o) v bs := h.below (al _ _)
theorem Ls.nil (w : World) : Ls w (.slice none 0 0) [] := ⟨[], ⟨none, 0, rfl, rfl, fun h => absurd h (by decide)⟩, fun k t hk => by simp at hk, by decide⟩

/-- A row of one text, of two, of three, of four. -/
theorem Ls.new1 {w : World} {g : Nat} (hg : g = w.heap.size) {u0 : Value} {t0 : List Nat} (h0 : Tx w u0 t0) : Ls (w.alloc (.cells #[u0] 22)) (.slice (some ⟨g, 0, none⟩) 1 1) [t0] := by
  refine ⟨_, Sl.new w #[u0] 22 _ 1 1 g hg rfl, fun k t hk => ?_, by simp⟩
  rcases k with _ | k
  · cases hk; exact ⟨_, rfl, h0.below (al _ _)⟩
  · simp at hk
theorem Ls.new2 {w : World} {g : Nat} (hg : g = w.heap.size) {u0 u1 : Value} {t0 t1 : List Nat} (h0 : Tx w u0 t0) (h1 : Tx w u1 t1) : Ls (w.alloc (.cells #[u0, u1] 22)) (.slice (some ⟨g, 0, none⟩) 2 2) [t0, t1] := by
  refine ⟨_, Sl.new w #[u0, u1] 22 _ 2 2 g hg rfl, fun k t hk => ?_, by simp⟩
  rcases k with _ | _ | k
  · cases hk; exact ⟨_, rfl, h0.below (al _ _)⟩
  · cases hk; exact ⟨_, rfl, h1.below (al _ _)⟩
  · simp at hk
theorem Ls.new3 {w : World} {g : Nat} (hg : g = w.heap.size) {u0 u1 u2 : Value} {t0 t1 t2 : List Nat} (h0 : Tx w u0 t0) (h1 : Tx w u1 t1) (h2 : Tx w u2 t2) : Ls (w.alloc (.cells #[u0, u1, u2] 22)) (.slice (some ⟨g, 0, none⟩) 3 3) [t0, t1, t2] := by
  refine ⟨_, Sl.new w #[u0, u1, u2] 22 _ 3 3 g hg rfl, fun k t hk => ?_, by simp⟩
  rcases k with _ | _ | _ | k
  · cases hk; exact ⟨_, rfl, h0.below (al _ _)⟩
  · cases hk; exact ⟨_, rfl, h1.below (al _ _)⟩
  · cases hk; exact ⟨_, rfl, h2.below (al _ _)⟩
  · simp at hk
theorem Ls.new4 {w : World} {g : Nat} (hg : g = w.heap.size) {u0 u1 u2 u3 : Value} {t0 t1 t2 t3 : List Nat} (h0 : Tx w u0 t0) (h1 : Tx w u1 t1) (h2 : Tx w u2 t2) (h3 : Tx w u3 t3) : Ls (w.alloc (.cells #[u0, u1, u2, u3] 22)) (.slice (some ⟨g, 0, none⟩) 4 4) [t0, t1, t2, t3] := by
  refine ⟨_, Sl.new w #[u0, u1, u2, u3] 22 _ 4 4 g hg rfl, fun k t hk => ?_, by simp⟩
  rcases k with _ | _ | _ | _ | k
  · cases hk; exact ⟨_, rfl, h0.below (al _ _)⟩
  · cases hk; exact ⟨_, rfl, h1.below (al _ _)⟩
  · cases hk; exact ⟨_, rfl, h2.below (al _ _)⟩
  · cases hk; exact ⟨_, rfl, h3.below (al _ _)⟩
  · simp at hk

set_option maxHeartbeats 4000000 in
theorem begun_any (w : World) (hT : Tab w) :
    Calls Tryd.prog 8 #[] w fun e w' => e = .returned (.bool true) ∧ Below w.heap.size w w' := by
  have s1 : PlainCrc.sum [49, 50, 51, 52, 53, 54, 55, 56, 57] = 3808858755 := by kernel_rfl
  have s0 : PlainCrc.sum [] = 0 := by kernel_rfl
  have hcv := conv22
  have hb0 := Below.refl w.heap.size w
  go_enter Tryd.func8, Tryd.ntmps8
  go_wp2_with fail
  refine (sum_any _ [[49, 50, 51, 52, 53, 54, 55, 56, 57]] _ ((hT.alloc _).alloc _) (Ls.new1 (by simp) (Tx.new w _ _ 9 9 _ rfl _ rfl rfl (by decide) (by decide)))).mono ?_
  rintro e w1 ⟨rfl, hw1⟩
  have hT1 := (hT.alloc (.cells #[.int .u8 49, .int .u8 50, .int .u8 51, .int .u8 52, .int .u8 53, .int .u8 54, .int .u8 55, .int .u8 56, .int .u8 57] 5 (9, 10))).alloc (.cells #[.slice (some ⟨w.heap.size, 0, none⟩) 9 9] 22)
  have hb1 := (hb0.alloc (Nat.le_refl _) (.cells #[.int .u8 49, .int .u8 50, .int .u8 51, .int .u8 52, .int .u8 53, .int .u8 54, .int .u8 55, .int .u8 56, .int .u8 57] 5 (9, 10))).alloc (by simp) (.cells #[.slice (some ⟨w.heap.size, 0, none⟩) 9 9] 22)
  simp only [List.flatten_cons, List.flatten_nil, List.append_nil, s1]
  replace hT1 : Tab w1 := by rw [← hw1]; exact hT1
  replace hb1 : Below w.heap.size w w1 := by rw [← hw1]; exact hb1
  clear hw1 hb0
  go_wp2_with fail
  refine (sum_any _ [] _ hT1 (Ls.nil _)).mono ?_
  rintro e w2 ⟨rfl, rfl⟩
  simp only [List.flatten_nil, s0]
  go_wp2_with fail
  refine (sum_any _ [[49, 50, 51, 52], [53, 54, 55, 56, 57]] _ (((hT1.alloc _).alloc _).alloc _) (Ls.new2 (by simp) ((Tx.new w1 _ _ 4 4 _ rfl _ rfl rfl (by decide) (by decide)).alloc _) (Tx.new _ _ _ 5 5 _ (by simp) _ rfl rfl (by decide) (by decide)))).mono ?_
  rintro e w2 ⟨rfl, hw2⟩
  have hs1 := hb1.size
  have hb2 : Below w.heap.size w w2 := by
    rw [← hw2]
    exact ((hb1.alloc hs1 _).alloc (by simp; omega) _).alloc (by simp; omega) _
  clear hw2
  simp only [List.flatten_cons, List.flatten_nil, List.append_nil, List.cons_append, List.nil_append, s1]
  go_wp2
  go_ret
  exact ⟨rfl, hb2⟩
end Go.Proofs.YtoablohigdkbkaaDoor
