/-
  Contract of the document's answer: New.
-/
import Derived.Test.YtgoggancldipcaaEe
import Derived.Deep.RegionLaw
import Derived.Deep.AppendLies
namespace Go.Proofs.Ytgoggancldipcaa
open Go.RowKit

theorem noughts_f (w0 : World) (W : World) (hW : Below w0.heap.size w0 W) :
    Calls Try.prog 22 #[] W fun e w' => e = .returned (.string blank) ∧ Below w0.heap.size w0 w' :=
  (noughts_any W).mono fun _ _ ⟨he, hb⟩ => ⟨he, hW.trans (hb.mono hW.size)⟩

theorem one_news (w : World) (t : TypeId) (u : Value) : ∀ j v, [u][j]? = some v → (w.alloc (.cells #[u] t)).cell? ((⟨w.heap.size, 0, none⟩ : Addr).add j) = some v := by
  intro j v hj
  rw [Addr.add_lit, Nat.zero_add, (Bx.new w t #[u]).cell j, ← hj]
  simp

theorem new_field {w : World} {g : Nat} {t : TypeId} {p q r u : Value} (hx : Bx w g t #[p, q, r, u]) (a : Value) : Bx (w.setCell ⟨g, 0, none⟩ a) g t #[a, q, r, u] := by
  simpa using hx.set 0 a
theorem rep_snoc (k : Nat) : (List.replicate (k + 1) blank).map Value.string = (List.replicate k blank).map Value.string ++ [.string blank] := by
  rw [List.replicate_succ', List.map_append]
  rfl

set_option maxHeartbeats 2000000
theorem rnew_out (n : Int) (w : World) (h : n < 1 ∨ 770 < n) :
    Calls Try.prog 10 #[.int .i64 n] w fun e w' => ∃ v, e = .returned v ∧ IsD w' v (M.new n) ∧ Below w.heap.size w w' := by
  rw [new_none n h]
  have hbw := ((Below.refl _ w).alloc (Nat.le_refl _) (.cells z4 28)).alloc (by simp) (.cells z4 28)
  rcases h with h | h
  · have h1 : decide ((0 : Int) < n) = false := by simp; omega
    go_enter Try.func10, Try.ntmps10
    go_wp2
    go_loopw [4] (fun s wr => s = .int .i64 0 ∧ wr = (w.alloc (.cells z4 28)).alloc (.cells z4 28)) (fun _ _ => 0)
    case atStart => exact ⟨rfl, rfl⟩
    case round =>
      obtain ⟨rfl, rfl⟩ := hrel
      go_wp2
      exact bodyPost_ret (v := .agg #[.slice none 0 0, .slice none 0 0, .int .i64 0, .bool false]) (by simp [results, Try.results10, go_sem]) rfl ⟨_, rfl, IsD_empty _, hbw⟩
  · have h1 : decide ((0 : Int) < n) = true := by simp; omega
    have h2 : decide (n ≤ 770) = false := by simp; omega
    go_enter Try.func10, Try.ntmps10
    go_wp2
    go_loopw [4] (fun s wr => s = .int .i64 0 ∧ wr = (w.alloc (.cells z4 28)).alloc (.cells z4 28)) (fun _ _ => 0)
    case atStart => exact ⟨rfl, rfl⟩
    case round =>
      obtain ⟨rfl, rfl⟩ := hrel
      go_wp2
      exact bodyPost_ret (v := .agg #[.slice none 0 0, .slice none 0 0, .int .i64 0, .bool false]) (by simp [results, Try.results10, go_sem]) rfl ⟨_, rfl, IsD_empty _, hbw⟩

theorem rnew_in (n : Nat) (w : World) (h1 : 1 ≤ n) (h2 : n ≤ 770) :
    Calls Try.prog 10 #[.int .i64 n] w fun e w' => ∃ v, e = .returned v ∧ IsD w' v (M.new n) ∧ Below w.heap.size w w' := by
  obtain ⟨i0, hi, hz0, hz1, hz2⟩ := info_parts Try.info9
  have h2' : decide ((n : Int) ≤ 770) = true := by simp; omega
  have hnew : M.new n = ⟨List.replicate n blank, [], 0, false⟩ := (good_new n h1 h2).1
  have HN := Lib.hid hnew
  clear hnew
  go_enter Try.func10, Try.ntmps10
  go_wp2
  have hbw := ((Below.refl _ w).alloc (Nat.le_refl _) (.cells z4 28)).alloc (by simp) (.cells z4 28)
  have hR := (Bx.new w 28 z4).alloc (.cells z4 28)
  have hX := Bx.new (w.alloc (.cells z4 28)) 28 z4
  rw [World.size_alloc] at hX
  have hs : w.heap.size + 2 ≤ ((w.alloc (.cells z4 28)).alloc (.cells z4 28)).heap.size := by simp
  go_loopw [4] (fun s wr => ∃ k : Nat, k ≤ n ∧ s = .int .i64 k ∧ ∃ A c, Bx wr (w.heap.size + 1) 28 #[.slice A k c, .slice none 0 0, .int .i64 0, .bool false] ∧ wr.ownsRow (w.heap.size + 2) 9 1 (.slice A k c) k ((List.replicate k blank).map Value.string) ∧ Bx wr w.heap.size 28 z4 ∧ w.heap.size + 2 ≤ wr.heap.size ∧ Below w.heap.size w wr) (fun s _ => n - (intOf s).toNat)
  case atStart => exact ⟨0, by omega, rfl, none, 0, hX, World.ownsRow_nil _ _ _ _, hR, hs, hbw⟩
  case round =>
    clear hX hR hbw hs
    obtain ⟨k, hk, rfl, A, c, hX, hok, hR, hs, hbW⟩ := hrel
    by_cases hlt : k < n
    · have i1 : (k : Int) < (n : Int) := by omega
      obtain ⟨x0, x1, x2, x3, y0, y1, y2, y3⟩ := hX.four
      have hlX := hX.lt
      have hlR := hR.lt
      go_wp2_with fail
      go_region_law (first
        | (refine step_append_lies _ (by rfl) _ _ _ (by rfl) (w.heap.size + 2) 9 i0 (.string { data := #[] }) 1 16 Try.underlying25 hi hz0 hz1 hz2 rfl (by omega) (.slice A k c) k ((List.replicate k blank).map Value.string) (by rfl) (ho2.alloc _) ⟨w2.heap.size, 0, none⟩ 1 1 [.string blank] (by rfl) (by rfl) (one_news w2 9 _) (by simp [Value.oneCell']) (by omega) (by unfold maxLen; omega) (by omega) (by simp; omega) (w2.heap.size + 1) (by simp) ?_; intro gg cap w3 hown3 hgrow hat hlt3; have hX3 := (hX2.alloc (.cells #[.string blank] 9)).grown hgrow (own_bx_ne (ho2.alloc _) (hX2.alloc (.cells #[.string blank] 9)) (by decide)); have hR3 := (hR2.alloc (.cells #[.string blank] 9)).grown hgrow (own_bx_ne (ho2.alloc _) (hR2.alloc (.cells #[.string blank] 9)) (by decide)); have hf3 := hX3.four; obtain ⟨p0, p1, p2, p3, t0, t1, t2, t3⟩ := hf3)
        | (go_simp; go_at_call 22; refine (noughts_f wr _ ?_).mono ?_; exact (Below.refl _ _).drew; rintro e w2 ⟨rfl, hb2⟩; have hX2 := hX.below hb2 hlX; have hR2 := hR.below hb2 hlR; have ho2 := own_below hok hb2; have hs2 : w.heap.size + 2 ≤ w2.heap.size := (by have := hb2.size; omega); have hl2 : w.heap.size + 1 < w2.heap.size := (by omega); have hf2 := hX2.four; obtain ⟨q0, q1, q2, q3, _, _, _, _⟩ := hf2))
      all_goals go_wp2_with fail
      all_goals go_roundw
      all_goals try (simp [intOf]; omega; done)
      all_goals
         ((have hbw3 := ((hbW.trans (hb2.mono hbW.size)).alloc (by omega) (.cells #[.string blank] 9)).grown hgrow (by simp; omega) (fun q hq => by have := (ho2.lt q hq).1; omega)
           exact ⟨k + 1, by omega, by go_num, _, _, new_field hX3 _, by rw [rep_snoc]; exact ownsRow_setCell_below hown3 (a := ⟨w.heap.size + 1, 0, none⟩) (by show w.heap.size + 1 < _; omega) _, hR3.far (p := ⟨w.heap.size + 1, 0, none⟩) (by show w.heap.size ≠ w.heap.size + 1; omega) _, by have := hgrow.size; simp at this; simp; omega, hbw3.setCell (p := ⟨w.heap.size + 1, 0, none⟩) (by show w.heap.size ≤ w.heap.size + 1; omega) _⟩))
    · have hkn : k = n := by omega
      subst hkn
      have i1 : decide ((k : Int) < (k : Int)) = false := by simp
      obtain ⟨x0, x1, x2, x3, y0, y1, y2, y3⟩ := hX.four
      obtain ⟨r0, r1', r2, r3, s0, s1, s2, s3⟩ := hR.four
      go_wp2
      refine bodyPost_ret (v := .agg #[.slice A k c, .slice none 0 0, .int .i64 0, .bool false]) (by simp [results, Try.results10, go_sem, r0, r1', r2, r3]) rfl ⟨_, rfl, ?_, ?_⟩
      · rw [HN.out]
        have hI : IsD wr (.agg #[.slice A k c, .slice none 0 0, .int .i64 0, .bool false]) ⟨List.replicate k blank, [], 0, false⟩ := ⟨_, _, rfl, by simpa using TS.own hok, TS.nil _ _ _⟩
        exact hI.far4 hR _ _ _ _
      · exact below_set4 hbW (Nat.le_refl _) _ _ _ _

theorem rnew_any (n : Int) (w : World) :
    Calls Try.prog 10 #[.int .i64 n] w fun e w' => ∃ v, e = .returned v ∧ IsD w' v (M.new n) ∧ Below w.heap.size w w' := by
  by_cases h : n < 1 ∨ 770 < n
  · exact rnew_out n w h
  · obtain ⟨k, rfl⟩ := Int.eq_ofNat_of_zero_le (show 0 ≤ n by omega)
    exact rnew_in k w (by omega) (by omega)

/-- The contracts with the struct that is told written out. -/
theorem rnew_o (n : Int) (w : World) {l : List ByteArray} {wt : List (Int × ByteArray)} {arm : Int} {down : Bool} {n0 n1 : Nat} (hM : M.new n = ⟨l, wt, arm, down⟩) (h0 : l.length = n0) (h1 : wt.length = n1) :
    Calls Try.prog 10 #[.int .i64 n] w fun e w' => ∃ A c A1 c1, e = .returned (.agg #[.slice A n0 c, .slice A1 n1 c1, .int .i64 arm, .bool down]) ∧ IsD w' (.agg #[.slice A n0 c, .slice A1 n1 c1, .int .i64 arm, .bool down]) ⟨l, wt, arm, down⟩ ∧ Below w.heap.size w w' :=
  (rnew_any n w).mono fun e w' ⟨v, he, hD, hb⟩ => by
    rw [hM] at hD
    obtain ⟨A, c, A1, c1, rfl, _, _⟩ := hD.open_
    subst h0 h1
    exact ⟨A, c, A1, c1, he, hD, hb⟩
theorem rwrite_o (v : Value) (d : D) (i : Int) (b : ByteArray) (w : World) (h : IsD w v d) (hw : d.wait.length ≤ 60000) (ha0 : 0 ≤ d.arm) (ha : d.arm ≤ 65536)
    {l : List ByteArray} {wt : List (Int × ByteArray)} {arm : Int} {down : Bool} {n0 n1 : Nat} {r : Bool} (hM : M.write d i b = (⟨l, wt, arm, down⟩, r)) (h0 : l.length = n0) (h1 : wt.length = n1) :
    Calls Try.prog 18 #[v, .int .i64 i, .string b] w fun e w' => ∃ A c A1 c1, e = .returned (.tuple #[.agg #[.slice A n0 c, .slice A1 n1 c1, .int .i64 arm, .bool down], .bool r]) ∧
      IsD w' (.agg #[.slice A n0 c, .slice A1 n1 c1, .int .i64 arm, .bool down]) ⟨l, wt, arm, down⟩ ∧ Below w.heap.size w w' :=
  (rwrite_any v d i b w h hw ha0 ha).mono fun e w' ⟨v, he, hD, hb⟩ => by
    rw [hM] at hD he
    obtain ⟨A, c, A1, c1, rfl, _, _⟩ := hD.open_
    subst h0 h1
    exact ⟨A, c, A1, c1, he, hD, hb⟩
theorem rflush_o (v : Value) (d : D) (w : World) (h : IsD w v d) (hl : d.last.length ≤ 65536) (hw : d.wait.length ≤ 65536)
    {l : List ByteArray} {wt : List (Int × ByteArray)} {arm : Int} {down : Bool} {n0 n1 : Nat} {r : Bool} (hM : M.flush d = (⟨l, wt, arm, down⟩, r)) (h0 : l.length = n0) (h1 : wt.length = n1) :
    Calls Try.prog 12 #[v] w fun e w' => ∃ A c A1 c1, e = .returned (.tuple #[.agg #[.slice A n0 c, .slice A1 n1 c1, .int .i64 arm, .bool down], .bool r]) ∧
      IsD w' (.agg #[.slice A n0 c, .slice A1 n1 c1, .int .i64 arm, .bool down]) ⟨l, wt, arm, down⟩ ∧ Below w.heap.size w w' :=
  (rflush_any v d w h hl hw).mono fun e w' ⟨v, he, hD, hb⟩ => by
    rw [hM] at hD he
    obtain ⟨A, c, A1, c1, rfl, _, _⟩ := hD.open_
    subst h0 h1
    exact ⟨A, c, A1, c1, he, hD, hb⟩
theorem rcrash_o (v : Value) (d : D) (A2 : Option Addr) (n2 c2 : Nat) (ks : List Bool) (w : World) (h : IsD w v d) (h2 : Sl w 1 (.slice A2 n2 c2) n2 (ks.map Value.bool)) (hl : d.last.length ≤ 65536) (hw : d.wait.length ≤ 65536) (hk : n2 ≤ 65536)
    {l : List ByteArray} {wt : List (Int × ByteArray)} {arm : Int} {down : Bool} {n0 n1 : Nat} (hM : M.crash d ks = ⟨l, wt, arm, down⟩) (h0 : l.length = n0) (h1 : wt.length = n1) (hn2 : ks.length = n2) :
    Calls Try.prog 14 #[v, .slice A2 n2 c2] w fun e w' => ∃ A c A1 c1, e = .returned (.agg #[.slice A n0 c, .slice A1 n1 c1, .int .i64 arm, .bool down]) ∧
      IsD w' (.agg #[.slice A n0 c, .slice A1 n1 c1, .int .i64 arm, .bool down]) ⟨l, wt, arm, down⟩ ∧ Below w.heap.size w w' :=
  (rcrash_any v d A2 n2 c2 ks w h h2 hn2 hl hw hk).mono fun e w' ⟨v, he, hD, hb⟩ => by
    rw [hM] at hD
    obtain ⟨A, c, A1, c1, rfl, _, _⟩ := hD.open_
    subst h0 h1
    exact ⟨A, c, A1, c1, he, hD, hb⟩
theorem crash_f (w0 : World) (v : Value) (d : D) (A2 : Option Addr) (n2 c2 : Nat) (ks : List Bool) (W : World) (h : IsD w0 v d) (h2 : Sl w0 1 (.slice A2 n2 c2) n2 (ks.map Value.bool)) (hl : d.last.length ≤ 65536) (hw : d.wait.length ≤ 65536) (hk : n2 ≤ 65536)
    {l : List ByteArray} {wt : List (Int × ByteArray)} {arm : Int} {down : Bool} {n0 n1 : Nat} (hM : M.crash d ks = ⟨l, wt, arm, down⟩) (h0 : l.length = n0) (h1 : wt.length = n1) (hn2 : ks.length = n2) (hW : Below w0.heap.size w0 W) :
    Calls Try.prog 13 #[v, .slice A2 n2 c2] W fun e w' => ∃ A c A1 c1, e = .returned (.agg #[.slice A n0 c, .slice A1 n1 c1, .int .i64 arm, .bool down]) ∧
      IsD w' (.agg #[.slice A n0 c, .slice A1 n1 c1, .int .i64 arm, .bool down]) ⟨l, wt, arm, down⟩ ∧ Below w0.heap.size w0 w' :=
  (crash_o v d A2 n2 c2 ks W (h.below hW) (h2.below hW) hl hw hk hM h0 h1 hn2).mono fun _ _ ⟨A, c, A1, c1, he, hD, hb⟩ => ⟨A, c, A1, c1, he, hD, hW.trans (hb.mono hW.size)⟩
theorem rcrash_f (w0 : World) (v : Value) (d : D) (A2 : Option Addr) (n2 c2 : Nat) (ks : List Bool) (W : World) (h : IsD w0 v d) (h2 : Sl w0 1 (.slice A2 n2 c2) n2 (ks.map Value.bool)) (hl : d.last.length ≤ 65536) (hw : d.wait.length ≤ 65536) (hk : n2 ≤ 65536)
    {l : List ByteArray} {wt : List (Int × ByteArray)} {arm : Int} {down : Bool} {n0 n1 : Nat} (hM : M.crash d ks = ⟨l, wt, arm, down⟩) (h0 : l.length = n0) (h1 : wt.length = n1) (hn2 : ks.length = n2) (hW : Below w0.heap.size w0 W) :
    Calls Try.prog 14 #[v, .slice A2 n2 c2] W fun e w' => ∃ A c A1 c1, e = .returned (.agg #[.slice A n0 c, .slice A1 n1 c1, .int .i64 arm, .bool down]) ∧
      IsD w' (.agg #[.slice A n0 c, .slice A1 n1 c1, .int .i64 arm, .bool down]) ⟨l, wt, arm, down⟩ ∧ Below w0.heap.size w0 w' :=
  (rcrash_o v d A2 n2 c2 ks W (h.below hW) (h2.below hW) hl hw hk hM h0 h1 hn2).mono fun _ _ ⟨A, c, A1, c1, he, hD, hb⟩ => ⟨A, c, A1, c1, he, hD, hW.trans (hb.mono hW.size)⟩
theorem rwrite_f (w0 : World) (v : Value) (d : D) (i : Int) (b : ByteArray) (W : World) (h : IsD w0 v d) (hw : d.wait.length ≤ 60000) (ha0 : 0 ≤ d.arm) (ha : d.arm ≤ 65536)
    {l : List ByteArray} {wt : List (Int × ByteArray)} {arm : Int} {down : Bool} {n0 n1 : Nat} {r : Bool} (hM : M.write d i b = (⟨l, wt, arm, down⟩, r)) (h0 : l.length = n0) (h1 : wt.length = n1) (hW : Below w0.heap.size w0 W) :
    Calls Try.prog 18 #[v, .int .i64 i, .string b] W fun e w' => ∃ A c A1 c1, e = .returned (.tuple #[.agg #[.slice A n0 c, .slice A1 n1 c1, .int .i64 arm, .bool down], .bool r]) ∧
      IsD w' (.agg #[.slice A n0 c, .slice A1 n1 c1, .int .i64 arm, .bool down]) ⟨l, wt, arm, down⟩ ∧ Below w0.heap.size w0 w' :=
  (rwrite_o v d i b W (h.below hW) hw ha0 ha hM h0 h1).mono fun _ _ ⟨A, c, A1, c1, he, hD, hb⟩ => ⟨A, c, A1, c1, he, hD, hW.trans (hb.mono hW.size)⟩
theorem rread_o (v : Value) (d : D) (i : Int) (w : World) (h : IsD w v d) (hw : d.wait.length ≤ 65536) {s : ByteArray} {r : Bool} (hM : M.read d i = (s, r)) :
    Calls Try.prog 16 #[v, .int .i64 i] w fun e w' => e = .returned (.tuple #[.string s, .bool r]) ∧ Below w.heap.size w w' := by
  have := rread_any v d i w h hw
  rw [hM] at this
  exact this

end Go.Proofs.Ytgoggancldipcaa
