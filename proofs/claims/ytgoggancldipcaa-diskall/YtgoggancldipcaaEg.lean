/-
  The law DiskAll: its walk.
-/
import Derived.Test.YtgoggancldipcaaEf
import Derived.Deep.CutBlock
import Derived.Test.YtgoggancldipcaaRg
namespace Go.Proofs.Ytgoggancldipcaa
open Go.RowKit

/-- What holds at the head of each round: both boxes hold one and the same disk. -/
structure DOk (d : D) (k : Nat) : Prop where
  len : d.last.length = 4
  wait : d.wait.length ≤ k
  arm0 : 0 ≤ d.arm
  arm : d.arm ≤ 5

theorem DOk.more {d : D} {k : Nat} (h : DOk d k) : DOk d (k + 1) := ⟨h.len, by have := h.wait; omega, h.arm0, h.arm⟩
theorem dok_flush {d d' : D} {k : Nat} {r : Bool} (h : DOk d k) (hM : M.flush d = (d', r)) : DOk d' (k + 1) := by
  unfold M.flush at hM
  split at hM
  · injection hM with h1 _; subst h1; exact h.more
  · injection hM with h1 _; subst h1
    exact ⟨by rw [M.lasting_length]; exact h.len, by simp, h.arm0, h.arm⟩
theorem dok_write {d d' : D} {k : Nat} {i : Int} {b : ByteArray} {r : Bool} (h : DOk d k) (hM : M.write d i b = (d', r)) : DOk d' (k + 1) := by
  unfold M.write at hM
  split at hM
  · injection hM with h1 _; subst h1
    have h1 := h.arm0
    have h2 := h.arm
    refine ⟨h.len, by have := h.wait; simp [M.pushed]; omega, ?_, ?_⟩ <;> simp only [M.pushed] <;> split <;> omega
  · injection hM with h1 _; subst h1; exact h.more
theorem dok_crash {d : D} {k : Nat} {ks : List Bool} (h : DOk d k) : DOk (M.crash d ks) (k + 1) :=
  ⟨by show (M.lasting _ _).length = 4; rw [M.lasting_length]; exact h.len, by simp [M.crash], by simp [M.crash], by simp [M.crash]⟩
theorem dok_arm {d : D} {k : Nat} (h : DOk d k) (v : Int) (h0 : 0 ≤ v) (h1 : v ≤ 5) : DOk ⟨d.last, d.wait, v, d.down⟩ (k + 1) := ⟨h.len, by have := h.wait; show d.wait.length ≤ _; omega, h0, h1⟩

def DBox (wr : World) (g : Nat) (d : D) : Prop :=
  ∃ A c A1 c1, Bx wr g 28 #[.slice A 4 c, .slice A1 d.wait.length c1, .int .i64 d.arm, .bool d.down] ∧ IsD wr (.agg #[.slice A 4 c, .slice A1 d.wait.length c1, .int .i64 d.arm, .bool d.down]) d

def DInv (w wr : World) (ga gb k : Nat) : Prop := ∃ d, DOk d k ∧ DBox wr ga d ∧ DBox wr gb d ∧ Below w.heap.size w wr

theorem new_len {n : Int} {l : List ByteArray} {wt : List (Int × ByteArray)} {arm : Int} {down : Bool} (h : M.new n = ⟨l, wt, arm, down⟩) : l.length ≤ 65536 ∧ wt.length ≤ 65536 := by
  unfold M.new at h
  split at h
  · injection h with h1 h2; subst h1 h2; simp
  · injection h with h1 h2; subst h1 h2; simp; omega
theorem Bx.set2 {w : World} {g : Nat} {t : TypeId} {p q r u : Value} (hx : Bx w g t #[p, q, r, u]) (a : Value) : Bx (w.setCell ⟨g, 2, none⟩ a) g t #[p, q, a, u] := by
  simpa using hx.set 2 a
theorem IsD.arm {w : World} {A : Option Addr} {n c : Nat} {A1 : Option Addr} {n1 c1 : Nat} {d : D} (h : IsD w (.agg #[.slice A n c, .slice A1 n1 c1, .int .i64 d.arm, .bool d.down]) d) (v : Int) : IsD w (.agg #[.slice A n c, .slice A1 n1 c1, .int .i64 v, .bool d.down]) ⟨d.last, d.wait, v, d.down⟩ := by
  obtain ⟨v0, v1, hv, t0, t1⟩ := h
  simp at hv
  obtain ⟨rfl, rfl⟩ := hv
  exact ⟨_, _, rfl, t0, t1⟩

theorem DBox.below {w w' : World} {g : Nat} {d : D} (h : DBox w g d) (hb : Below w.heap.size w w') : DBox w' g d := by
  obtain ⟨A, c, A1, c1, hx, hd⟩ := h
  exact ⟨A, c, A1, c1, hx.below hb hx.lt, hd.below hb⟩
theorem DBox.far4 {w : World} {g h : Nat} {d : D} {cs : Array Value} (hx : DBox w g d) (hy : Bx w h 28 cs) (hne : g ≠ h) (p q r s : Value) : DBox ((((w.setCell ⟨h, 0, none⟩ p).setCell ⟨h, 1, none⟩ q).setCell ⟨h, 2, none⟩ r).setCell ⟨h, 3, none⟩ s) g d := by
  obtain ⟨A, c, A1, c1, bx, hd⟩ := hx
  exact ⟨A, c, A1, c1, bx.far4 hne _ _ _ _, hd.far4 hy _ _ _ _⟩
theorem slot_bool {x : Option Value} {b : Bool} (h : x.getD undef = .bool b) : x = some (.bool b) := by
  cases x with
  | none => cases h
  | some v => exact congrArg some h
theorem crash_n (v : Value) (d : D) (A2 : Option Addr) (n2 c2 : Nat) (ks : List Bool) (w : World) (h : IsD w v d) (h2 : Sl w 1 (.slice A2 n2 c2) n2 (ks.map Value.bool)) (hk2 : ks.length = n2) (hl : d.last.length ≤ 65536) (hw : d.wait.length ≤ 65536) (hn2 : n2 ≤ 65536) :
    Calls Try.prog 13 #[v, .slice A2 n2 c2] w fun e w' => ∃ v', e = .returned v' ∧ IsD w' v' (M.crash d ks) ∧ Below w.heap.size w w' := by
  subst hk2
  exact crash_any v d A2 c2 ks w h h2 hl hw hn2

set_option maxRecDepth 100000 in
set_option maxHeartbeats 16000000 in
theorem all_any (A : Option Addr) (n1 cap : Nat) (zs : List Int) (wild : Int) (s : ByteArray) (A3 : Option Addr) (n3 cap3 : Nat) (ks : List Bool) (n : Int) (w : World)
    (h : Sl w 3 (.slice A n1 cap) n1 (zs.map (Value.int .u8))) (hz : zs.length = n1 * 3) (hb : ∀ z ∈ zs, 0 ≤ z ∧ z ≤ 255)
    (h3 : Sl w 1 (.slice A3 n3 cap3) n3 (ks.map Value.bool)) (hks : ks.length = n3) :
    Calls Try.prog 3 #[.slice A n1 cap, .int .i64 wild, .string s, .slice A3 n3 cap3, .int .i64 n] w fun e w' => e = .returned (.bool true) ∧ Below w.heap.size w w' := by
  by_cases l1 : 30 < n1
  · clear h h3
    have t1 : decide ((30 : Int) < (n1 : Int)) = true := by simp; omega
    go_enter Try.func3, Try.ntmps3
    go_wp2_with fail
    refine (begun_any _).mono ?_
    rintro e w0 ⟨rfl, hb0⟩
    go_wp2
    go_ret
    exact ⟨rfl, hb0⟩
  by_cases l2 : 80 < s.size
  · clear h h3
    have t1 : decide ((30 : Int) < (n1 : Int)) = false := by simp; omega
    have t2 : decide ((80 : Int) < (s.size : Int)) = true := by simp; omega
    go_enter Try.func3, Try.ntmps3
    go_wp2_with fail
    refine (begun_any _).mono ?_
    rintro e w0 ⟨rfl, hb0⟩
    go_wp2
    go_ret
    exact ⟨rfl, hb0⟩
  by_cases l3 : 40 < n3
  · clear h h3
    have t1 : decide ((30 : Int) < (n1 : Int)) = false := by simp; omega
    have t2 : decide ((80 : Int) < (s.size : Int)) = false := by simp; omega
    have t3 : decide ((40 : Int) < (n3 : Int)) = true := by simp; omega
    go_enter Try.func3, Try.ntmps3
    go_wp2_with fail
    refine (begun_any _).mono ?_
    rintro e w0 ⟨rfl, hb0⟩
    go_wp2
    go_ret
    exact ⟨rfl, hb0⟩
  have t1 : decide ((30 : Int) < (n1 : Int)) = false := by simp; omega
  have t2 : decide ((80 : Int) < (s.size : Int)) = false := by simp; omega
  have t3 : decide ((40 : Int) < (n3 : Int)) = false := by simp; omega
  have HK := Lib.hid hks
  clear hks
  go_enter Try.func3, Try.ntmps3
  go_wp2_with fail
  refine (begun_any _).mono ?_
  rintro e w0 ⟨rfl, hb0⟩
  go_wp2_with fail
  refine (new_o 4 _ (good_new 4 (by decide) (by decide)).1 (n0 := 4) (n1 := 0) (by simp) rfl).mono ?_
  rintro e w1 ⟨A0, c0, A1, c1, rfl, hD, hb1⟩
  have hbw := hb0.trans (hb1.mono hb0.size)
  clear hb0 hb1
  go_wp2_with fail
  refine (rnew_o 4 _ (good_new 4 (by decide) (by decide)).1 (n0 := 4) (n1 := 0) (by simp) rfl).mono ?_
  rintro e w2 ⟨B0, e0, B1, e1, rfl, hE, hb2⟩
  have hbw2 := hbw.trans (hb2.mono hbw.size)
  have hD2 := hD.below hb2
  clear hD hbw hb2
  go_wp2
  have hXa := (Bx.new w2 28 #[.slice A0 4 c0, .slice A1 0 c1, .int .i64 0, .bool false]).alloc (.cells #[.slice B0 4 e0, .slice B1 0 e1, .int .i64 0, .bool false] 28)
  have hXb := Bx.new (w2.alloc (.cells #[.slice A0 4 c0, .slice A1 0 c1, .int .i64 0, .bool false] 28)) 28 #[.slice B0 4 e0, .slice B1 0 e1, .int .i64 0, .bool false]
  rw [World.size_alloc] at hXb
  have hDa := (hD2.alloc (.cells #[.slice A0 4 c0, .slice A1 0 c1, .int .i64 0, .bool false] 28)).alloc (.cells #[.slice B0 4 e0, .slice B1 0 e1, .int .i64 0, .bool false] 28)
  have hDb := (hE.alloc (.cells #[.slice A0 4 c0, .slice A1 0 c1, .int .i64 0, .bool false] 28)).alloc (.cells #[.slice B0 4 e0, .slice B1 0 e1, .int .i64 0, .bool false] 28)
  have hbW := (hbw2.alloc hbw2.size (.cells #[.slice A0 4 c0, .slice A1 0 c1, .int .i64 0, .bool false] 28)).alloc (by have := hbw2.size; simp; omega) (.cells #[.slice B0 4 e0, .slice B1 0 e1, .int .i64 0, .bool false] 28)
  have hga : w.heap.size ≤ w2.heap.size := hbw2.size
  have hgb : w.heap.size ≤ w2.heap.size + 1 := by omega
  have hab : w2.heap.size ≠ w2.heap.size + 1 := by omega
  generalize (w2.alloc (.cells #[.slice A0 4 c0, .slice A1 0 c1, .int .i64 0, .bool false] 28)).alloc (.cells #[.slice B0 4 e0, .slice B1 0 e1, .int .i64 0, .bool false] 28) = W at hXa hXb hDa hDb hbW ⊢
  generalize w2.heap.size + 1 = gb at hXb hgb hab ⊢
  generalize w2.heap.size = ga at hXa hga hab ⊢
  have hR : DInv w W ga gb 0 := ⟨⟨List.replicate 4 blank, [], 0, false⟩, ⟨by simp, by simp, by simp, by simp⟩, ⟨A0, c0, A1, c1, hXa, hDa⟩, ⟨B0, e0, B1, e1, hXb, hDb⟩, hbW⟩
  clear hXa hXb hDa hDb hbW hD2 hE hbw2
  go_loopw [13] (fun s wr => ∃ k : Nat, k ≤ n1 ∧ s = .int .i64 k ∧ DInv w wr ga gb k) (fun s _ => n1 - (intOf s).toNat)
  case atStart => exact ⟨0, by omega, rfl, hR⟩
  case round =>
    clear hR
    obtain ⟨k, hk, rfl, d, hG, ⟨A0, c0, A1, c1, hXa, hDa⟩, ⟨B0, e0, B1, e1, hXb, hDb⟩, hbW⟩ := hrel
    by_cases hlt : k < n1
    · obtain ⟨b, o, rfl, hbb, hcl⟩ := h.at (by omega)
      obtain ⟨a0, q0⟩ : ∃ x, zs[k * 3]? = some x := ⟨_, List.getElem?_eq_getElem (by omega)⟩
      obtain ⟨a1, q1⟩ : ∃ x, zs[k * 3 + 1]? = some x := ⟨_, List.getElem?_eq_getElem (by omega)⟩
      obtain ⟨a2, q2⟩ : ∃ x, zs[k * 3 + 2]? = some x := ⟨_, List.getElem?_eq_getElem (by omega)⟩
      obtain ⟨b0, b0'⟩ := hb a0 (List.mem_of_getElem? q0)
      obtain ⟨b1, b1'⟩ := hb a1 (List.mem_of_getElem? q1)
      obtain ⟨b2, b2'⟩ := hb a2 (List.mem_of_getElem? q2)
      have f0 := (hbW.cell (p := ⟨b, o + k * 3, none⟩) hbb).trans (hcl (k * 3) (by omega))
      have f1 := (hbW.cell (p := ⟨b, o + (k * 3 + 1), none⟩) hbb).trans (hcl (k * 3 + 1) (by omega))
      have f2 := (hbW.cell (p := ⟨b, o + (k * 3 + 2), none⟩) hbb).trans (hcl (k * 3 + 2) (by omega))
      rw [List.getElem?_map, q0, Option.map_some] at f0
      rw [List.getElem?_map, q1, Option.map_some, ← Nat.add_assoc] at f1
      rw [List.getElem?_map, q2, Option.map_some, ← Nat.add_assoc] at f2
      clear q0 q1 q2 hcl
      go_upto_if 55 with fail
      go_cut [14] (fun s wx => wr = wx ∧ ∃ x : Int, s = .int .i64 x)
      case first =>
        go_wp2
        all_goals (go_meet; exact ⟨rfl, _, rfl⟩)
      case rest =>
      obtain ⟨rfl, x, rfl⟩ := hcut
      have hla := hXa.lt
      have hlb := hXb.lt
      obtain ⟨x0, x1, x2, x3, y0, y1, y2, y3⟩ := hXa.four
      obtain ⟨r0, r1, r2, r3, s0, s1, s2, s3⟩ := hXb.four
      go_upto_block 2 with fail
      go_cut [15, 16] (fun s15 s16 wx => ∃ β : Bool, s15 = .bool β ∧ s16 = .bool β ∧ DInv w wx ga gb (k + 1))
      case first =>
        by_cases g0 : a0 % 8 = 0
        · skip
          as_aux_lemma =>
            have z0 : (a0 % 8 == 0) = true := by simp [g0]
            clear g0
            obtain ⟨l', wt', arm', down', r', hM⟩ : ∃ l' wt' arm' down' r', M.flush d = (⟨l', wt', arm', down'⟩, r') := ⟨_, _, _, _, _, rfl⟩
            have HM := Lib.hid hM
            have HG := Lib.hid (dok_flush hG hM)
            have HL := Lib.hid HG.out.len
            clear hM
            go_wp2_with fail
            refine (flush_o _ d _ hDa (by rw [hG.len]; decide) (by have := hG.wait; omega) HM.out (n0 := 4) (n1 := wt'.length) HL.out rfl).mono ?_
            rintro e w2 ⟨A', c', A1', c1', rfl, hD2, hb2⟩
            have hf2 := (hXa.below hb2 hla).four
            clear x0 x1 x2 x3 y0 y1 y2 y3 r0 r1 r2 r3 s0 s1 s2 s3
            obtain ⟨x0, x1, x2, x3, y0, y1, y2, y3⟩ := hf2
            have hg2 := ((hXb.below hb2 hlb).far4 (Ne.symm hab) (.slice A' 4 c') (.slice A1' wt'.length c1') (.int .i64 arm') (.bool down')).four
            obtain ⟨r0, r1, r2, r3, _, _, _, _⟩ := hg2
            go_wp2_with fail
            have hXa2 := (hXa.below hb2 hla).put4 (.slice A' 4 c') (.slice A1' wt'.length c1') (.int .i64 arm') (.bool down')
            have hXb2 := (hXb.below hb2 hlb).far4 (Ne.symm hab) (.slice A' 4 c') (.slice A1' wt'.length c1') (.int .i64 arm') (.bool down')
            have hDa2 := hD2.far4 (hXa.below hb2 hla) (.slice A' 4 c') (.slice A1' wt'.length c1') (.int .i64 arm') (.bool down')
            have hDb2 := (hDb.below hb2).far4 (hXa.below hb2 hla) (.slice A' 4 c') (.slice A1' wt'.length c1') (.int .i64 arm') (.bool down')
            have hbW2 := below_set4 (hbW.trans (hb2.mono hbW.size)) hga (.slice A' 4 c') (.slice A1' wt'.length c1') (.int .i64 arm') (.bool down')
            generalize ((((w2.setCell ⟨ga, 0, none⟩ (.slice A' 4 c')).setCell ⟨ga, 1, none⟩ (.slice A1' wt'.length c1')).setCell ⟨ga, 2, none⟩ (.int .i64 arm')).setCell ⟨ga, 3, none⟩ (.bool down')) = W2 at hXa2 hXb2 hDa2 hDb2 hbW2 ⊢
            refine (rflush_o _ d _ hDb2 (by rw [hG.len]; decide) (by have := hG.wait; omega) HM.out (n0 := 4) (n1 := wt'.length) HL.out rfl).mono ?_
            rintro e w3 ⟨B', e', B1', e1', rfl, hD3, hb3⟩
            have hf3 := (hXb2.below hb3 hXb2.lt).four
            clear x0 x1 x2 x3 y0 y1 y2 y3 r0 r1 r2 r3
            obtain ⟨x0, x1, x2, x3, y0, y1, y2, y3⟩ := hf3
            go_wp2
            go_meet
            refine ⟨r', rfl, rfl, ⟨l', wt', arm', down'⟩, HG.out, ⟨A', c', A1', c1', (hXa2.below hb3 hXa2.lt).far4 hab _ _ _ _, (hDa2.below hb3).far4 (hXb2.below hb3 hXb2.lt) _ _ _ _⟩, ⟨B', e', B1', e1', (hXb2.below hb3 hXb2.lt).put4 _ _ _ _, hD3.far4 (hXb2.below hb3 hXb2.lt) _ _ _ _⟩, below_set4 (hbW2.trans (hb3.mono hbW2.size)) hgb _ _ _ _⟩
        have z0 : (a0 % 8 == 0) = false := by simp [g0]
        clear g0
        by_cases g1 : a0 % 8 = 1
        · skip
          have z1 : (a0 % 8 == 1) = true := by simp [g1]
          clear g1
          have d1 : wr.drew.cell? ⟨b, o + k * 3 + 1, none⟩ = some (.int .u8 a1) := f1
          have d2 : wr.drew.cell? ⟨b, o + k * 3 + 2, none⟩ = some (.int .u8 a2) := f2
          have hbr : b < wr.heap.size := by have := hbW.size; omega
          go_upto_region 20 with fail
          go_region_held3 (fun w' => w'.cell? ⟨b, o + k * 3 + 1, none⟩ = some (.int .u8 a1) ∧ w'.cell? ⟨b, o + k * 3 + 2, none⟩ = some (.int .u8 a2))
            (first | (with_reducible exact ⟨d1, d2⟩) | (with_reducible exact ⟨(cell_ald hbr _).trans f1, (cell_ald hbr _).trans f2⟩))
            (fail)
          go_upto_region 21 with fail
          generalize (a1.tmod 2 == 0) = u1
          generalize (a2.tmod 2 == 0) = u2
          generalize (a1.tmod 3 == 0) = u3
          have hXa1 := (hXa.alloc (.cells #[.bool u1, .bool u2, .bool u3, .bool true] 4)).drew
          have hXb1 := (hXb.alloc (.cells #[.bool u1, .bool u2, .bool u3, .bool true] 4)).drew
          have hDa1 := (hDa.alloc (.cells #[.bool u1, .bool u2, .bool u3, .bool true] 4)).drew
          have hDb1 := (hDb.alloc (.cells #[.bool u1, .bool u2, .bool u3, .bool true] 4)).drew
          have hbW1 := (hbW.alloc hbW.size (.cells #[.bool u1, .bool u2, .bool u3, .bool true] 4)).drew
          have hK1 : Sl (wr.alloc (.cells #[.bool u1, .bool u2, .bool u3, .bool true] 4)).drew 1 (.slice (some ⟨wr.heap.size, 0, none⟩) 4 4) 4 ([u1, u2, u3, true].map Value.bool) := Sl.drew (Sl_made wr 4 [.bool u1, .bool u2, .bool u3, .bool true] _ 4 rfl rfl)
          generalize (wr.alloc (.cells #[.bool u1, .bool u2, .bool u3, .bool true] 4)).drew = W1 at hXa1 hXb1 hDa1 hDb1 hbW1 hK1 ⊢
          generalize wr.heap.size = gk at hK1 ⊢
          clear x0 x1 x2 x3 y0 y1 y2 y3 r0 r1 r2 r3 s0 s1 s2 s3 hXa hXb hDa hDb hbW d1 d2 f0 f1 f2 hla hlb
          obtain ⟨x0, x1, x2, x3, y0, y1, y2, y3⟩ := hXa1.four
          obtain ⟨r0, r1, r2, r3, s0, s1, s2, s3⟩ := hXb1.four
          have hla := hXa1.lt
          have hlb := hXb1.lt
          generalize hd' : M.crash d [u1, u2, u3, true] = d'
          have HG : DOk d' (k + 1) := by rw [← hd']; exact dok_crash hG
          clear x0 x1 x2 x3 y0 y1 y2 y3 r0 r1 r2 r3 s0 s1 s2 s3
          refine wp_region_rel2 Try.checked.mixed (by kernel_rfl)
            (fun done W => (if done 6 = true then DBox W ga d' else Bx W ga 28 #[.slice A0 4 c0, .slice A1 d.wait.length c1, .int .i64 d.arm, .bool d.down] ∧ IsD W (.agg #[.slice A0 4 c0, .slice A1 d.wait.length c1, .int .i64 d.arm, .bool d.down]) d) ∧ (if done 7 = true then DBox W gb d' else Bx W gb 28 #[.slice B0 4 e0, .slice B1 d.wait.length e1, .int .i64 d.arm, .bool d.down] ∧ IsD W (.agg #[.slice B0 4 e0, .slice B1 d.wait.length e1, .int .i64 d.arm, .bool d.down]) d) ∧ (done 6 = false → Sl W 1 (.slice (some ⟨gk, 0, none⟩) 4 4) 4 ([u1, u2, u3, true].map Value.bool)) ∧ Below w.heap.size w W)
            (fun i v W => match i with
              | 0 => IsD W v d
              | 1 => v = (.slice (some ⟨gk, 0, none⟩) 4 4)
              | 2 => IsD W v d'
              | 3 => IsD W v d
              | 4 => v = (.slice (some ⟨gk, 0, none⟩) 4 4)
              | 5 => IsD W v d'
              | _ => True) ?start ?each ?fin
          case start => exact ⟨⟨hXa1, hDa1⟩, ⟨hXb1, hDb1⟩, fun _ => hK1, hbW1.drew⟩
          case each =>
            clear hXa1 hDa1 hXb1 hDb1 hK1 hbW1
            intro i hi done a W hi0 hcl hcl' hold hp hW K hK
            have c6 : done 6 = true → done 0 = true ∧ done 1 = true ∧ done 2 = true ∧ done 3 = true ∧ done 4 = true ∧ done 5 = true := by
              intro h
              have d5 : done 5 = true := hcl 6 _ rfl h ⟨5, .chain⟩ (by simp) rfl
              exact ⟨hcl 6 _ rfl h ⟨0, .phase⟩ (by simp) rfl, hcl 6 _ rfl h ⟨1, .phase⟩ (by simp) rfl, hcl 6 _ rfl h ⟨2, .phase⟩ (by simp) rfl, hcl 5 _ rfl d5 ⟨3, .data⟩ (by simp) rfl, hcl 5 _ rfl d5 ⟨4, .data⟩ (by simp) rfl, d5⟩
            have c7 : done 7 = true → done 6 = true := fun h => hcl 7 _ rfl h ⟨6, .chain⟩ (by simp) rfl
            rcases i with _ | _ | _ | _ | _ | _ | _ | i
            · have s := hold 11 rfl
              have f6 : done 6 = false := by
                cases h : done 6 with
                | false => rfl
                | true => exact absurd ((c6 h).1.symm.trans hi0) (by decide)
              have f7 : done 7 = false := by
                cases h : done 7 with
                | false => rfl
                | true => exact absurd ((c7 h).symm.trans f6) (by decide)
              simp only [f6, f7, Bool.false_eq_true, if_false, forall_const] at hW
              obtain ⟨⟨hX, hD⟩, ⟨hY, hE⟩, hS, hB⟩ := hW
              obtain ⟨x0, x1, x2, x3⟩ := hX.c4
              refine wpOp_of rfl rfl ?_
              simp at s
              go_simp
              exact hK _ _ (by simp) (by simp only [f6, f7, Bool.false_or, Nat.reduceBEq, Bool.false_eq_true, if_false, forall_const]; exact ⟨⟨hX, hD⟩, ⟨hY, hE⟩, hS, hB⟩) (fun _ _ _ h => h) hD
            · have s := hold 17 rfl
              have f6 : done 6 = false := by
                cases h : done 6 with
                | false => rfl
                | true => exact absurd ((c6 h).2.1.symm.trans hi0) (by decide)
              have f7 : done 7 = false := by
                cases h : done 7 with
                | false => rfl
                | true => exact absurd ((c7 h).symm.trans f6) (by decide)
              simp only [f6, f7, Bool.false_eq_true, if_false, forall_const] at hW
              obtain ⟨⟨hX, hD⟩, ⟨hY, hE⟩, hS, hB⟩ := hW
              refine wpOp_of rfl rfl ?_
              simp at s
              go_simp
              exact hK _ _ (by simp) (by simp only [f6, f7, Bool.false_or, Nat.reduceBEq, Nat.reduceAdd, Bool.false_eq_true, if_false, forall_const]; exact ⟨⟨hX, hD⟩, ⟨hY, hE⟩, hS, hB⟩) (fun _ _ _ h => h) rfl
            · simp [predsOf, Region.binds, slotV] at hp
              have f6 : done 6 = false := by
                cases h : done 6 with
                | false => rfl
                | true => exact absurd ((c6 h).2.2.1.symm.trans hi0) (by decide)
              have f7 : done 7 = false := by
                cases h : done 7 with
                | false => rfl
                | true => exact absurd ((c7 h).symm.trans f6) (by decide)
              simp only [f6, f7, Bool.false_eq_true, if_false, forall_const] at hW
              obtain ⟨⟨hX, hD⟩, ⟨hY, hE⟩, hS, hB⟩ := hW
              refine wpOp_of rfl rfl ?_
              have p1 := hp.1
              have p2 := hp.2
              clear hp
              go_simp
              refine (crash_n _ d _ 4 4 [u1, u2, u3, true] _ p1 hS rfl (by rw [hG.len]; decide) (by have := hG.wait; omega) (by decide)).mono ?_
              rintro e W' ⟨v', rfl, hD', hb⟩
              rw [hd'] at hD'
              exact hK _ _ (by simp) (by simp only [f6, f7, Bool.false_or, Nat.reduceBEq, Nat.reduceAdd, Bool.false_eq_true, if_false, forall_const]; exact ⟨⟨hX.below hb hX.lt, hD.below hb⟩, ⟨hY.below hb hY.lt, hE.below hb⟩, hS.below hb, hB.trans (hb.mono hB.size)⟩) (fun j v' _ h => by rcases j with _ | _ | _ | _ | _ | _ | j <;> first | exact h | exact IsD.below h hb) hD'
            · have s := hold 12 rfl
              have f6 : done 6 = false := by
                cases h : done 6 with
                | false => rfl
                | true => exact absurd ((c6 h).2.2.2.1.symm.trans hi0) (by decide)
              have f7 : done 7 = false := by
                cases h : done 7 with
                | false => rfl
                | true => exact absurd ((c7 h).symm.trans f6) (by decide)
              simp only [f6, f7, Bool.false_eq_true, if_false, forall_const] at hW
              obtain ⟨⟨hX, hD⟩, ⟨hY, hE⟩, hS, hB⟩ := hW
              obtain ⟨x0, x1, x2, x3⟩ := hY.c4
              refine wpOp_of rfl rfl ?_
              simp at s
              go_simp
              exact hK _ _ (by simp) (by simp only [f6, f7, Bool.false_or, Nat.reduceBEq, Nat.reduceAdd, Bool.false_eq_true, if_false, forall_const]; exact ⟨⟨hX, hD⟩, ⟨hY, hE⟩, hS, hB⟩) (fun _ _ _ h => h) hE
            · have s := hold 17 rfl
              have f6 : done 6 = false := by
                cases h : done 6 with
                | false => rfl
                | true => exact absurd ((c6 h).2.2.2.2.1.symm.trans hi0) (by decide)
              have f7 : done 7 = false := by
                cases h : done 7 with
                | false => rfl
                | true => exact absurd ((c7 h).symm.trans f6) (by decide)
              simp only [f6, f7, Bool.false_eq_true, if_false, forall_const] at hW
              obtain ⟨⟨hX, hD⟩, ⟨hY, hE⟩, hS, hB⟩ := hW
              refine wpOp_of rfl rfl ?_
              simp at s
              go_simp
              exact hK _ _ (by simp) (by simp only [f6, f7, Bool.false_or, Nat.reduceBEq, Nat.reduceAdd, Bool.false_eq_true, if_false, forall_const]; exact ⟨⟨hX, hD⟩, ⟨hY, hE⟩, hS, hB⟩) (fun _ _ _ h => h) rfl
            · simp [predsOf, Region.binds, slotV] at hp
              have f6 : done 6 = false := by
                cases h : done 6 with
                | false => rfl
                | true => exact absurd ((c6 h).2.2.2.2.2.symm.trans hi0) (by decide)
              have f7 : done 7 = false := by
                cases h : done 7 with
                | false => rfl
                | true => exact absurd ((c7 h).symm.trans f6) (by decide)
              simp only [f6, f7, Bool.false_eq_true, if_false, forall_const] at hW
              obtain ⟨⟨hX, hD⟩, ⟨hY, hE⟩, hS, hB⟩ := hW
              refine wpOp_of rfl rfl ?_
              have p1 := hp.1
              have p2 := hp.2.1
              clear hp
              go_simp
              refine (rcrash_any _ d _ 4 4 [u1, u2, u3, true] _ p1 hS rfl (by rw [hG.len]; decide) (by have := hG.wait; omega) (by decide)).mono ?_
              rintro e W' ⟨v', rfl, hD', hb⟩
              rw [hd'] at hD'
              exact hK _ _ (by simp) (by simp only [f6, f7, Bool.false_or, Nat.reduceBEq, Nat.reduceAdd, Bool.false_eq_true, if_false, forall_const]; exact ⟨⟨hX.below hb hX.lt, hD.below hb⟩, ⟨hY.below hb hY.lt, hE.below hb⟩, hS.below hb, hB.trans (hb.mono hB.size)⟩) (fun j v' _ h => by rcases j with _ | _ | _ | _ | _ | _ | j <;> first | exact h | exact IsD.below h hb) hD'
            · have s := hold 11 rfl
              simp [predsOf, Region.binds, slotV] at hp
              have f6 : done 6 = false := hi0
              have f7 : done 7 = false := by
                cases h : done 7 with
                | false => rfl
                | true => exact absurd ((c7 h).symm.trans f6) (by decide)
              simp only [f6, f7, Bool.false_eq_true, if_false, forall_const] at hW
              obtain ⟨⟨hX, hD⟩, ⟨hY, hE⟩, hS, hB⟩ := hW
              have p1 := hp.1
              clear hp
              obtain ⟨A', c', A1', c1', hv, _, _⟩ := p1.open_
              rw [HG.len] at hv
              rw [hv] at p1
              obtain ⟨x0, x1, x2, x3, y0, y1, y2, y3⟩ := hX.four
              refine wpOp_of rfl rfl ?_
              simp at s
              go_simp
              exact hK undef _ (by simp) (by simp [f6, f7]; exact ⟨⟨A', c', A1', c1', hX.put4 _ _ _ _, p1.far4 hX _ _ _ _⟩, ⟨hY.far4 (Ne.symm hab) _ _ _ _, hE.far4 hX _ _ _ _⟩, below_set4 hB hga _ _ _ _⟩) (fun j v' _ h => by rcases j with _ | _ | _ | _ | _ | _ | j <;> first | exact h | exact IsD.far4 h hX _ _ _ _) trivial
            · have i0 : i = 0 := by simp at hi; omega
              subst i0
              have s := hold 12 rfl
              simp [predsOf, Region.binds, slotV] at hp
              have f6 : done 6 = true := by simpa using hcl' 7 _ rfl (by simp) ⟨6, .chain⟩ (by simp) rfl
              have f7 : done 7 = false := hi0
              simp [f6, f7] at hW
              obtain ⟨⟨A5, c5, A15, c15, hX, hD⟩, ⟨hY, hE⟩, hB⟩ := hW
              have p1 := hp.1
              clear hp
              obtain ⟨A', c', A1', c1', hv, _, _⟩ := p1.open_
              rw [HG.len] at hv
              rw [hv] at p1
              obtain ⟨x0, x1, x2, x3, y0, y1, y2, y3⟩ := hY.four
              refine wpOp_of rfl rfl ?_
              simp at s
              go_simp
              exact hK undef _ (by simp) (by simp [f6, f7]; exact ⟨⟨A5, c5, A15, c15, hX.far4 hab _ _ _ _, hD.far4 hY _ _ _ _⟩, ⟨A', c', A1', c1', hY.put4 _ _ _ _, p1.far4 hY _ _ _ _⟩, below_set4 hB hgb _ _ _ _⟩) (fun j v' _ h => by rcases j with _ | _ | _ | _ | _ | _ | j <;> first | exact h | exact IsD.far4 h hY _ _ _ _) trivial
          case fin =>
            intro vs W done hRs hall ⟨hA, hB, _, hBel⟩
            have e6 := hall 6 (by decide)
            have e7 := hall 7 (by decide)
            simp only [e6, e7, if_true] at hA hB
            simp only [putAll, List.foldl_cons, List.foldl_nil, Act.put, List.setIfInBounds_toArray, List.set_cons_succ, List.set_cons_zero]
            go_wp2_with fail
            go_meet
            exact ⟨true, rfl, rfl, d', HG, hA, hB, hBel⟩
        have z1 : (a0 % 8 == 1) = false := by simp [g1]
        clear g1
        by_cases g2 : a0 % 8 = 2
        · skip
          as_aux_lemma =>
            have z2 : (a0 % 8 == 2) = true := by simp [g2]
            clear g2
            obtain ⟨v, hv⟩ : ∃ v : Nat, a2 % 6 = v := ⟨(a2 % 6).toNat, by omega⟩
            have hvt : a2.tmod 6 = (v : Int) := by rw [Int.tmod_eq_emod_of_nonneg b2]; exact hv
            have hvw : IntKind.i64.wrap (v : Int) = (v : Int) := by rw [IntKind.wrap_i64]; omega
            have d2 : wr.drew.cell? ⟨b, o + k * 3 + 2, none⟩ = some (.int .u8 a2) := f2
            have hba : b ≠ ga := by omega
            have hbb' : b ≠ gb := by omega
            have j1 : (wr.setCell ⟨ga, 2, none⟩ (.int .i64 v)).drew.cell? ⟨b, o + k * 3 + 2, none⟩ = some (.int .u8 a2) := (World.cell?_of_block (Below.heap_setCell wr ⟨ga, 2, none⟩ (.int .i64 v) b hba) (a := ⟨b, o + k * 3 + 2, none⟩)).trans f2
            have j2 : ((wr.setCell ⟨ga, 2, none⟩ (.int .i64 v)).setCell ⟨gb, 2, none⟩ (.int .i64 v)).drew.cell? ⟨b, o + k * 3 + 2, none⟩ = some (.int .u8 a2) := (World.cell?_of_block (Below.heap_setCell (wr.setCell ⟨ga, 2, none⟩ (.int .i64 v)) ⟨gb, 2, none⟩ (.int .i64 v) b hbb') (a := ⟨b, o + k * 3 + 2, none⟩)).trans j1
            go_upto_region 23 with fail
            go_region_held3 (fun w' => w'.cell? ⟨b, o + k * 3 + 2, none⟩ = some (.int .u8 a2))
              (first | (with_reducible exact d2) | (with_reducible exact j1) | (with_reducible exact j2))
              (fail)
            all_goals go_wp2_with fail
            all_goals go_meet
            all_goals exact ⟨true, rfl, rfl, ⟨d.last, d.wait, v, d.down⟩, dok_arm hG v (by omega) (by omega), ⟨A0, c0, A1, c1, ((hXa.set2 _).far (p := ⟨gb, 2, none⟩) hab _).drew, (((hDa.arm v).far hXa 2 _).far (hXb.far (p := ⟨ga, 2, none⟩) (Ne.symm hab) _) 2 _).drew⟩, ⟨B0, e0, B1, e1, ((hXb.far (p := ⟨ga, 2, none⟩) (Ne.symm hab) _).set2 _).drew, (((hDb.arm v).far hXa 2 _).far (hXb.far (p := ⟨ga, 2, none⟩) (Ne.symm hab) _) 2 _).drew⟩, ((hbW.setCell (p := ⟨ga, 2, none⟩) hga _).setCell (p := ⟨gb, 2, none⟩) hgb _).drew⟩
        have z2 : (a0 % 8 == 2) = false := by simp [g2]
        clear g2
        by_cases g3 : a0 % 8 = 3
        · skip
          as_aux_lemma =>
            have z3 : (a0 % 8 == 3) = true := by simp [g3]
            clear g3
            obtain ⟨t, r', hM⟩ : ∃ t r', M.read d x = (t, r') := ⟨_, _, rfl⟩
            have HM := Lib.hid hM
            clear hM
            go_wp2_with fail
            refine (read_o _ d x _ hDa (by have := hG.wait; omega) HM.out).mono ?_
            rintro e w2 ⟨rfl, hb2⟩
            have hXa2 := hXa.below hb2 hla
            have hXb2 := hXb.below hb2 hlb
            have hDa2 := hDa.below hb2
            have hDb2 := hDb.below hb2
            have hbW2 := hbW.trans (hb2.mono hbW.size)
            clear x0 x1 x2 x3 y0 y1 y2 y3 r0 r1 r2 r3 s0 s1 s2 s3
            have hf2 := hXb2.four
            obtain ⟨r0, r1, r2, r3, _, _, _, _⟩ := hf2
            go_wp2_with fail
            refine (rread_o _ d x _ hDb2 (by have := hG.wait; omega) HM.out).mono ?_
            rintro e w3 ⟨rfl, hb3⟩
            clear r0 r1 r2 r3
            go_wp2
            go_meet
            exact ⟨true, rfl, rfl, d, hG.more, ⟨A0, c0, A1, c1, hXa2.below hb3 hXa2.lt, hDa2.below hb3⟩, ⟨B0, e0, B1, e1, hXb2.below hb3 hXb2.lt, hDb2.below hb3⟩, hbW2.trans (hb3.mono hbW2.size)⟩
        have z3 : (a0 % 8 == 3) = false := by simp [g3]
        clear g3
        by_cases g4 : a0 % 8 = 4
        · skip
          as_aux_lemma =>
            have z4' : (a0 % 8 == 4) = true := by simp [g4]
            clear g4
            obtain ⟨l', wt', arm', down', r', hM⟩ : ∃ l' wt' arm' down' r', M.write d x s = (⟨l', wt', arm', down'⟩, r') := ⟨_, _, _, _, _, rfl⟩
            have HM := Lib.hid hM
            have HG := Lib.hid (dok_write hG hM)
            have HL := Lib.hid HG.out.len
            clear hM
            go_wp2_with fail
            refine (write_o _ d x s _ hDa (by rw [hG.len]; decide) (by have := hG.wait; omega) hG.arm0 (by have := hG.arm; omega) HM.out (n0 := 4) (n1 := wt'.length) HL.out rfl).mono ?_
            rintro e w2 ⟨A', c', A1', c1', rfl, hD2, hb2⟩
            have hf2 := (hXa.below hb2 hla).four
            clear x0 x1 x2 x3 y0 y1 y2 y3 r0 r1 r2 r3 s0 s1 s2 s3
            obtain ⟨x0, x1, x2, x3, y0, y1, y2, y3⟩ := hf2
            have hg2 := ((hXb.below hb2 hlb).far4 (Ne.symm hab) (.slice A' 4 c') (.slice A1' wt'.length c1') (.int .i64 arm') (.bool down')).four
            obtain ⟨r0, r1, r2, r3, _, _, _, _⟩ := hg2
            go_wp2_with fail
            have hXa2 := (hXa.below hb2 hla).put4 (.slice A' 4 c') (.slice A1' wt'.length c1') (.int .i64 arm') (.bool down')
            have hXb2 := (hXb.below hb2 hlb).far4 (Ne.symm hab) (.slice A' 4 c') (.slice A1' wt'.length c1') (.int .i64 arm') (.bool down')
            have hDa2 := hD2.far4 (hXa.below hb2 hla) (.slice A' 4 c') (.slice A1' wt'.length c1') (.int .i64 arm') (.bool down')
            have hDb2 := (hDb.below hb2).far4 (hXa.below hb2 hla) (.slice A' 4 c') (.slice A1' wt'.length c1') (.int .i64 arm') (.bool down')
            have hbW2 := below_set4 (hbW.trans (hb2.mono hbW.size)) hga (.slice A' 4 c') (.slice A1' wt'.length c1') (.int .i64 arm') (.bool down')
            generalize ((((w2.setCell ⟨ga, 0, none⟩ (.slice A' 4 c')).setCell ⟨ga, 1, none⟩ (.slice A1' wt'.length c1')).setCell ⟨ga, 2, none⟩ (.int .i64 arm')).setCell ⟨ga, 3, none⟩ (.bool down')) = W2 at hXa2 hXb2 hDa2 hDb2 hbW2 ⊢
            refine (rwrite_o _ d x s _ hDb2 (by have := hG.wait; omega) hG.arm0 (by have := hG.arm; omega) HM.out (n0 := 4) (n1 := wt'.length) HL.out rfl).mono ?_
            rintro e w3 ⟨B', e', B1', e1', rfl, hD3, hb3⟩
            have hf3 := (hXb2.below hb3 hXb2.lt).four
            clear x0 x1 x2 x3 y0 y1 y2 y3 r0 r1 r2 r3
            obtain ⟨x0, x1, x2, x3, y0, y1, y2, y3⟩ := hf3
            go_wp2
            go_meet
            refine ⟨r', rfl, rfl, ⟨l', wt', arm', down'⟩, HG.out, ⟨A', c', A1', c1', (hXa2.below hb3 hXa2.lt).far4 hab _ _ _ _, (hDa2.below hb3).far4 (hXb2.below hb3 hXb2.lt) _ _ _ _⟩, ⟨B', e', B1', e1', (hXb2.below hb3 hXb2.lt).put4 _ _ _ _, hD3.far4 (hXb2.below hb3 hXb2.lt) _ _ _ _⟩, below_set4 (hbW2.trans (hb3.mono hbW2.size)) hgb _ _ _ _⟩
        have z4' : (a0 % 8 == 4) = false := by simp [g4]
        clear g4
        obtain ⟨d', r', hM⟩ : ∃ d' r', M.write d x (blk a2) = (d', r') := ⟨_, _, rfl⟩
        have HG := dok_write hG hM
        have hbr : b < wr.heap.size := by have := hbW.size; omega
        have hki : (k : Int) < (n1 : Int) := by omega
        have hk0 : (0 : Int) ≤ (k : Int) := by omega
        have hOwn : DBox wr ga d := ⟨A0, c0, A1, c1, hXa, hDa⟩
        have hOth : DBox wr gb d := ⟨B0, e0, B1, e1, hXb, hDb⟩
        clear hXa hXb hDa hDb f0 f1 x0 x1 x2 x3 y0 y1 y2 y3 r0 r1 r2 r3 s0 s1 s2 s3 hla hlb h h3
        go_upto_region 14 with fail
        go_cut [15] (fun s15 wx => s15 = .bool r' ∧ DBox wx ga d' ∧ DBox wx gb d ∧ Below w.heap.size w wx ∧ wx.cell? ⟨b, o + k * 3 + 2, none⟩ = some (.int .u8 a2) ∧ b < wx.heap.size)
        case first =>
          refine wp_region_rel2 Try.checked.mixed (by kernel_rfl)
            (fun done W => (if done 12 = true then DBox W ga d' else DBox W ga d) ∧ DBox W gb d ∧ Below w.heap.size w W ∧ W.cell? ⟨b, o + k * 3 + 2, none⟩ = some (.int .u8 a2) ∧ b < W.heap.size)
            (fun i v W => match i with
              | 0 => IsD W v d
              | 1 => v = .int .i64 x
              | 2 => v = .slice (some ⟨b, o, none⟩) n1 cap
              | 3 => v = .int .i64 (k : Int)
              | 4 => v = .pointer (some ⟨b, o + k * 3, none⟩)
              | 5 => v = .pointer (some ⟨b, o + k * 3 + 2, none⟩)
              | 6 => v = .int .u8 a2
              | 7 => v = .string (blk a2)
              | 8 => ∃ v', v = .tuple #[v', .bool r'] ∧ IsD W v' d'
              | 9 => ∃ v', v = .tuple #[v', .bool r'] ∧ IsD W v' d'
              | 10 => IsD W v d'
              | 11 => v = .bool r'
              | 12 => True
              | _ => v = .bool r') ?start ?each ?fin
          case start => exact ⟨hOwn, hOth, hbW.drew, f2, hbr⟩
          case each =>
            clear hOwn hOth hbW f2 hbr
            intro i hi done a W hi0 hcl hcl' hold hp hW K hK
            rcases i with _ | _ | _ | _ | _ | _ | _ | _ | _ | _ | _ | _ | _ | i
            · have s := hold 11 rfl
              have f12 : done 12 = false := by
                cases h : done 12 with
                | false => rfl
                | true => exact absurd ((hcl 12 _ rfl h ⟨0, .phase⟩ (by simp) rfl).symm.trans hi0) (by decide)
              simp only [f12, Bool.false_eq_true, if_false] at hW
              obtain ⟨hX, hY, hB, hC, hb0⟩ := hW
              have hX' := hX
              obtain ⟨P0, d0, P1, d1, bx, bd⟩ := hX'
              obtain ⟨m0, m1, m2, m3⟩ := bx.c4
              refine wpOp_of rfl rfl ?_
              simp at s
              go_simp
              exact hK _ _ (by simp) (by simp only [f12, Bool.false_or, Nat.reduceBEq, Bool.false_eq_true, if_false]; exact ⟨hX, hY, hB, hC, hb0⟩) (fun _ _ _ h => h) bd
            · have s := hold 14 rfl
              have f12 : done 12 = false := by
                cases h : done 12 with
                | false => rfl
                | true => exact absurd ((hcl 12 _ rfl h ⟨1, .phase⟩ (by simp) rfl).symm.trans hi0) (by decide)
              simp only [f12, Bool.false_eq_true, if_false] at hW
              obtain ⟨hX, hY, hB, hC, hb0⟩ := hW
              refine wpOp_of rfl rfl ?_
              simp at s
              go_simp
              exact hK _ _ (by simp) (by simp only [f12, Bool.false_or, Nat.reduceBEq, Nat.reduceAdd, Bool.false_eq_true, if_false]; exact ⟨hX, hY, hB, hC, hb0⟩) (fun _ _ _ h => h) rfl
            · have s := hold 0 rfl
              have f12 : done 12 = false := by
                cases h : done 12 with
                | false => rfl
                | true => exact absurd ((hcl 12 _ rfl h ⟨2, .phase⟩ (by simp) rfl).symm.trans hi0) (by decide)
              simp only [f12, Bool.false_eq_true, if_false] at hW
              obtain ⟨hX, hY, hB, hC, hb0⟩ := hW
              refine wpOp_of rfl rfl ?_
              simp at s
              go_simp
              exact hK _ _ (by simp) (by simp only [f12, Bool.false_or, Nat.reduceBEq, Nat.reduceAdd, Bool.false_eq_true, if_false]; exact ⟨hX, hY, hB, hC, hb0⟩) (fun _ _ _ h => h) rfl
            · have s := hold 13 rfl
              have f12 : done 12 = false := by
                cases h : done 12 with
                | false => rfl
                | true => exact absurd ((hcl 12 _ rfl h ⟨3, .phase⟩ (by simp) rfl).symm.trans hi0) (by decide)
              simp only [f12, Bool.false_eq_true, if_false] at hW
              obtain ⟨hX, hY, hB, hC, hb0⟩ := hW
              refine wpOp_of rfl rfl ?_
              simp at s
              go_simp
              exact hK _ _ (by simp) (by simp only [f12, Bool.false_or, Nat.reduceBEq, Nat.reduceAdd, Bool.false_eq_true, if_false]; exact ⟨hX, hY, hB, hC, hb0⟩) (fun _ _ _ h => h) rfl
            · simp [predsOf, Region.binds, slotV] at hp
              have f12 : done 12 = false := by
                cases h : done 12 with
                | false => rfl
                | true => exact absurd ((hcl 12 _ rfl h ⟨4, .phase⟩ (by simp) rfl).symm.trans hi0) (by decide)
              simp only [f12, Bool.false_eq_true, if_false] at hW
              obtain ⟨hX, hY, hB, hC, hb0⟩ := hW
              refine wpOp_of rfl rfl ?_
              go_simp
              exact hK _ _ (by simp) (by simp only [f12, Bool.false_or, Nat.reduceBEq, Nat.reduceAdd, Bool.false_eq_true, if_false]; exact ⟨hX, hY, hB, hC, hb0⟩) (fun _ _ _ h => h) rfl
            · simp [predsOf, Region.binds, slotV] at hp
              have f12 : done 12 = false := by
                cases h : done 12 with
                | false => rfl
                | true => exact absurd ((hcl 12 _ rfl h ⟨5, .phase⟩ (by simp) rfl).symm.trans hi0) (by decide)
              simp only [f12, Bool.false_eq_true, if_false] at hW
              obtain ⟨hX, hY, hB, hC, hb0⟩ := hW
              refine wpOp_of rfl rfl ?_
              go_simp
              exact hK _ _ (by simp) (by simp only [f12, Bool.false_or, Nat.reduceBEq, Nat.reduceAdd, Bool.false_eq_true, if_false]; exact ⟨hX, hY, hB, hC, hb0⟩) (fun _ _ _ h => h) rfl
            · simp [predsOf, Region.binds, slotV] at hp
              have f12 : done 12 = false := by
                cases h : done 12 with
                | false => rfl
                | true => exact absurd ((hcl 12 _ rfl h ⟨6, .phase⟩ (by simp) rfl).symm.trans hi0) (by decide)
              simp only [f12, Bool.false_eq_true, if_false] at hW
              obtain ⟨hX, hY, hB, hC, hb0⟩ := hW
              refine wpOp_of rfl rfl ?_
              go_simp
              exact hK _ _ (by simp) (by simp only [f12, Bool.false_or, Nat.reduceBEq, Nat.reduceAdd, Bool.false_eq_true, if_false]; exact ⟨hX, hY, hB, hC, hb0⟩) (fun _ _ _ h => h) rfl
            · simp [predsOf, Region.binds, slotV] at hp
              have f12 : done 12 = false := by
                cases h : done 12 with
                | false => rfl
                | true => exact absurd ((hcl 12 _ rfl h ⟨7, .phase⟩ (by simp) rfl).symm.trans hi0) (by decide)
              simp only [f12, Bool.false_eq_true, if_false] at hW
              obtain ⟨hX, hY, hB, hC, hb0⟩ := hW
              refine wpOp_of rfl rfl ?_
              go_simp
              refine (block_any a2 b2 b2' _).mono ?_
              rintro e W' ⟨rfl, hb⟩
              exact hK _ _ (by simp) (by simp only [f12, Bool.false_or, Nat.reduceBEq, Nat.reduceAdd, Bool.false_eq_true, if_false]; exact ⟨hX.below hb, hY.below hb, hB.trans (hb.mono hB.size), (hb.cell hb0).trans hC, Nat.lt_of_lt_of_le hb0 hb.size⟩) (fun j v' _ h => by rcases j with _ | _ | _ | _ | _ | _ | _ | _ | _ | _ | _ | _ | _ | j <;> first | exact h | exact IsD.below h hb | (obtain ⟨v1, q1, q2⟩ := h; exact ⟨v1, q1, q2.below hb⟩)) rfl
            · simp [predsOf, Region.binds, slotV] at hp
              have f12 : done 12 = false := by
                cases h : done 12 with
                | false => rfl
                | true => exact absurd ((hcl 12 _ rfl h ⟨8, .phase⟩ (by simp) rfl).symm.trans hi0) (by decide)
              simp only [f12, Bool.false_eq_true, if_false] at hW
              obtain ⟨hX, hY, hB, hC, hb0⟩ := hW
              refine wpOp_of rfl rfl ?_
              have p1 := hp.1
              have p2 := hp.2
              clear hp
              go_simp
              refine (write_any _ d x (blk a2) _ p1 (by rw [hG.len]; decide) (by have := hG.wait; omega) hG.arm0 (by have := hG.arm; omega)).mono ?_
              rintro e W' ⟨v', rfl, hD', hb⟩
              rw [hM] at hD' ⊢
              exact hK _ _ (by simp) (by simp only [f12, Bool.false_or, Nat.reduceBEq, Nat.reduceAdd, Bool.false_eq_true, if_false]; exact ⟨hX.below hb, hY.below hb, hB.trans (hb.mono hB.size), (hb.cell hb0).trans hC, Nat.lt_of_lt_of_le hb0 hb.size⟩) (fun j v' _ h => by rcases j with _ | _ | _ | _ | _ | _ | _ | _ | _ | _ | _ | _ | _ | j <;> first | exact h | exact IsD.below h hb | (obtain ⟨v1, q1, q2⟩ := h; exact ⟨v1, q1, q2.below hb⟩)) ⟨v', rfl, hD'⟩
            · simp [predsOf, Region.binds, slotV] at hp
              have f12 : done 12 = false := by
                cases h : done 12 with
                | false => rfl
                | true => exact absurd ((hcl 12 _ rfl h ⟨9, .phase⟩ (by simp) rfl).symm.trans hi0) (by decide)
              simp only [f12, Bool.false_eq_true, if_false] at hW
              obtain ⟨hX, hY, hB, hC, hb0⟩ := hW
              obtain ⟨v1, q1, q2⟩ := hp
              refine wpOp_of rfl rfl ?_
              go_simp
              exact hK _ _ (by simp) (by simp only [f12, Bool.false_or, Nat.reduceBEq, Nat.reduceAdd, Bool.false_eq_true, if_false]; exact ⟨hX, hY, hB, hC, hb0⟩) (fun _ _ _ h => h) ⟨v1, rfl, q2⟩
            · simp [predsOf, Region.binds, slotV] at hp
              have f12 : done 12 = false := by
                cases h : done 12 with
                | false => rfl
                | true => exact absurd ((hcl 12 _ rfl h ⟨10, .phase⟩ (by simp) rfl).symm.trans hi0) (by decide)
              simp only [f12, Bool.false_eq_true, if_false] at hW
              obtain ⟨hX, hY, hB, hC, hb0⟩ := hW
              obtain ⟨v1, q1, q2⟩ := hp
              refine wpOp_of rfl rfl ?_
              go_simp
              exact hK _ _ (by simp) (by simp only [f12, Bool.false_or, Nat.reduceBEq, Nat.reduceAdd, Bool.false_eq_true, if_false]; exact ⟨hX, hY, hB, hC, hb0⟩) (fun _ _ _ h => h) q2
            · simp [predsOf, Region.binds, slotV] at hp
              obtain ⟨v1, q1, q2⟩ := hp
              refine wpOp_of rfl rfl ?_
              go_simp
              exact hK _ _ (by simp) (by simpa using hW) (fun _ _ _ h => h) rfl
            · have s := hold 11 rfl
              simp [predsOf, Region.binds, slotV] at hp
              have f12 : done 12 = false := hi0
              simp only [f12, Bool.false_eq_true, if_false] at hW
              obtain ⟨⟨P0, d0, P1, d1, bx, bd⟩, hY, hB, hC, hb0⟩ := hW
              have p1 := hp.1
              clear hp
              obtain ⟨A', c', A1', c1', hv, _, _⟩ := p1.open_
              rw [HG.len] at hv
              rw [hv] at p1
              obtain ⟨m0, m1, m2, m3, l0, l1, l2, l3⟩ := bx.four
              refine wpOp_of rfl rfl ?_
              simp at s
              go_simp
              exact hK undef _ (by simp) (by simp; exact ⟨⟨A', c', A1', c1', bx.put4 _ _ _ _, p1.far4 bx _ _ _ _⟩, hY.far4 bx (Ne.symm hab) _ _ _ _, below_set4 hB hga _ _ _ _, (cell_s4 (by omega) _ _ _ _).trans hC, hb0⟩) (fun j v' _ h => by rcases j with _ | _ | _ | _ | _ | _ | _ | _ | _ | _ | _ | _ | _ | j <;> first | exact h | exact IsD.far4 h bx _ _ _ _ | (obtain ⟨v1, q1, q2⟩ := h; exact ⟨v1, q1, q2.far4 bx _ _ _ _⟩)) trivial
            · have i0 : i = 0 := by simp at hi; omega
              subst i0
              simp [predsOf, Region.binds, slotV] at hp
              have p1 := hp.1
              clear hp
              refine wpOp_of rfl rfl ?_
              go_simp
              exact hK _ _ (by simp) (by simpa using hW) (fun _ _ _ h => h) rfl
          case fin =>
            intro vs W done hRs hall ⟨hA, hY, hBel, hC, hb0⟩
            have e12 := hall 12 (by decide)
            simp only [e12, if_true] at hA
            have hr := hRs 13 (by decide)
            simp at hr
            simp only [putAll, List.foldl_cons, List.foldl_nil, Act.put, List.setIfInBounds_toArray, List.set_cons_succ, List.set_cons_zero, hr]
            go_wp2_with fail
            go_meet
            exact ⟨rfl, hA, hY, hBel, hC, hb0⟩
        case rest =>
        clear hOwn hOth hbW f2 hbr
        obtain ⟨rfl, hOth, hOwn, hbW, f2, hbr⟩ := hcut
        rename World => wr
        go_upto_region 15 with fail
        refine wp_region_rel2 Try.checked.mixed (by kernel_rfl)
          (fun done W => (if done 12 = true then DBox W gb d' else DBox W gb d) ∧ DBox W ga d' ∧ Below w.heap.size w W ∧ W.cell? ⟨b, o + k * 3 + 2, none⟩ = some (.int .u8 a2) ∧ b < W.heap.size)
          (fun i v W => match i with
            | 0 => IsD W v d
            | 1 => v = .int .i64 x
            | 2 => v = .slice (some ⟨b, o, none⟩) n1 cap
            | 3 => v = .int .i64 (k : Int)
            | 4 => v = .pointer (some ⟨b, o + k * 3, none⟩)
            | 5 => v = .pointer (some ⟨b, o + k * 3 + 2, none⟩)
            | 6 => v = .int .u8 a2
            | 7 => v = .string (blk a2)
            | 8 => ∃ v', v = .tuple #[v', .bool r'] ∧ IsD W v' d'
            | 9 => ∃ v', v = .tuple #[v', .bool r'] ∧ IsD W v' d'
            | 10 => IsD W v d'
            | 11 => v = .bool r'
            | 12 => True
            | _ => v = .bool r') ?start ?each ?fin
        case start => exact ⟨hOwn, hOth, hbW.drew, f2, hbr⟩
        case each =>
          clear hOwn hOth hbW f2 hbr
          intro i hi done a W hi0 hcl hcl' hold hp hW K hK
          rcases i with _ | _ | _ | _ | _ | _ | _ | _ | _ | _ | _ | _ | _ | i
          · have s := hold 12 rfl
            have f12 : done 12 = false := by
              cases h : done 12 with
              | false => rfl
              | true => exact absurd ((hcl 12 _ rfl h ⟨0, .phase⟩ (by simp) rfl).symm.trans hi0) (by decide)
            simp only [f12, Bool.false_eq_true, if_false] at hW
            obtain ⟨hX, hY, hB, hC, hb0⟩ := hW
            have hX' := hX
            obtain ⟨P0, d0, P1, d1, bx, bd⟩ := hX'
            obtain ⟨m0, m1, m2, m3⟩ := bx.c4
            refine wpOp_of rfl rfl ?_
            simp at s
            go_simp
            exact hK _ _ (by simp) (by simp only [f12, Bool.false_or, Nat.reduceBEq, Bool.false_eq_true, if_false]; exact ⟨hX, hY, hB, hC, hb0⟩) (fun _ _ _ h => h) bd
          · have s := hold 14 rfl
            have f12 : done 12 = false := by
              cases h : done 12 with
              | false => rfl
              | true => exact absurd ((hcl 12 _ rfl h ⟨1, .phase⟩ (by simp) rfl).symm.trans hi0) (by decide)
            simp only [f12, Bool.false_eq_true, if_false] at hW
            obtain ⟨hX, hY, hB, hC, hb0⟩ := hW
            refine wpOp_of rfl rfl ?_
            simp at s
            go_simp
            exact hK _ _ (by simp) (by simp only [f12, Bool.false_or, Nat.reduceBEq, Nat.reduceAdd, Bool.false_eq_true, if_false]; exact ⟨hX, hY, hB, hC, hb0⟩) (fun _ _ _ h => h) rfl
          · have s := hold 0 rfl
            have f12 : done 12 = false := by
              cases h : done 12 with
              | false => rfl
              | true => exact absurd ((hcl 12 _ rfl h ⟨2, .phase⟩ (by simp) rfl).symm.trans hi0) (by decide)
            simp only [f12, Bool.false_eq_true, if_false] at hW
            obtain ⟨hX, hY, hB, hC, hb0⟩ := hW
            refine wpOp_of rfl rfl ?_
            simp at s
            go_simp
            exact hK _ _ (by simp) (by simp only [f12, Bool.false_or, Nat.reduceBEq, Nat.reduceAdd, Bool.false_eq_true, if_false]; exact ⟨hX, hY, hB, hC, hb0⟩) (fun _ _ _ h => h) rfl
          · have s := hold 13 rfl
            have f12 : done 12 = false := by
              cases h : done 12 with
              | false => rfl
              | true => exact absurd ((hcl 12 _ rfl h ⟨3, .phase⟩ (by simp) rfl).symm.trans hi0) (by decide)
            simp only [f12, Bool.false_eq_true, if_false] at hW
            obtain ⟨hX, hY, hB, hC, hb0⟩ := hW
            refine wpOp_of rfl rfl ?_
            simp at s
            go_simp
            exact hK _ _ (by simp) (by simp only [f12, Bool.false_or, Nat.reduceBEq, Nat.reduceAdd, Bool.false_eq_true, if_false]; exact ⟨hX, hY, hB, hC, hb0⟩) (fun _ _ _ h => h) rfl
          · simp [predsOf, Region.binds, slotV] at hp
            have f12 : done 12 = false := by
              cases h : done 12 with
              | false => rfl
              | true => exact absurd ((hcl 12 _ rfl h ⟨4, .phase⟩ (by simp) rfl).symm.trans hi0) (by decide)
            simp only [f12, Bool.false_eq_true, if_false] at hW
            obtain ⟨hX, hY, hB, hC, hb0⟩ := hW
            refine wpOp_of rfl rfl ?_
            go_simp
            exact hK _ _ (by simp) (by simp only [f12, Bool.false_or, Nat.reduceBEq, Nat.reduceAdd, Bool.false_eq_true, if_false]; exact ⟨hX, hY, hB, hC, hb0⟩) (fun _ _ _ h => h) rfl
          · simp [predsOf, Region.binds, slotV] at hp
            have f12 : done 12 = false := by
              cases h : done 12 with
              | false => rfl
              | true => exact absurd ((hcl 12 _ rfl h ⟨5, .phase⟩ (by simp) rfl).symm.trans hi0) (by decide)
            simp only [f12, Bool.false_eq_true, if_false] at hW
            obtain ⟨hX, hY, hB, hC, hb0⟩ := hW
            refine wpOp_of rfl rfl ?_
            go_simp
            exact hK _ _ (by simp) (by simp only [f12, Bool.false_or, Nat.reduceBEq, Nat.reduceAdd, Bool.false_eq_true, if_false]; exact ⟨hX, hY, hB, hC, hb0⟩) (fun _ _ _ h => h) rfl
          · simp [predsOf, Region.binds, slotV] at hp
            have f12 : done 12 = false := by
              cases h : done 12 with
              | false => rfl
              | true => exact absurd ((hcl 12 _ rfl h ⟨6, .phase⟩ (by simp) rfl).symm.trans hi0) (by decide)
            simp only [f12, Bool.false_eq_true, if_false] at hW
            obtain ⟨hX, hY, hB, hC, hb0⟩ := hW
            refine wpOp_of rfl rfl ?_
            go_simp
            exact hK _ _ (by simp) (by simp only [f12, Bool.false_or, Nat.reduceBEq, Nat.reduceAdd, Bool.false_eq_true, if_false]; exact ⟨hX, hY, hB, hC, hb0⟩) (fun _ _ _ h => h) rfl
          · simp [predsOf, Region.binds, slotV] at hp
            have f12 : done 12 = false := by
              cases h : done 12 with
              | false => rfl
              | true => exact absurd ((hcl 12 _ rfl h ⟨7, .phase⟩ (by simp) rfl).symm.trans hi0) (by decide)
            simp only [f12, Bool.false_eq_true, if_false] at hW
            obtain ⟨hX, hY, hB, hC, hb0⟩ := hW
            refine wpOp_of rfl rfl ?_
            go_simp
            refine (block_any a2 b2 b2' _).mono ?_
            rintro e W' ⟨rfl, hb⟩
            exact hK _ _ (by simp) (by simp only [f12, Bool.false_or, Nat.reduceBEq, Nat.reduceAdd, Bool.false_eq_true, if_false]; exact ⟨hX.below hb, hY.below hb, hB.trans (hb.mono hB.size), (hb.cell hb0).trans hC, Nat.lt_of_lt_of_le hb0 hb.size⟩) (fun j v' _ h => by rcases j with _ | _ | _ | _ | _ | _ | _ | _ | _ | _ | _ | _ | _ | j <;> first | exact h | exact IsD.below h hb | (obtain ⟨v1, q1, q2⟩ := h; exact ⟨v1, q1, q2.below hb⟩)) rfl
          · simp [predsOf, Region.binds, slotV] at hp
            have f12 : done 12 = false := by
              cases h : done 12 with
              | false => rfl
              | true => exact absurd ((hcl 12 _ rfl h ⟨8, .phase⟩ (by simp) rfl).symm.trans hi0) (by decide)
            simp only [f12, Bool.false_eq_true, if_false] at hW
            obtain ⟨hX, hY, hB, hC, hb0⟩ := hW
            refine wpOp_of rfl rfl ?_
            have p1 := hp.1
            have p2 := hp.2
            clear hp
            go_simp
            refine (rwrite_any _ d x (blk a2) _ p1 (by have := hG.wait; omega) hG.arm0 (by have := hG.arm; omega)).mono ?_
            rintro e W' ⟨v', rfl, hD', hb⟩
            rw [hM] at hD' ⊢
            exact hK _ _ (by simp) (by simp only [f12, Bool.false_or, Nat.reduceBEq, Nat.reduceAdd, Bool.false_eq_true, if_false]; exact ⟨hX.below hb, hY.below hb, hB.trans (hb.mono hB.size), (hb.cell hb0).trans hC, Nat.lt_of_lt_of_le hb0 hb.size⟩) (fun j v' _ h => by rcases j with _ | _ | _ | _ | _ | _ | _ | _ | _ | _ | _ | _ | _ | j <;> first | exact h | exact IsD.below h hb | (obtain ⟨v1, q1, q2⟩ := h; exact ⟨v1, q1, q2.below hb⟩)) ⟨v', rfl, hD'⟩
          · simp [predsOf, Region.binds, slotV] at hp
            have f12 : done 12 = false := by
              cases h : done 12 with
              | false => rfl
              | true => exact absurd ((hcl 12 _ rfl h ⟨9, .phase⟩ (by simp) rfl).symm.trans hi0) (by decide)
            simp only [f12, Bool.false_eq_true, if_false] at hW
            obtain ⟨hX, hY, hB, hC, hb0⟩ := hW
            obtain ⟨v1, q1, q2⟩ := hp
            refine wpOp_of rfl rfl ?_
            go_simp
            exact hK _ _ (by simp) (by simp only [f12, Bool.false_or, Nat.reduceBEq, Nat.reduceAdd, Bool.false_eq_true, if_false]; exact ⟨hX, hY, hB, hC, hb0⟩) (fun _ _ _ h => h) ⟨v1, rfl, q2⟩
          · simp [predsOf, Region.binds, slotV] at hp
            have f12 : done 12 = false := by
              cases h : done 12 with
              | false => rfl
              | true => exact absurd ((hcl 12 _ rfl h ⟨10, .phase⟩ (by simp) rfl).symm.trans hi0) (by decide)
            simp only [f12, Bool.false_eq_true, if_false] at hW
            obtain ⟨hX, hY, hB, hC, hb0⟩ := hW
            obtain ⟨v1, q1, q2⟩ := hp
            refine wpOp_of rfl rfl ?_
            go_simp
            exact hK _ _ (by simp) (by simp only [f12, Bool.false_or, Nat.reduceBEq, Nat.reduceAdd, Bool.false_eq_true, if_false]; exact ⟨hX, hY, hB, hC, hb0⟩) (fun _ _ _ h => h) q2
          · simp [predsOf, Region.binds, slotV] at hp
            obtain ⟨v1, q1, q2⟩ := hp
            refine wpOp_of rfl rfl ?_
            go_simp
            exact hK _ _ (by simp) (by simpa using hW) (fun _ _ _ h => h) rfl
          · have s := hold 12 rfl
            simp [predsOf, Region.binds, slotV] at hp
            have f12 : done 12 = false := hi0
            simp only [f12, Bool.false_eq_true, if_false] at hW
            obtain ⟨⟨P0, d0, P1, d1, bx, bd⟩, hY, hB, hC, hb0⟩ := hW
            have p1 := hp.1
            clear hp
            obtain ⟨A', c', A1', c1', hv, _, _⟩ := p1.open_
            rw [HG.len] at hv
            rw [hv] at p1
            obtain ⟨m0, m1, m2, m3, l0, l1, l2, l3⟩ := bx.four
            refine wpOp_of rfl rfl ?_
            simp at s
            go_simp
            exact hK undef _ (by simp) (by simp; exact ⟨⟨A', c', A1', c1', bx.put4 _ _ _ _, p1.far4 bx _ _ _ _⟩, hY.far4 bx hab _ _ _ _, below_set4 hB hgb _ _ _ _, (cell_s4 (by omega) _ _ _ _).trans hC, hb0⟩) (fun j v' _ h => by rcases j with _ | _ | _ | _ | _ | _ | _ | _ | _ | _ | _ | _ | _ | j <;> first | exact h | exact IsD.far4 h bx _ _ _ _ | (obtain ⟨v1, q1, q2⟩ := h; exact ⟨v1, q1, q2.far4 bx _ _ _ _⟩)) trivial
          · have i0 : i = 0 := by simp at hi; omega
            subst i0
            simp [predsOf, Region.binds, slotV] at hp
            have p1 := hp.1
            clear hp
            refine wpOp_of rfl rfl ?_
            go_simp
            exact hK _ _ (by simp) (by simpa using hW) (fun _ _ _ h => h) rfl
        case fin =>
          intro vs W done hRs hall ⟨hA, hY, hBel, hC, hb0⟩
          have e12 := hall 12 (by decide)
          simp only [e12, if_true] at hA
          have hr := hRs 13 (by decide)
          simp at hr
          simp only [putAll, List.foldl_cons, List.foldl_nil, Act.put, List.setIfInBounds_toArray, List.set_cons_succ, List.set_cons_zero, hr]
          go_wp2_with fail
          go_meet
          exact ⟨r', rfl, rfl, d', HG, hY, hA, hBel⟩
      case rest =>
        as_aux_lemma =>
          clear hXa hXb hDa hDb hbW f0 f1 f2 x0 x1 x2 x3 y0 y1 y2 y3 r0 r1 r2 r3 s0 s1 s2 s3 hla hlb hG
          obtain ⟨β, rfl, rfl, d, hG, ⟨A0, c0, A1, c1, hXa, hDa⟩, ⟨B0, e0, B1, e1, hXb, hDb⟩, hbW⟩ := hcut
          have hβ : (β != β) = false := by cases β <;> rfl
          obtain ⟨x0, x1, x2, x3, _, _, _, _⟩ := hXa.four
          obtain ⟨r0, r1, r2, r3, _, _, _, _⟩ := hXb.four
          go_wp2_with fail
          refine (same_any _ _ d _ hDa hDb (by rw [hG.len]; decide) (by have := hG.wait; omega)).mono ?_
          rintro e w2 ⟨rfl, hb2⟩
          clear x0 x1 x2 x3 r0 r1 r2 r3
          go_wp2
          go_roundw
          case rel => exact ⟨k + 1, by omega, by go_num, d, hG, ⟨A0, c0, A1, c1, hXa.below hb2 hXa.lt, hDa.below hb2⟩, ⟨B0, e0, B1, e1, hXb.below hb2 hXb.lt, hDb.below hb2⟩, hbW.trans (hb2.mono hbW.size)⟩
          case measure => simp [intOf]; omega
    · have hla := hXa.lt
      have hlb := hXb.lt
      have hcl : (M.crash d ks).last.length ≤ 65536 := by have := (dok_crash (ks := ks) hG).len; omega
      have hcw : (M.crash d ks).wait.length ≤ 65536 := by have := (dok_crash (ks := ks) hG).wait; omega
      have hnl : (M.new n).last.length ≤ 65536 ∧ (M.new n).wait.length ≤ 65536 := new_len (h := rfl)
      have h3W := h3.below hbW
      have hdl : d.last.length ≤ 65536 := by rw [hG.len]; decide
      have hdw : d.wait.length ≤ 65536 := by have := hG.wait; omega
      go_wp2_with fail
      clear h hz hb t1 t2 t3 hG h3
      refine wp_region_grow Try.checked.mixed (by kernel_rfl) (fun W => Bx W ga 28 #[.slice A0 4 c0, .slice A1 d.wait.length c1, .int .i64 d.arm, .bool d.down] ∧ Bx W gb 28 #[.slice B0 4 e0, .slice B1 d.wait.length e1, .int .i64 d.arm, .bool d.down] ∧ IsD W (.agg #[.slice A0 4 c0, .slice A1 d.wait.length c1, .int .i64 d.arm, .bool d.down]) d ∧ IsD W (.agg #[.slice B0 4 e0, .slice B1 d.wait.length e1, .int .i64 d.arm, .bool d.down]) d ∧ Sl W 1 (.slice A3 n3 cap3) n3 (ks.map Value.bool) ∧ Below w.heap.size w W)
        (fun i v W => match i with
          | 0 => IsD W v d
          | 1 => v = .slice A3 n3 cap3
          | 2 => IsD W v (M.crash d ks)
          | 3 => IsD W v d
          | 4 => v = .slice A3 n3 cap3
          | 5 => IsD W v (M.crash d ks)
          | 6 => v = .bool true
          | 7 => v = .bool true
          | 8 => v = .int .i64 n
          | 9 => v = .bool (decide ((900 : Int) < n))
          | 10 => v = .bool (decide ((900 : Int) < n))
          | 11 => n ≤ 900 → v = .int .i64 n
          | 12 => n ≤ 900 → IsD W v (M.new n)
          | 13 => n ≤ 900 → v = .int .i64 n
          | 14 => n ≤ 900 → IsD W v (M.new n)
          | 15 => n ≤ 900 → v = .bool true
          | 16 => v = .bool true
          | 17 => v = .bool true
          | _ => v = .bool true) ?hS ?hR ?start ?each ?fin
      case hS =>
        rintro W W' ⟨h1, h2, h3, h4, h5, h6⟩ hb
        exact ⟨h1.below hb h1.lt, h2.below hb h2.lt, h3.below hb, h4.below hb, h5.below hb, h6.trans (hb.mono h6.size)⟩
      case hR =>
        intro j v W W' h hb
        rcases j with _ | _ | _ | _ | _ | _ | _ | _ | _ | _ | _ | _ | _ | _ | _ | _ | _ | _ | j <;> first | exact h | exact IsD.below h hb | exact fun h9 => IsD.below (h h9) hb
      case start => exact ⟨hXa, hXb, hDa, hDb, h3W, hbW.drew⟩
      case each =>
        clear hXa hXb hDa hDb h3W hbW hla hlb
        intro i hi a W hold hp ⟨h1, h2, h3, h4, h5, h6⟩ K hK
        rcases i with _ | _ | _ | _ | _ | _ | _ | _ | _ | _ | _ | _ | _ | _ | _ | _ | _ | _ | i
        · have s := hold 11 rfl
          obtain ⟨x0, x1, x2, x3⟩ := h1.c4
          refine wpOp_of rfl rfl ?_
          simp at s
          go_simp
          exact hK _ _ (by simp) (Below.refl _ _) h3
        · have s := hold 3 rfl
          refine wpOp_of rfl rfl ?_
          simp at s
          go_simp
          exact hK _ _ (by simp) (Below.refl _ _) rfl
        · simp [predsOf, Region.binds, slotV] at hp
          refine wpOp_of rfl rfl ?_
          obtain ⟨p1, p2⟩ := hp
          go_simp
          refine (crash_n _ d A3 n3 cap3 ks _ p1 h5 HK.out hdl hdw (by omega)).mono ?_
          rintro e W' ⟨v', rfl, hD, hb⟩
          exact hK _ _ (by simp) hb hD
        · have s := hold 12 rfl
          obtain ⟨x0, x1, x2, x3⟩ := h2.c4
          refine wpOp_of rfl rfl ?_
          simp at s
          go_simp
          exact hK _ _ (by simp) (Below.refl _ _) h4
        · have s := hold 3 rfl
          refine wpOp_of rfl rfl ?_
          simp at s
          go_simp
          exact hK _ _ (by simp) (Below.refl _ _) rfl
        · simp [predsOf, Region.binds, slotV] at hp
          refine wpOp_of rfl rfl ?_
          obtain ⟨p1, p2, _⟩ := hp
          go_simp
          refine (rcrash_any _ d A3 n3 cap3 ks _ p1 h5 HK.out hdl hdw (by omega)).mono ?_
          rintro e W' ⟨v', rfl, hD, hb⟩
          exact hK _ _ (by simp) hb hD
        · simp [predsOf, Region.binds, slotV] at hp
          refine wpOp_of rfl rfl ?_
          obtain ⟨p1, p2⟩ := hp
          go_simp
          refine (same_any _ _ (M.crash d ks) _ p1 p2 hcl hcw).mono ?_
          rintro e W' ⟨rfl, hb⟩
          exact hK _ _ (by simp) hb rfl
        · simp [predsOf, Region.binds, slotV] at hp
          refine wpOp_of rfl rfl ?_
          go_simp
          exact hK _ _ (by simp) (Below.refl _ _) rfl
        · have s := hold 4 rfl
          simp [predsOf, Region.binds, slotV] at hp
          have hg := slot_bool (x := a.tmps[201]?) (b := true) (by simp [hp])
          refine wpOp_of rfl (by simp [Region.wanted, yielded, hg]) ?_
          simp at s
          go_simp
          exact hK _ _ (by simp) (Below.refl _ _) rfl
        · simp [predsOf, Region.binds, slotV] at hp
          have hg := slot_bool (x := a.tmps[201]?) (b := true) (by simp [hp])
          refine wpOp_of rfl (by simp [Region.wanted, yielded, hg]) ?_
          go_simp
          exact hK _ _ (by simp) (Below.refl _ _) rfl
        · simp [predsOf, Region.binds, slotV] at hp
          have hg := slot_bool (x := a.tmps[201]?) (b := true) (by simp [hp])
          refine wpOp_of rfl (by simp [Region.wanted, yielded, hg]) ?_
          go_simp
          exact hK _ _ (by simp) (Below.refl _ _) rfl
        · have s := hold 4 rfl
          simp at s
          simp [predsOf, Region.binds, slotV] at hp
          have hg := slot_bool (x := a.tmps[204]?) (b := decide (900 < n)) (by simp [hp])
          by_cases h9 : n ≤ 900
          · have h9' : decide ((900 : Int) < n) = false := by simp; omega
            refine wpOp_of rfl (by simp [Region.wanted, yielded, hg, h9']) ?_
            go_simp
            exact hK _ _ (by simp) (Below.refl _ _) (fun _ => rfl)
          · have h9' : decide ((900 : Int) < n) = true := by simp; omega
            exact wpOp_off rfl (by simp [Region.wanted, yielded, hg, h9']) (hK _ _ (by simp) (Below.refl _ _) (fun h => absurd h h9))
        · simp [predsOf, Region.binds, slotV] at hp
          have hg := slot_bool (x := a.tmps[204]?) (b := decide (900 < n)) (by simp [hp])
          by_cases h9 : n ≤ 900
          · have h9' : decide ((900 : Int) < n) = false := by simp; omega
            refine wpOp_of rfl (by simp [Region.wanted, yielded, hg, h9']) ?_
            have p1 := hp.1 h9
            go_simp
            refine (new_any n _).mono ?_
            rintro e W' ⟨v', rfl, hD, hb⟩
            exact hK _ _ (by simp) hb (fun _ => hD)
          · have h9' : decide ((900 : Int) < n) = true := by simp; omega
            exact wpOp_off rfl (by simp [Region.wanted, yielded, hg, h9']) (hK _ _ (by simp) (Below.refl _ _) (fun h => absurd h h9))
        · have s := hold 4 rfl
          simp at s
          simp [predsOf, Region.binds, slotV] at hp
          have hg := slot_bool (x := a.tmps[204]?) (b := decide (900 < n)) (by simp [hp])
          by_cases h9 : n ≤ 900
          · have h9' : decide ((900 : Int) < n) = false := by simp; omega
            refine wpOp_of rfl (by simp [Region.wanted, yielded, hg, h9']) ?_
            go_simp
            exact hK _ _ (by simp) (Below.refl _ _) (fun _ => rfl)
          · have h9' : decide ((900 : Int) < n) = true := by simp; omega
            exact wpOp_off rfl (by simp [Region.wanted, yielded, hg, h9']) (hK _ _ (by simp) (Below.refl _ _) (fun h => absurd h h9))
        · simp [predsOf, Region.binds, slotV] at hp
          have hg := slot_bool (x := a.tmps[204]?) (b := decide (900 < n)) (by simp [hp])
          by_cases h9 : n ≤ 900
          · have h9' : decide ((900 : Int) < n) = false := by simp; omega
            refine wpOp_of rfl (by simp [Region.wanted, yielded, hg, h9']) ?_
            have p1 := hp.1 h9
            go_simp
            refine (rnew_any n _).mono ?_
            rintro e W' ⟨v', rfl, hD, hb⟩
            exact hK _ _ (by simp) hb (fun _ => hD)
          · have h9' : decide ((900 : Int) < n) = true := by simp; omega
            exact wpOp_off rfl (by simp [Region.wanted, yielded, hg, h9']) (hK _ _ (by simp) (Below.refl _ _) (fun h => absurd h h9))
        · simp [predsOf, Region.binds, slotV] at hp
          have hg := slot_bool (x := a.tmps[204]?) (b := decide (900 < n)) (by simp [hp])
          by_cases h9 : n ≤ 900
          · have h9' : decide ((900 : Int) < n) = false := by simp; omega
            refine wpOp_of rfl (by simp [Region.wanted, yielded, hg, h9']) ?_
            have p1 := hp.1 h9
            have p2 := hp.2.1 h9
            clear hp
            go_simp
            refine (same_any _ _ (M.new n) _ p1 p2 hnl.1 hnl.2).mono ?_
            rintro e W' ⟨rfl, hb⟩
            exact hK _ _ (by simp) hb (fun _ => rfl)
          · have h9' : decide ((900 : Int) < n) = true := by simp; omega
            exact wpOp_off rfl (by simp [Region.wanted, yielded, hg, h9']) (hK _ _ (by simp) (Below.refl _ _) (fun h => absurd h h9))
        · simp [predsOf, Region.binds, slotV] at hp
          have hg := slot_bool (x := a.tmps[201]?) (b := true) (by simp [hp])
          refine wpOp_of rfl (by simp [Region.wanted, yielded, hg]) ?_
          by_cases h9 : n ≤ 900
          · have h9' : decide ((900 : Int) < n) = false := by simp; omega
            have p1 := hp.1
            have p2 := hp.2.1 h9
            rw [h9'] at p1
            clear hp
            go_simp
            exact hK _ _ (by simp) (Below.refl _ _) rfl
          · have h9' : decide ((900 : Int) < n) = true := by simp; omega
            have p1 := hp.1
            rw [h9'] at p1
            clear hp
            go_simp
            exact hK _ _ (by simp) (Below.refl _ _) rfl
        · simp [predsOf, Region.binds, slotV] at hp
          refine wpOp_of rfl rfl ?_
          go_simp
          exact hK _ _ (by simp) (Below.refl _ _) rfl
        · have i0 : i = 0 := by simp at hi; omega
          subst i0
          simp [predsOf, Region.binds, slotV] at hp
          refine wpOp_of rfl rfl ?_
          have p1 := hp.1
          clear hp
          go_simp
          exact hK _ _ (by simp) (Below.refl _ _) rfl
      case fin =>
        intro vs W hRs ⟨_, _, _, _, _, h6⟩
        have hr := hRs 18 (by decide)
        simp at hr
        simp only [putAll, List.foldl_cons, List.foldl_nil, Act.put, List.setIfInBounds_toArray, List.set_cons_succ, List.set_cons_zero, hr]
        go_wp2
        go_ret
        exact ⟨rfl, h6⟩

end Go.Proofs.Ytgoggancldipcaa