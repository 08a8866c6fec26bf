/-
  The law DiskAll: its walk.
-/
import Derived.Test.YtgoggancldipcaaEf
import Derived.Deep.CutBlock
namespace Go.Proofs.Ytgoggancldipcaa
open Go.RowKit
set_option linter.unusedSimpArgs false
set_option linter.unusedVariables false

/-- What holds at the head of each round: both boxes hold one and the same disk. -/
structure DOk (d : D) (k : Nat) : Prop where
  len : d.last.length = 4
  wait : d.wait.length ≤ k
  arm0 : 0 ≤ d.arm
  arm : d.arm ≤ 5

theorem DOk.more {d : D} {k : Nat} (h : DOk d k) : DOk d (k + 1) := ⟨h.len, by have := h.wait; omega, h.arm0, h.arm⟩
theorem dok_flush {d d' : D} {k : Nat} {r : Bool} (h : DOk d k) (hM : M.flush d = (d', r)) : DOk d' (k + 1) := by
  unfold M.flush at hM
  split at hM
  · injection hM with h1 _; subst h1; exact h.more
  · injection hM with h1 _; subst h1
    exact ⟨by rw [M.lasting_length]; exact h.len, by simp, h.arm0, h.arm⟩
theorem dok_write {d d' : D} {k : Nat} {i : Int} {b : ByteArray} {r : Bool} (h : DOk d k) (hM : M.write d i b = (d', r)) : DOk d' (k + 1) := by
  unfold M.write at hM
  split at hM
  · injection hM with h1 _; subst h1
    have h1 := h.arm0
    have h2 := h.arm
    refine ⟨h.len, by have := h.wait; simp [M.pushed]; omega, ?_, ?_⟩ <;> simp only [M.pushed] <;> split <;> omega
  · injection hM with h1 _; subst h1; exact h.more
theorem dok_crash {d : D} {k : Nat} {ks : List Bool} (h : DOk d k) : DOk (M.crash d ks) (k + 1) :=
  ⟨by show (M.lasting _ _).length = 4; rw [M.lasting_length]; exact h.len, by simp [M.crash], by simp [M.crash], by simp [M.crash]⟩
theorem dok_arm {d : D} {k : Nat} (h : DOk d k) (v : Int) (h0 : 0 ≤ v) (h1 : v ≤ 5) : DOk ⟨d.last, d.wait, v, d.down⟩ (k + 1) := ⟨h.len, by have := h.wait; show d.wait.length ≤ _; omega, h0, h1⟩

def DBox (wr : World) (g : Nat) (d : D) : Prop :=
  ∃ A c A1 c1, Bx wr g 28 #[.slice A 4 c, .slice A1 d.wait.length c1, .int .i64 d.arm, .bool d.down] ∧ IsD wr (.agg #[.slice A 4 c, .slice A1 d.wait.length c1, .int .i64 d.arm, .bool d.down]) d

def DInv (w wr : World) (ga gb k : Nat) : Prop := ∃ d, DOk d k ∧ DBox wr ga d ∧ DBox wr gb d ∧ Below w.heap.size w wr

theorem new_len {n : Int} {l : List ByteArray} {wt : List (Int × ByteArray)} {arm : Int} {down : Bool} (h : M.new n = ⟨l, wt, arm, down⟩) : l.length ≤ 65536 ∧ wt.length ≤ 65536 := by
  unfold M.new at h
  split at h
  · injection h with h1 h2; subst h1 h2; simp
  · injection h with h1 h2; subst h1 h2; simp; omega
theorem Bx.set2 {w : World} {g : Nat} {t : TypeId} {p q r u : Value} (hx : Bx w g t #[p, q, r, u]) (a : Value) : Bx (w.setCell ⟨g, 2, none⟩ a) g t #[p, q, a, u] := by
  simpa using hx.set 2 a
theorem IsD.arm {w : World} {A : Option Addr} {n c : Nat} {A1 : Option Addr} {n1 c1 : Nat} {d : D} (h : IsD w (.agg #[.slice A n c, .slice A1 n1 c1, .int .i64 d.arm, .bool d.down]) d) (v : Int) : IsD w (.agg #[.slice A n c, .slice A1 n1 c1, .int .i64 v, .bool d.down]) ⟨d.last, d.wait, v, d.down⟩ := by
  obtain ⟨v0, v1, hv, t0, t1⟩ := h
  simp at hv
  obtain ⟨rfl, rfl⟩ := hv
  exact ⟨_, _, rfl, t0, t1⟩

set_option maxRecDepth 100000 in
set_option maxHeartbeats 16000000 in
theorem all_any (A : Option Addr) (n1 cap : Nat) (zs : List Int) (wild : Int) (s : ByteArray) (A3 : Option Addr) (n3 cap3 : Nat) (ks : List Bool) (n : Int) (w : World)
    (h : Sl w 3 (.slice A n1 cap) n1 (zs.map (Value.int .u8))) (hz : zs.length = n1 * 3) (hb : ∀ z ∈ zs, 0 ≤ z ∧ z ≤ 255)
    (h3 : Sl w 1 (.slice A3 n3 cap3) n3 (ks.map Value.bool)) (hks : ks.length = n3) :
    Calls Try.prog 3 #[.slice A n1 cap, .int .i64 wild, .string s, .slice A3 n3 cap3, .int .i64 n] w fun e w' => e = .returned (.bool true) ∧ Below w.heap.size w w' := by
  by_cases l1 : 30 < n1
  · as_aux_lemma =>
    clear h h3
    have t1 : decide ((30 : Int) < (n1 : Int)) = true := by simp; omega
    go_enter Try.func3, Try.ntmps3
    go_wp2_with fail
    refine (begun_any _).mono ?_
    rintro e w0 ⟨rfl, hb0⟩
    go_wp2
    go_ret
    exact ⟨rfl, hb0⟩
  by_cases l2 : 80 < s.size
  · as_aux_lemma =>
    clear h h3
    have t1 : decide ((30 : Int) < (n1 : Int)) = false := by simp; omega
    have t2 : decide ((80 : Int) < (s.size : Int)) = true := by simp; omega
    go_enter Try.func3, Try.ntmps3
    go_wp2_with fail
    refine (begun_any _).mono ?_
    rintro e w0 ⟨rfl, hb0⟩
    go_wp2
    go_ret
    exact ⟨rfl, hb0⟩
  by_cases l3 : 40 < n3
  · as_aux_lemma =>
    clear h h3
    have t1 : decide ((30 : Int) < (n1 : Int)) = false := by simp; omega
    have t2 : decide ((80 : Int) < (s.size : Int)) = false := by simp; omega
    have t3 : decide ((40 : Int) < (n3 : Int)) = true := by simp; omega
    go_enter Try.func3, Try.ntmps3
    go_wp2_with fail
    refine (begun_any _).mono ?_
    rintro e w0 ⟨rfl, hb0⟩
    go_wp2
    go_ret
    exact ⟨rfl, hb0⟩
  have t1 : decide ((30 : Int) < (n1 : Int)) = false := by simp; omega
  have t2 : decide ((80 : Int) < (s.size : Int)) = false := by simp; omega
  have t3 : decide ((40 : Int) < (n3 : Int)) = false := by simp; omega
  have HK := Lib.hid hks
  clear hks
  go_enter Try.func3, Try.ntmps3
  go_wp2_with fail
  refine (begun_any _).mono ?_
  rintro e w0 ⟨rfl, hb0⟩
  go_wp2_with fail
  refine (new_o 4 _ (good_new 4 (by decide) (by decide)).1 (n0 := 4) (n1 := 0) (by simp) rfl).mono ?_
  rintro e w1 ⟨A0, c0, A1, c1, rfl, hD, hb1⟩
  have hbw := hb0.trans (hb1.mono hb0.size)
  clear hb0 hb1
  go_wp2_with fail
  refine (rnew_o 4 _ (good_new 4 (by decide) (by decide)).1 (n0 := 4) (n1 := 0) (by simp) rfl).mono ?_
  rintro e w2 ⟨B0, e0, B1, e1, rfl, hE, hb2⟩
  have hbw2 := hbw.trans (hb2.mono hbw.size)
  have hD2 := hD.below hb2
  clear hD hbw hb2
  go_wp2
  have hXa := (Bx.new w2 28 #[.slice A0 4 c0, .slice A1 0 c1, .int .i64 0, .bool false]).alloc (.cells #[.slice B0 4 e0, .slice B1 0 e1, .int .i64 0, .bool false] 28)
  have hXb := Bx.new (w2.alloc (.cells #[.slice A0 4 c0, .slice A1 0 c1, .int .i64 0, .bool false] 28)) 28 #[.slice B0 4 e0, .slice B1 0 e1, .int .i64 0, .bool false]
  rw [World.size_alloc] at hXb
  have hDa := (hD2.alloc (.cells #[.slice A0 4 c0, .slice A1 0 c1, .int .i64 0, .bool false] 28)).alloc (.cells #[.slice B0 4 e0, .slice B1 0 e1, .int .i64 0, .bool false] 28)
  have hDb := (hE.alloc (.cells #[.slice A0 4 c0, .slice A1 0 c1, .int .i64 0, .bool false] 28)).alloc (.cells #[.slice B0 4 e0, .slice B1 0 e1, .int .i64 0, .bool false] 28)
  have hbW := (hbw2.alloc hbw2.size (.cells #[.slice A0 4 c0, .slice A1 0 c1, .int .i64 0, .bool false] 28)).alloc (by have := hbw2.size; simp; omega) (.cells #[.slice B0 4 e0, .slice B1 0 e1, .int .i64 0, .bool false] 28)
  have hga : w.heap.size ≤ w2.heap.size := hbw2.size
  have hgb : w.heap.size ≤ w2.heap.size + 1 := by omega
  have hab : w2.heap.size ≠ w2.heap.size + 1 := by omega
  generalize (w2.alloc (.cells #[.slice A0 4 c0, .slice A1 0 c1, .int .i64 0, .bool false] 28)).alloc (.cells #[.slice B0 4 e0, .slice B1 0 e1, .int .i64 0, .bool false] 28) = W at hXa hXb hDa hDb hbW ⊢
  generalize w2.heap.size + 1 = gb at hXb hgb hab ⊢
  generalize w2.heap.size = ga at hXa hga hab ⊢
  have hR : DInv w W ga gb 0 := ⟨⟨List.replicate 4 blank, [], 0, false⟩, ⟨by simp, by simp, by simp, by simp⟩, ⟨A0, c0, A1, c1, hXa, hDa⟩, ⟨B0, e0, B1, e1, hXb, hDb⟩, hbW⟩
  clear hXa hXb hDa hDb hbW hD2 hE hbw2
  go_loopw [13] (fun s wr => ∃ k : Nat, k ≤ n1 ∧ s = .int .i64 k ∧ DInv w wr ga gb k) (fun s _ => n1 - (intOf s).toNat)
  case atStart => exact ⟨0, by omega, rfl, hR⟩
  case round =>
    clear hR
    obtain ⟨k, hk, rfl, d, hG, ⟨A0, c0, A1, c1, hXa, hDa⟩, ⟨B0, e0, B1, e1, hXb, hDb⟩, hbW⟩ := hrel
    by_cases hlt : k < n1
    · obtain ⟨b, o, rfl, hbb, hcl⟩ := h.at (by omega)
      obtain ⟨a0, q0⟩ : ∃ x, zs[k * 3]? = some x := ⟨_, List.getElem?_eq_getElem (by omega)⟩
      obtain ⟨a1, q1⟩ : ∃ x, zs[k * 3 + 1]? = some x := ⟨_, List.getElem?_eq_getElem (by omega)⟩
      obtain ⟨a2, q2⟩ : ∃ x, zs[k * 3 + 2]? = some x := ⟨_, List.getElem?_eq_getElem (by omega)⟩
      obtain ⟨b0, b0'⟩ := hb a0 (List.mem_of_getElem? q0)
      obtain ⟨b1, b1'⟩ := hb a1 (List.mem_of_getElem? q1)
      obtain ⟨b2, b2'⟩ := hb a2 (List.mem_of_getElem? q2)
      have f0 := (hbW.cell (p := ⟨b, o + k * 3, none⟩) hbb).trans (hcl (k * 3) (by omega))
      have f1 := (hbW.cell (p := ⟨b, o + (k * 3 + 1), none⟩) hbb).trans (hcl (k * 3 + 1) (by omega))
      have f2 := (hbW.cell (p := ⟨b, o + (k * 3 + 2), none⟩) hbb).trans (hcl (k * 3 + 2) (by omega))
      rw [List.getElem?_map, q0, Option.map_some] at f0
      rw [List.getElem?_map, q1, Option.map_some, ← Nat.add_assoc] at f1
      rw [List.getElem?_map, q2, Option.map_some, ← Nat.add_assoc] at f2
      clear q0 q1 q2 hcl
      go_upto_if 55 with fail
      go_cut [14] (fun s wx => wr = wx ∧ ∃ x : Int, s = .int .i64 x)
      case first =>
        go_wp2
        all_goals (go_meet; exact ⟨rfl, _, rfl⟩)
      case rest =>
      obtain ⟨rfl, x, rfl⟩ := hcut
      have hla := hXa.lt
      have hlb := hXb.lt
      obtain ⟨x0, x1, x2, x3, y0, y1, y2, y3⟩ := hXa.four
      obtain ⟨r0, r1, r2, r3, s0, s1, s2, s3⟩ := hXb.four
      go_upto_block 2 with fail
      go_cut [15, 16] (fun s15 s16 wx => ∃ β : Bool, s15 = .bool β ∧ s16 = .bool β ∧ DInv w wx ga gb (k + 1))
      case first =>
        by_cases g0 : a0 % 8 = 0
        · as_aux_lemma =>
          have z0 : (a0 % 8 == 0) = true := by simp [g0]
          clear g0
          obtain ⟨l', wt', arm', down', r', hM⟩ : ∃ l' wt' arm' down' r', M.flush d = (⟨l', wt', arm', down'⟩, r') := ⟨_, _, _, _, _, rfl⟩
          have HM := Lib.hid hM
          have HG := Lib.hid (dok_flush hG hM)
          have HL := Lib.hid HG.out.len
          clear hM
          go_wp2_with fail
          refine (flush_o _ d _ hDa (by rw [hG.len]; decide) (by have := hG.wait; omega) HM.out (n0 := 4) (n1 := wt'.length) HL.out rfl).mono ?_
          rintro e w2 ⟨A', c', A1', c1', rfl, hD2, hb2⟩
          have hf2 := (hXa.below hb2 hla).four
          clear x0 x1 x2 x3 y0 y1 y2 y3 r0 r1 r2 r3 s0 s1 s2 s3
          obtain ⟨x0, x1, x2, x3, y0, y1, y2, y3⟩ := hf2
          have hg2 := ((hXb.below hb2 hlb).far4 (Ne.symm hab) (.slice A' 4 c') (.slice A1' wt'.length c1') (.int .i64 arm') (.bool down')).four
          obtain ⟨r0, r1, r2, r3, _, _, _, _⟩ := hg2
          go_wp2_with fail
          have hXa2 := (hXa.below hb2 hla).put4 (.slice A' 4 c') (.slice A1' wt'.length c1') (.int .i64 arm') (.bool down')
          have hXb2 := (hXb.below hb2 hlb).far4 (Ne.symm hab) (.slice A' 4 c') (.slice A1' wt'.length c1') (.int .i64 arm') (.bool down')
          have hDa2 := hD2.far4 (hXa.below hb2 hla) (.slice A' 4 c') (.slice A1' wt'.length c1') (.int .i64 arm') (.bool down')
          have hDb2 := (hDb.below hb2).far4 (hXa.below hb2 hla) (.slice A' 4 c') (.slice A1' wt'.length c1') (.int .i64 arm') (.bool down')
          have hbW2 := below_set4 (hbW.trans (hb2.mono hbW.size)) hga (.slice A' 4 c') (.slice A1' wt'.length c1') (.int .i64 arm') (.bool down')
          generalize ((((w2.setCell ⟨ga, 0, none⟩ (.slice A' 4 c')).setCell ⟨ga, 1, none⟩ (.slice A1' wt'.length c1')).setCell ⟨ga, 2, none⟩ (.int .i64 arm')).setCell ⟨ga, 3, none⟩ (.bool down')) = W2 at hXa2 hXb2 hDa2 hDb2 hbW2 ⊢
          refine (rflush_o _ d _ hDb2 (by rw [hG.len]; decide) (by have := hG.wait; omega) HM.out (n0 := 4) (n1 := wt'.length) HL.out rfl).mono ?_
          rintro e w3 ⟨B', e', B1', e1', rfl, hD3, hb3⟩
          have hf3 := (hXb2.below hb3 hXb2.lt).four
          clear x0 x1 x2 x3 y0 y1 y2 y3 r0 r1 r2 r3
          obtain ⟨x0, x1, x2, x3, y0, y1, y2, y3⟩ := hf3
          go_wp2
          go_meet
          refine ⟨r', rfl, rfl, ⟨l', wt', arm', down'⟩, HG.out, ⟨A', c', A1', c1', (hXa2.below hb3 hXa2.lt).far4 hab _ _ _ _, (hDa2.below hb3).far4 (hXb2.below hb3 hXb2.lt) _ _ _ _⟩, ⟨B', e', B1', e1', (hXb2.below hb3 hXb2.lt).put4 _ _ _ _, hD3.far4 (hXb2.below hb3 hXb2.lt) _ _ _ _⟩, below_set4 (hbW2.trans (hb3.mono hbW2.size)) hgb _ _ _ _⟩
        have z0 : (a0 % 8 == 0) = false := by simp [g0]
        clear g0
        by_cases g1 : a0 % 8 = 1
        · as_aux_lemma =>
          have z1 : (a0 % 8 == 1) = true := by simp [g1]
          clear g1
          have d1 : wr.drew.cell? ⟨b, o + k * 3 + 1, none⟩ = some (.int .u8 a1) := f1
          have d2 : wr.drew.cell? ⟨b, o + k * 3 + 2, none⟩ = some (.int .u8 a2) := f2
          have hbr : b < wr.heap.size := by have := hbW.size; omega
          go_upto_region 20 with fail
          go_region_held3 (fun w' => w'.cell? ⟨b, o + k * 3 + 1, none⟩ = some (.int .u8 a1) ∧ w'.cell? ⟨b, o + k * 3 + 2, none⟩ = some (.int .u8 a2))
            (first | (with_reducible exact ⟨d1, d2⟩) | (with_reducible exact ⟨(cell_ald hbr _).trans f1, (cell_ald hbr _).trans f2⟩))
            (fail)
          go_upto_region 21 with fail
          generalize (a1.tmod 2 == 0) = u1
          generalize (a2.tmod 2 == 0) = u2
          generalize (a1.tmod 3 == 0) = u3
          have hXa1 := (hXa.alloc (.cells #[.bool u1, .bool u2, .bool u3, .bool true] 4)).drew
          have hXb1 := (hXb.alloc (.cells #[.bool u1, .bool u2, .bool u3, .bool true] 4)).drew
          have hDa1 := (hDa.alloc (.cells #[.bool u1, .bool u2, .bool u3, .bool true] 4)).drew
          have hDb1 := (hDb.alloc (.cells #[.bool u1, .bool u2, .bool u3, .bool true] 4)).drew
          have hbW1 := (hbW.alloc hbW.size (.cells #[.bool u1, .bool u2, .bool u3, .bool true] 4)).drew
          have hK1 : Sl (wr.alloc (.cells #[.bool u1, .bool u2, .bool u3, .bool true] 4)).drew 1 (.slice (some ⟨wr.heap.size, 0, none⟩) 4 4) 4 ([u1, u2, u3, true].map Value.bool) := Sl.drew (Sl_made wr 4 [.bool u1, .bool u2, .bool u3, .bool true] _ 4 rfl rfl)
          generalize (wr.alloc (.cells #[.bool u1, .bool u2, .bool u3, .bool true] 4)).drew = W1 at hXa1 hXb1 hDa1 hDb1 hbW1 hK1 ⊢
          generalize wr.heap.size = gk at hK1 ⊢
          clear x0 x1 x2 x3 y0 y1 y2 y3 r0 r1 r2 r3 s0 s1 s2 s3 hXa hXb hDa hDb hbW d1 d2 f0 f1 f2 hla hlb
          obtain ⟨x0, x1, x2, x3, y0, y1, y2, y3⟩ := hXa1.four
          obtain ⟨r0, r1, r2, r3, s0, s1, s2, s3⟩ := hXb1.four
          have hla := hXa1.lt
          have hlb := hXb1.lt
          obtain ⟨l', wt', arm', down', hM⟩ : ∃ l' wt' arm' down', M.crash d [u1, u2, u3, true] = ⟨l', wt', arm', down'⟩ := ⟨_, _, _, _, rfl⟩
          have HM := Lib.hid hM
          have HG : Hid (DOk ⟨l', wt', arm', down'⟩ (k + 1)) := by have := dok_crash (ks := [u1, u2, u3, true]) hG; rw [hM] at this; exact this
          have HL := Lib.hid HG.out.len
          clear hM
          go_region_with (first
            | (go_at_call 13; (with_reducible refine (crash_f W1 _ d _ 4 4 [u1, u2, u3, true] _ hDa1 hK1 (by rw [hG.len]; decide) (by have := hG.wait; omega) (by decide) HM.out (n0 := 4) (n1 := wt'.length) HL.out rfl rfl ?_).mono ?_); exact (Below.refl _ _).drew; rintro e w2 ⟨A', c', A1', c1', rfl, hD2, hb2⟩; have hxb2 := hXb1.below hb2 hlb; have hf2 := hxb2.four; obtain ⟨q0, q1, q2, q3, _, _, _, _⟩ := hf2)
            | (go_at_call 14; (with_reducible refine (rcrash_f w2 _ d _ 4 4 [u1, u2, u3, true] _ (hDb1.below hb2) (hK1.below hb2) (by rw [hG.len]; decide) (by have := hG.wait; omega) (by decide) HM.out (n0 := 4) (n1 := wt'.length) HL.out rfl rfl ?_).mono ?_); exact Below.refl _ _; rintro e w3 ⟨B', e', B1', e1', rfl, hD3, hb3⟩; have hxa3 := (hXa1.below hb2 hla).below hb3 (by have := hb2.size; omega); have hxb3 := hxb2.below hb3 hxb2.lt; have hf3 := hxa3.four; obtain ⟨p0, p1, p2, p3, t0, t1, t2, t3⟩ := hf3; have hg3 := hxb3.four; obtain ⟨m0, m1, m2, m3, n0, n1', n2, n3'⟩ := hg3))
          all_goals go_wp2_with fail
          all_goals go_meet
          all_goals exact ⟨true, rfl, rfl, ⟨l', wt', arm', down'⟩, HG.out, ⟨A', c', A1', c1', (hxa3.put4 _ _ _ _).far4 hab _ _ _ _, ((hD2.below hb3).far4 hxa3 _ _ _ _).far4 (hxb3.far4 (Ne.symm hab) _ _ _ _) _ _ _ _⟩, ⟨B', e', B1', e1', (hxb3.far4 (Ne.symm hab) _ _ _ _).put4 _ _ _ _, (hD3.far4 hxa3 _ _ _ _).far4 (hxb3.far4 (Ne.symm hab) _ _ _ _) _ _ _ _⟩, below_set4 (below_set4 ((hbW1.trans (hb2.mono hbW1.size)).trans (hb3.mono (by have := hbW1.size; have := hb2.size; omega))) hga _ _ _ _) hgb _ _ _ _⟩
        have z1 : (a0 % 8 == 1) = false := by simp [g1]
        clear g1
        by_cases g2 : a0 % 8 = 2
        · as_aux_lemma =>
          have z2 : (a0 % 8 == 2) = true := by simp [g2]
          clear g2
          obtain ⟨v, hv⟩ : ∃ v : Nat, a2 % 6 = v := ⟨(a2 % 6).toNat, by omega⟩
          have hvt : a2.tmod 6 = (v : Int) := by rw [Int.tmod_eq_emod_of_nonneg b2]; exact hv
          have hvw : IntKind.i64.wrap (v : Int) = (v : Int) := by rw [IntKind.wrap_i64]; omega
          have d2 : wr.drew.cell? ⟨b, o + k * 3 + 2, none⟩ = some (.int .u8 a2) := f2
          have hba : b ≠ ga := by omega
          have hbb' : b ≠ gb := by omega
          have j1 : (wr.setCell ⟨ga, 2, none⟩ (.int .i64 v)).drew.cell? ⟨b, o + k * 3 + 2, none⟩ = some (.int .u8 a2) := (World.cell?_of_block (Below.heap_setCell wr ⟨ga, 2, none⟩ (.int .i64 v) b hba) (a := ⟨b, o + k * 3 + 2, none⟩)).trans f2
          have j2 : ((wr.setCell ⟨ga, 2, none⟩ (.int .i64 v)).setCell ⟨gb, 2, none⟩ (.int .i64 v)).drew.cell? ⟨b, o + k * 3 + 2, none⟩ = some (.int .u8 a2) := (World.cell?_of_block (Below.heap_setCell (wr.setCell ⟨ga, 2, none⟩ (.int .i64 v)) ⟨gb, 2, none⟩ (.int .i64 v) b hbb') (a := ⟨b, o + k * 3 + 2, none⟩)).trans j1
          go_upto_region 23 with fail
          go_region_held3 (fun w' => w'.cell? ⟨b, o + k * 3 + 2, none⟩ = some (.int .u8 a2))
            (first | (with_reducible exact d2) | (with_reducible exact j1) | (with_reducible exact j2))
            (fail)
          all_goals go_wp2_with fail
          all_goals go_meet
          all_goals exact ⟨true, rfl, rfl, ⟨d.last, d.wait, v, d.down⟩, dok_arm hG v (by omega) (by omega), ⟨A0, c0, A1, c1, ((hXa.set2 _).far (p := ⟨gb, 2, none⟩) hab _).drew, (((hDa.arm v).far hXa 2 _).far (hXb.far (p := ⟨ga, 2, none⟩) (Ne.symm hab) _) 2 _).drew⟩, ⟨B0, e0, B1, e1, ((hXb.far (p := ⟨ga, 2, none⟩) (Ne.symm hab) _).set2 _).drew, (((hDb.arm v).far hXa 2 _).far (hXb.far (p := ⟨ga, 2, none⟩) (Ne.symm hab) _) 2 _).drew⟩, ((hbW.setCell (p := ⟨ga, 2, none⟩) hga _).setCell (p := ⟨gb, 2, none⟩) hgb _).drew⟩
        have z2 : (a0 % 8 == 2) = false := by simp [g2]
        clear g2
        by_cases g3 : a0 % 8 = 3
        · as_aux_lemma =>
          have z3 : (a0 % 8 == 3) = true := by simp [g3]
          clear g3
          obtain ⟨t, r', hM⟩ : ∃ t r', M.read d x = (t, r') := ⟨_, _, rfl⟩
          have HM := Lib.hid hM
          clear hM
          go_wp2_with fail
          refine (read_o _ d x _ hDa (by have := hG.wait; omega) HM.out).mono ?_
          rintro e w2 ⟨rfl, hb2⟩
          have hXa2 := hXa.below hb2 hla
          have hXb2 := hXb.below hb2 hlb
          have hDa2 := hDa.below hb2
          have hDb2 := hDb.below hb2
          have hbW2 := hbW.trans (hb2.mono hbW.size)
          clear x0 x1 x2 x3 y0 y1 y2 y3 r0 r1 r2 r3 s0 s1 s2 s3
          have hf2 := hXb2.four
          obtain ⟨r0, r1, r2, r3, _, _, _, _⟩ := hf2
          go_wp2_with fail
          refine (rread_o _ d x _ hDb2 (by have := hG.wait; omega) HM.out).mono ?_
          rintro e w3 ⟨rfl, hb3⟩
          clear r0 r1 r2 r3
          go_wp2
          go_meet
          exact ⟨true, rfl, rfl, d, hG.more, ⟨A0, c0, A1, c1, hXa2.below hb3 hXa2.lt, hDa2.below hb3⟩, ⟨B0, e0, B1, e1, hXb2.below hb3 hXb2.lt, hDb2.below hb3⟩, hbW2.trans (hb3.mono hbW2.size)⟩
        have z3 : (a0 % 8 == 3) = false := by simp [g3]
        clear g3
        by_cases g4 : a0 % 8 = 4
        · as_aux_lemma =>
          have z4' : (a0 % 8 == 4) = true := by simp [g4]
          clear g4
          obtain ⟨l', wt', arm', down', r', hM⟩ : ∃ l' wt' arm' down' r', M.write d x s = (⟨l', wt', arm', down'⟩, r') := ⟨_, _, _, _, _, rfl⟩
          have HM := Lib.hid hM
          have HG := Lib.hid (dok_write hG hM)
          have HL := Lib.hid HG.out.len
          clear hM
          go_wp2_with fail
          refine (write_o _ d x s _ hDa (by rw [hG.len]; decide) (by have := hG.wait; omega) hG.arm0 (by have := hG.arm; omega) HM.out (n0 := 4) (n1 := wt'.length) HL.out rfl).mono ?_
          rintro e w2 ⟨A', c', A1', c1', rfl, hD2, hb2⟩
          have hf2 := (hXa.below hb2 hla).four
          clear x0 x1 x2 x3 y0 y1 y2 y3 r0 r1 r2 r3 s0 s1 s2 s3
          obtain ⟨x0, x1, x2, x3, y0, y1, y2, y3⟩ := hf2
          have hg2 := ((hXb.below hb2 hlb).far4 (Ne.symm hab) (.slice A' 4 c') (.slice A1' wt'.length c1') (.int .i64 arm') (.bool down')).four
          obtain ⟨r0, r1, r2, r3, _, _, _, _⟩ := hg2
          go_wp2_with fail
          have hXa2 := (hXa.below hb2 hla).put4 (.slice A' 4 c') (.slice A1' wt'.length c1') (.int .i64 arm') (.bool down')
          have hXb2 := (hXb.below hb2 hlb).far4 (Ne.symm hab) (.slice A' 4 c') (.slice A1' wt'.length c1') (.int .i64 arm') (.bool down')
          have hDa2 := hD2.far4 (hXa.below hb2 hla) (.slice A' 4 c') (.slice A1' wt'.length c1') (.int .i64 arm') (.bool down')
          have hDb2 := (hDb.below hb2).far4 (hXa.below hb2 hla) (.slice A' 4 c') (.slice A1' wt'.length c1') (.int .i64 arm') (.bool down')
          have hbW2 := below_set4 (hbW.trans (hb2.mono hbW.size)) hga (.slice A' 4 c') (.slice A1' wt'.length c1') (.int .i64 arm') (.bool down')
          generalize ((((w2.setCell ⟨ga, 0, none⟩ (.slice A' 4 c')).setCell ⟨ga, 1, none⟩ (.slice A1' wt'.length c1')).setCell ⟨ga, 2, none⟩ (.int .i64 arm')).setCell ⟨ga, 3, none⟩ (.bool down')) = W2 at hXa2 hXb2 hDa2 hDb2 hbW2 ⊢
          refine (rwrite_o _ d x s _ hDb2 (by have := hG.wait; omega) hG.arm0 (by have := hG.arm; omega) HM.out (n0 := 4) (n1 := wt'.length) HL.out rfl).mono ?_
          rintro e w3 ⟨B', e', B1', e1', rfl, hD3, hb3⟩
          have hf3 := (hXb2.below hb3 hXb2.lt).four
          clear x0 x1 x2 x3 y0 y1 y2 y3 r0 r1 r2 r3
          obtain ⟨x0, x1, x2, x3, y0, y1, y2, y3⟩ := hf3
          go_wp2
          go_meet
          refine ⟨r', rfl, rfl, ⟨l', wt', arm', down'⟩, HG.out, ⟨A', c', A1', c1', (hXa2.below hb3 hXa2.lt).far4 hab _ _ _ _, (hDa2.below hb3).far4 (hXb2.below hb3 hXb2.lt) _ _ _ _⟩, ⟨B', e', B1', e1', (hXb2.below hb3 hXb2.lt).put4 _ _ _ _, hD3.far4 (hXb2.below hb3 hXb2.lt) _ _ _ _⟩, below_set4 (hbW2.trans (hb3.mono hbW2.size)) hgb _ _ _ _⟩
        have z4' : (a0 % 8 == 4) = false := by simp [g4]
        clear g4
        as_aux_lemma =>
        obtain ⟨l', wt', arm', down', r', hM⟩ : ∃ l' wt' arm' down' r', M.write d x (blk a2) = (⟨l', wt', arm', down'⟩, r') := ⟨_, _, _, _, _, rfl⟩
        have HM := Lib.hid hM
        have HG := Lib.hid (dok_write hG hM)
        have HL := Lib.hid HG.out.len
        clear hM
        have hbr : b < wr.heap.size := by have := hbW.size; omega
        have hba : b ≠ ga := by omega
        go_upto_region 14 with fail
        go_cut [15] (fun s15 wx => s15 = .bool r' ∧ (∃ A' c' A1' c1', Bx wx ga 28 #[.slice A' 4 c', .slice A1' wt'.length c1', .int .i64 arm', .bool down'] ∧ IsD wx (.agg #[.slice A' 4 c', .slice A1' wt'.length c1', .int .i64 arm', .bool down']) ⟨l', wt', arm', down'⟩) ∧ Bx wx gb 28 #[.slice B0 4 e0, .slice B1 d.wait.length e1, .int .i64 d.arm, .bool d.down] ∧ IsD wx (.agg #[.slice B0 4 e0, .slice B1 d.wait.length e1, .int .i64 d.arm, .bool d.down]) d ∧ Below w.heap.size w wx ∧ wx.cell? ⟨b, o + k * 3 + 2, none⟩ = some (.int .u8 a2))
        case first =>
          go_region_with (first
            | (go_at_call 19; (with_reducible refine (block_f wr a2 b2 b2' _ ?_).mono ?_); exact (Below.refl _ _).drew; rintro e w2 ⟨rfl, hc2, hb2⟩; have hx2 := hXa.below hb2 hla; have hf2 := hx2.four; obtain ⟨q0, q1, q2, q3, _, _, _, _⟩ := hf2)
            | (go_at_call 17; (with_reducible refine (write_f wr _ d x (blk a2) _ hDa (by rw [hG.len]; decide) (by have := hG.wait; omega) hG.arm0 (by have := hG.arm; omega) HM.out (n0 := 4) (n1 := wt'.length) HL.out rfl ?_).mono ?_); exact hb2; rintro e w3 ⟨A', c', A1', c1', rfl, hD4, hc3, hb3⟩; have hx3 := hXa.below hb3 hla; have hf3 := hx3.four; obtain ⟨p0, p1, p2, p3, _, _, _, _⟩ := hf3))
          all_goals go_wp2_with fail
          all_goals go_meet
          all_goals exact ⟨rfl, ⟨A', c', A1', c1', hx3.put4 _ _ _ _, hD4.far4 hx3 _ _ _ _⟩, (hXb.below hb3 hlb).far4 (Ne.symm hab) _ _ _ _, (hDb.below hb3).far4 hx3 _ _ _ _, below_set4 (hbW.trans (hb3.mono hbW.size)) hga _ _ _ _, (cell_s4 hba _ _ _ _).trans ((hb3.cell (p := ⟨b, o + k * 3 + 2, none⟩) hbr).trans f2)⟩
        case rest =>
        clear hXa hXb hDa hDb hbW f0 f1 f2 x0 x1 x2 x3 y0 y1 y2 y3 r0 r1 r2 r3 s0 s1 s2 s3 hla hlb hbr
        obtain ⟨rfl, ⟨A', c', A1', c1', hXa, hDa⟩, hXb, hDb, hbW, f2⟩ := hcut
        have hla := hXa.lt
        have hlb := hXb.lt
        rename World => wr
        obtain ⟨r0, r1, r2, r3, s0, s1, s2, s3⟩ := hXb.four
        go_upto_region 15 with fail
        go_region_with (first
          | (go_at_call 19; (with_reducible refine (block_f wr a2 b2 b2' _ ?_).mono ?_); exact (Below.refl _ _).drew; rintro e w2 ⟨rfl, hc2, hb2⟩; have hx2 := hXb.below hb2 hlb; have hf2 := hx2.four; obtain ⟨q0, q1, q2, q3, _, _, _, _⟩ := hf2)
          | (go_at_call 18; (with_reducible refine (rwrite_f wr _ d x (blk a2) _ hDb (by have := hG.wait; omega) hG.arm0 (by have := hG.arm; omega) HM.out (n0 := 4) (n1 := wt'.length) HL.out rfl ?_).mono ?_); exact hb2; rintro e w3 ⟨B', e', B1', e1', rfl, hD4, hb3⟩; have hx3 := hXb.below hb3 hlb; have hf3 := hx3.four; obtain ⟨p0, p1, p2, p3, _, _, _, _⟩ := hf3))
        all_goals go_wp2_with fail
        all_goals go_meet
        all_goals exact ⟨r', rfl, rfl, ⟨l', wt', arm', down'⟩, HG.out, ⟨A', c', A1', c1', (hXa.below hb3 hla).far4 hab _ _ _ _, (hDa.below hb3).far4 hx3 _ _ _ _⟩, ⟨B', e', B1', e1', hx3.put4 _ _ _ _, hD4.far4 hx3 _ _ _ _⟩, below_set4 (hbW.trans (hb3.mono hbW.size)) hgb _ _ _ _⟩
      case rest =>
        as_aux_lemma =>
        clear hXa hXb hDa hDb hbW f0 f1 f2 x0 x1 x2 x3 y0 y1 y2 y3 r0 r1 r2 r3 s0 s1 s2 s3 hla hlb hG
        obtain ⟨β, rfl, rfl, d, hG, ⟨A0, c0, A1, c1, hXa, hDa⟩, ⟨B0, e0, B1, e1, hXb, hDb⟩, hbW⟩ := hcut
        have hβ : (β != β) = false := by cases β <;> rfl
        obtain ⟨x0, x1, x2, x3, _, _, _, _⟩ := hXa.four
        obtain ⟨r0, r1, r2, r3, _, _, _, _⟩ := hXb.four
        go_wp2_with fail
        refine (same_any _ _ d _ hDa hDb (by rw [hG.len]; decide) (by have := hG.wait; omega)).mono ?_
        rintro e w2 ⟨rfl, hb2⟩
        clear x0 x1 x2 x3 r0 r1 r2 r3
        go_wp2
        go_roundw
        case rel => exact ⟨k + 1, by omega, by go_num, d, hG, ⟨A0, c0, A1, c1, hXa.below hb2 hXa.lt, hDa.below hb2⟩, ⟨B0, e0, B1, e1, hXb.below hb2 hXb.lt, hDb.below hb2⟩, hbW.trans (hb2.mono hbW.size)⟩
        case measure => simp [intOf]; omega
    · have hla := hXa.lt
      have hlb := hXb.lt
      obtain ⟨l', wt', arm', down', hM⟩ : ∃ l' wt' arm' down', M.crash d ks = ⟨l', wt', arm', down'⟩ := ⟨_, _, _, _, rfl⟩
      have HM := Lib.hid hM
      have HG : Hid (DOk ⟨l', wt', arm', down'⟩ (k + 1)) := by have := dok_crash (ks := ks) hG; rw [hM] at this; exact this
      have HL := Lib.hid HG.out.len
      have HWl : wt'.length ≤ 65536 := by have := HG.out.wait; dsimp only at this; omega
      clear hM
      by_cases hn9 : 900 < n
      · as_aux_lemma =>
        have n9 : decide ((900 : Int) < n) = true := by simpa using hn9
        go_wp2_with fail
        clear h hz hb t1 t2 t3
        obtain ⟨x0, x1, x2, x3, _, _, _, _⟩ := hXa.four
        obtain ⟨r0, r1, r2, r3, _, _, _, _⟩ := hXb.four
        first
          | (go_region_with (first
          | (go_at_call 13; (with_reducible refine (crash_f wr _ d _ n3 cap3 ks _ hDa (h3.below hbW) (by rw [hG.len]; decide) (by have := hG.wait; omega) (by omega) HM.out (n0 := 4) (n1 := wt'.length) HL.out rfl HK.out ?_).mono ?_); exact (Below.refl _ _).drew; rintro e w2 ⟨A', c', A1', c1', rfl, hD2, hb2⟩; have xa2 := hXa.below hb2 hla; have xb2 := hXb.below hb2 hlb; have hf2 := xb2.four; obtain ⟨q0, q1, q2, q3, _, _, _, _⟩ := hf2)
          | (go_at_call 14; (with_reducible refine (rcrash_f w2 _ d _ n3 cap3 ks _ (hDb.below hb2) ((h3.below hbW).below hb2) (by rw [hG.len]; decide) (by have := hG.wait; omega) (by omega) HM.out (n0 := 4) (n1 := wt'.length) HL.out rfl HK.out ?_).mono ?_); exact Below.refl _ _; rintro e w3 ⟨B', e', B1', e1', rfl, hD3, hb3⟩; have xa3 := xa2.below hb3 xa2.lt; have xb3 := xb2.below hb3 xb2.lt; have hbw3 := (hbW.trans (hb2.mono hbW.size)).trans (hb3.mono (by have := hbW.size; have := hb2.size; omega)); have hD2' := hD2.below hb3)
          | (go_at_call 20; (with_reducible refine (same_any (.agg #[.slice A' 4 c', .slice A1' wt'.length c1', .int .i64 arm', .bool down']) (.agg #[.slice B' 4 e', .slice B1' wt'.length e1', .int .i64 arm', .bool down']) ⟨l', wt', arm', down'⟩ _ hD2' hD3 (by show l'.length ≤ _; rw [HL.out]; decide) HWl).mono ?_); rintro e w4 ⟨rfl, hb4⟩; have xa4 := xa3.below hb4 xa3.lt; have xb4 := xb3.below hb4 xb3.lt; have hbw4 := hbw3.trans (hb4.mono hbw3.size))))
          | fail
        all_goals go_wp2
        all_goals go_ret
        all_goals exact ⟨rfl, hbw4⟩
      · as_aux_lemma =>
        have n9 : decide ((900 : Int) < n) = false := by simpa using hn9
        obtain ⟨ln, wn, an, dn, hN⟩ : ∃ ln wn an dn, M.new n = ⟨ln, wn, an, dn⟩ := ⟨_, _, _, _, rfl⟩
        have HN := Lib.hid hN
        have HNl := new_len hN
        clear hN
        go_wp2_with fail
        go_region_held3 (fun w' => (w'.cell? ⟨ga, 0, none⟩ = some (.slice A0 4 c0) ∧ w'.cell? ⟨ga, 1, none⟩ = some (.slice A1 d.wait.length c1) ∧ w'.cell? ⟨ga, 2, none⟩ = some (.int .i64 d.arm) ∧ w'.cell? ⟨ga, 3, none⟩ = some (.bool d.down)) ∧ (w'.cell? ⟨gb, 0, none⟩ = some (.slice B0 4 e0) ∧ w'.cell? ⟨gb, 1, none⟩ = some (.slice B1 d.wait.length e1) ∧ w'.cell? ⟨gb, 2, none⟩ = some (.int .i64 d.arm) ∧ w'.cell? ⟨gb, 3, none⟩ = some (.bool d.down)))
          (first | (with_reducible exact ⟨hXa.drew.c4, hXb.drew.c4⟩) | (with_reducible exact ⟨xa2.c4, xb2.c4⟩) | (with_reducible exact ⟨xa3.c4, xb3.c4⟩) | (with_reducible exact ⟨xa4.c4, xb4.c4⟩) | (with_reducible exact ⟨xa5.c4, xb5.c4⟩) | (with_reducible exact ⟨xa6.c4, xb6.c4⟩) | (with_reducible exact ⟨xa7.c4, xb7.c4⟩))
          (first
          | (go_at_call 13; (with_reducible refine (crash_f wr _ d _ n3 cap3 ks _ hDa (h3.below hbW) (by rw [hG.len]; decide) (by have := hG.wait; omega) (by omega) HM.out (n0 := 4) (n1 := wt'.length) HL.out rfl HK.out ?_).mono ?_); exact (Below.refl _ _).drew; rintro e w2 ⟨A', c', A1', c1', rfl, hD2, hb2⟩; have xa2 := hXa.below hb2 hla; have xb2 := hXb.below hb2 hlb)
          | (go_at_call 14; (with_reducible refine (rcrash_f w2 _ d _ n3 cap3 ks _ (hDb.below hb2) ((h3.below hbW).below hb2) (by rw [hG.len]; decide) (by have := hG.wait; omega) (by omega) HM.out (n0 := 4) (n1 := wt'.length) HL.out rfl HK.out ?_).mono ?_); exact Below.refl _ _; rintro e w3 ⟨B', e', B1', e1', rfl, hD3, hb3⟩; have xa3 := xa2.below hb3 xa2.lt; have xb3 := xb2.below hb3 xb2.lt; have hbw3 := (hbW.trans (hb2.mono hbW.size)).trans (hb3.mono (by have := hbW.size; have := hb2.size; omega)); have hD2' := hD2.below hb3)
          | (go_at_call 20; (with_reducible refine (same_any (.agg #[.slice A' 4 c', .slice A1' wt'.length c1', .int .i64 arm', .bool down']) (.agg #[.slice B' 4 e', .slice B1' wt'.length e1', .int .i64 arm', .bool down']) ⟨l', wt', arm', down'⟩ _ hD2' hD3 (by show l'.length ≤ _; rw [HL.out]; decide) HWl).mono ?_); rintro e w4 ⟨rfl, hb4⟩; have xa4 := xa3.below hb4 xa3.lt; have xb4 := xb3.below hb4 xb3.lt; have hbw4 := hbw3.trans (hb4.mono hbw3.size))
          | (go_at_call 9; (with_reducible refine (new_o n _ HN.out (n0 := ln.length) (n1 := wn.length) rfl rfl).mono ?_); rintro e w5 ⟨A5, c5, A15, c15, rfl, hD5, hb5⟩; have xa5 := xa4.below hb5 xa4.lt; have xb5 := xb4.below hb5 xb4.lt; have hbw5 := hbw4.trans (hb5.mono hbw4.size))
          | (go_at_call 10; (with_reducible refine (rnew_o n _ HN.out (n0 := ln.length) (n1 := wn.length) rfl rfl).mono ?_); rintro e w6 ⟨B5, e5, B15, e15, rfl, hD6, hb6⟩; have xa6 := xa5.below hb6 xa5.lt; have xb6 := xb5.below hb6 xb5.lt; have hbw6 := hbw5.trans (hb6.mono hbw5.size); have hD5' := hD5.below hb6)
          | (go_at_call 20; (with_reducible refine (same_any (.agg #[.slice A5 ln.length c5, .slice A15 wn.length c15, .int .i64 an, .bool dn]) (.agg #[.slice B5 ln.length e5, .slice B15 wn.length e15, .int .i64 an, .bool dn]) ⟨ln, wn, an, dn⟩ _ hD5' hD6 HNl.1 HNl.2).mono ?_); rintro e w7 ⟨rfl, hb7⟩; have xa7 := xa6.below hb7 xa6.lt; have xb7 := xb6.below hb7 xb6.lt; have hbw7 := hbw6.trans (hb7.mono hbw6.size)))
        all_goals go_wp2
        all_goals go_ret
        all_goals exact ⟨rfl, hbw7⟩

end Go.Proofs.Ytgoggancldipcaa
