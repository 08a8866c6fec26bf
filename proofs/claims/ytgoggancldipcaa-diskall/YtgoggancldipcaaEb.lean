/-
  Contracts of the document's answer: Write, lasts, Flush, Crash.
-/
import Derived.Test.YtgoggancldipcaaEa
namespace Go.Proofs.Ytgoggancldipcaa
open Go.RowKit

/-- A row of one type stays while a row of another one grows. -/
theorem TS.grown {w w' : World} {e e' : TypeId} {size size' : Nat} {v v' : Value} {n n' base : Nat} {xs xs' : List Value} (h : TS w e size v n xs) (hg : w.grownBy w' v'.ownBlock) (ho : w.ownsRow base e' size' v' n' xs') (hne : e ≠ e') : TS w' e size v n xs := by
  obtain ⟨⟨A, c, rfl, hl, h1⟩, h2⟩ := h
  have key : ∀ g cur fr, w.heap[g]? = some (.cells cur e fr) → w'.heap[g]? = w.heap[g]? ∧ g < w.heap.size := by
    intro g cur fr hh
    have hlt : g < w.heap.size := by
      rcases Nat.lt_or_ge g w.heap.size with hl | hl
      · exact hl
      · rw [Array.getElem?_eq_none hl] at hh; cases hh
    refine ⟨hg.block g hlt ?_, hlt⟩
    rcases ho.2 with ⟨rfl, _⟩ | ⟨g', cap, cur', rfl, _, hh', _⟩
    · simp [Value.ownBlock]
    · intro he
      have : g = g' := by simpa [Value.ownBlock] using he
      subst this
      rw [hh] at hh'
      injection hh' with hh'
      injection hh' with _ ht
      exact hne ht
  refine ⟨⟨A, c, rfl, hl, fun hn => ?_⟩, fun hn => ?_⟩
  · obtain ⟨b, o, rfl, hb, hc⟩ := h1 hn
    obtain ⟨g, cur, fr, hv, hh⟩ := h2 hn
    have hbg : b = g := by simpa [Value.ownBlock] using hv
    subst hbg
    refine ⟨b, o, rfl, by have := hg.size; omega, fun j hj => ?_⟩
    rw [← hc j hj]
    exact World.cell?_of_block (key b cur fr hh).1
  · obtain ⟨g, cur, fr, hv, hh⟩ := h2 hn
    exact ⟨g, cur, fr, hv, (key g cur fr hh).1.trans hh⟩

/-- 'append' onto a row of one's own of what a slice value reads as, nil or not. -/
theorem wpList_append_sl {w : World} {ops : Array Oper} {rest : List Oper} {o : Oper} {a : Act} {Q : Exit → Act → World → Prop} (hgd : o.guard = none) (s x : Operand) (t : TypeId)
    (ho : o.op = .call { callee := .builtin .append, args := #[s, x], argTypes := #[t, t] })
    (base : Nat) (e : TypeId) (i : TypeInfo) (z : Value) (size bytes : Nat) (ht : Try.prog.underlying t = some (.slice e)) (hi : Try.prog.info? e = some i) (hz : i.zero = some z)
    (hsize : i.size = size) (hby : i.bytes = bytes) (hzs : z.cells.size = size) (hsz : 0 < size)
    (v : Value) (n : Nat) (xs : List Value) (hs : a.eval s = v) (hown : w.ownsRow base e size v n xs)
    (A : Option Addr) (m c : Nat) (news : List Value) (hx : a.eval x = .slice A m c) (hr : Sl w size (.slice A m c) m news) (h1 : ∀ u ∈ news, u.oneCell' = true)
    (h63 : n + m ≤ maxLen) (hbytes : (n + m) * bytes ≤ 140737488355328) (hbase : base ≤ w.heap.size)
    (h : ∀ v' w', w'.ownsRow base e size v' (n + m) (xs ++ news) → w.grownBy w' v.ownBlock → wpList Try.prog ops Q rest (a.put o.dst v') w') : wpList Try.prog ops Q (o :: rest) a w := by
  cases A with
  | some ad =>
    obtain ⟨hl, hc⟩ := hr.cells
    exact wpList_append_own w hgd s x t ho base e i z size bytes ht hi hz hsize hby hzs hsz v n xs hs hown ad m c news hx hl hc h1 h63 hbytes hbase fun v' w' p q _ => h v' w' p q
  | none =>
    obtain ⟨rfl, rfl⟩ := hr.nil
    refine wpList_plain hgd fun K hK => ?_
    have hrun : (Builtin.append_ #[t, t] o.type #[v, .slice none 0 c]).run Try.prog w = .ok v w := by
      rcases hown.2 with ⟨rfl, rfl⟩ | ⟨g, cap, cur, rfl, _, _, hnc, _⟩
      · simp [Builtin.append_, run_underlying ht, sizeOf, typeInfo, hi, Builtin.lenOf, Builtin.firstCells]
      · simp [Builtin.append_, run_underlying ht, sizeOf, typeInfo, hi, Builtin.lenOf, Builtin.firstCells, hnc, storeCells]
    unfold Oper.wp
    simp [execOp, ho, resolve, invoke, builtin, hs, hx, hrun, Result.andThen]
    exact hK _ _ (h v w (by simpa using hown) (World.grownBy.refl w _))

set_option maxHeartbeats 1000000 in
theorem rwrite_no (v : Value) (d : D) (i : Int) (b : ByteArray) (w : World) (h : IsD w v d) (hc : (M.can d i && b.size == 64) = false) :
    Calls Try.prog 18 #[v, .int .i64 i, .string b] w fun e w' => ∃ v', e = .returned (.tuple #[v', .bool false]) ∧ IsD w' v' d ∧ Below w.heap.size w w' := by
  have hD := h
  obtain ⟨A, c, A1, c1, rfl, h0, h1⟩ := h.open_
  clear h h0 h1
  obtain ⟨l, wt, arm, down⟩ := d
  dsimp only at hD ⊢
  go_enter Try.func18, Try.ntmps18
  go_wp2_with fail
  have hb0 : Below w.heap.size w ((w.alloc (.cells #[.slice A l.length c, .slice A1 wt.length c1, .int .i64 arm, .bool down] 28)).alloc (.cells z4 28)) :=
    ((Below.refl _ w).alloc (Nat.le_refl _) _).alloc (by simp) _
  refine (is_any _ ⟨l, wt, arm, down⟩ i _ (hD.below hb0)).mono ?_
  rintro e w1 ⟨rfl, hb1⟩
  obtain ⟨hX, hR, hs1, hbw1⟩ := two_boxes hb1
  have hD1 := hD.below hbw1
  clear hb0 hb1 hD
  obtain ⟨x0, x1, x2, x3, _, _, _, _⟩ := hX.four
  obtain ⟨r0, r1', r2, r3, s0, s1, s2, s3⟩ := hR.four
  cases hcc : M.can ⟨l, wt, arm, down⟩ i with
  | false =>
    go_wp2
    exact bodyPost_ret (v := .tuple #[.agg #[.slice A l.length c, .slice A1 wt.length c1, .int .i64 arm, .bool down], .bool false]) (by simp [results, Try.results18, go_sem, r0, r1', r2, r3]) rfl ⟨_, rfl, hD1.far4 hR _ _ _ _, below_set4 hbw1 (by omega) _ _ _ _⟩
  | true =>
    have hsz : ((b.size : Int) != 64) = true := by
      rw [hcc] at hc
      simp at hc
      rw [bne_iff_ne]; omega
    clear hc
    go_wp2
    exact bodyPost_ret (v := .tuple #[.agg #[.slice A l.length c, .slice A1 wt.length c1, .int .i64 arm, .bool down], .bool false]) (by simp [results, Try.results18, go_sem, r0, r1', r2, r3]) rfl ⟨_, rfl, hD1.far4 hR _ _ _ _, below_set4 hbw1 (by omega) _ _ _ _⟩

set_option maxHeartbeats 2000000 in
theorem rwrite_yes (v : Value) (d : D) (i : Int) (b : ByteArray) (w : World) (h : IsD w v d) (hw : d.wait.length ≤ 60000) (hc : (M.can d i && b.size == 64) = true) (ha : d.arm ≤ 65536) (ha0 : 0 ≤ d.arm) :
    Calls Try.prog 18 #[v, .int .i64 i, .string b] w fun e w' => ∃ v', e = .returned (.tuple #[v', .bool (!(M.pushed d i b).down)]) ∧ IsD w' v' (M.pushed d i b) ∧ Below w.heap.size w w' := by
  obtain ⟨i0, hi, hz0, hz1, hz2⟩ := info_parts Try.info56
  have hD := h
  obtain ⟨A, c, A1, c1, rfl, h0, h1⟩ := h.open_
  clear h
  obtain ⟨l, wt, arm, down⟩ := d
  dsimp only at hD h0 h1 hw ha ha0 ⊢
  cases down with
  | true => simp [M.can] at hc
  | false =>
  have hcc : M.can ⟨l, wt, arm, false⟩ i = true := by
    simp only [Bool.and_eq_true] at hc
    exact hc.1
  have hsz : ((b.size : Int) != 64) = false := by
    simp only [Bool.and_eq_true, beq_iff_eq] at hc
    simp [hc.2]
  clear hc
  go_enter Try.func18, Try.ntmps18
  go_wp2_with fail
  have hb0 : Below w.heap.size w ((w.alloc (.cells #[.slice A l.length c, .slice A1 wt.length c1, .int .i64 arm, .bool false] 28)).alloc (.cells z4 28)) :=
    ((Below.refl _ w).alloc (Nat.le_refl _) _).alloc (by simp) _
  refine (is_any _ ⟨l, wt, arm, false⟩ i _ (hD.below hb0)).mono ?_
  rintro e w1 ⟨rfl, hb1⟩
  rw [hcc]
  obtain ⟨hX, hR, hs1, hbw1⟩ := two_boxes hb1
  have hD1 := hD.below hbw1
  have h1' := h1.below hbw1
  clear hb0 hb1 hD hcc h0 h1
  obtain ⟨x0, x1, x2, x3, y0, y1, y2, y3⟩ := hX.four
  have hlt : w.heap.size < w1.heap.size := by omega
  have hlt' : w.heap.size + 1 < w1.heap.size := by omega
  go_wp2_with (at_builtin; refine wpList_append_sl rfl _ _ 26 rfl (w.heap.size + 2) 56 i0 (.agg #[.int .i64 0, .string { data := #[] }]) 2 24 Try.underlying26 hi hz0 hz1 hz2 rfl (by decide) _ _ _ rfl (World.ownsRow_made w1 #[] 0 hs1 (Nat.zero_le _) rfl) A1 wt.length c1 (waitCells wt) rfl ?qa1 (waitCells_one wt) ?qa2 ?qa3 ?qa4 ?_)
  case qa1 => exact h1'.below ((Below.refl _ _).alloc (Nat.le_refl _) _)
  case qa2 => unfold maxLen; omega
  case qa3 => omega
  case qa4 => simp; omega
  intro v' w2 hown hgrow
  have hbn : Below w1.heap.size w1 w2 := ((Below.refl _ w1).alloc (Nat.le_refl _) (.cells #[] 56)).grown hgrow (by simp) (fun k hk => by simp [Value.ownBlock] at hk; omega)
  have hX2 := hX.below hbn hlt
  have hR2 := hR.below hbn hlt'
  have hbw2 := hbw1.trans (hbn.mono (by omega))
  have hD2 := hD1.below hbn
  have hs2 : w.heap.size + 2 ≤ w2.heap.size := by have := hbn.size; omega
  have hown2 : w2.ownsRow (w.heap.size + 2) 56 2 v' wt.length (waitCells wt) := by simpa using hown
  obtain ⟨Av, cv, rfl⟩ := own_form hown2
  clear hown hgrow hbn hX hR hbw1 hD1 x0 x1 x2 x3 y0 y1 y2 y3 h1' hlt hlt' hs1
  obtain ⟨x0, x1, x2, x3, y0, y1, y2, y3⟩ := hX2.four
  have hlt : w.heap.size < w2.heap.size := by omega
  have hlt' : w.heap.size + 1 < w2.heap.size := by omega
  go_wp2_with (at_builtin; refine wpList_append_own _ rfl _ _ 26 rfl (w.heap.size + 2) 56 i0 (.agg #[.int .i64 0, .string { data := #[] }]) 2 24 Try.underlying26 hi hz0 hz1 hz2 rfl (by decide) _ _ _ rfl (hown2.alloc _) ⟨w2.heap.size, 0, none⟩ 1 1 (putCells (i, b)) rfl ?qc1 ?qc2 ?qc3 ?qc4 ?qc5 ?qc6 ?_)
  case qc1 => rfl
  case qc2 =>
    intro j u hj
    rw [Addr.add_lit, Nat.zero_add, (Bx.new w2 56 #[.int .i64 i, .string b]).cell j, ← hj]
    simp [putCells]
  case qc3 => intro u hu; simp [putCells] at hu; rcases hu with rfl | rfl <;> rfl
  case qc4 => unfold maxLen; omega
  case qc5 => omega
  case qc6 => simp; omega
  intro v' w3 hown3 hgrow3 _
  have hX3 := (hX2.alloc (.cells #[.int .i64 i, .string b] 56)).grown hgrow3 (own_bx_ne (hown2.alloc _) (hX2.alloc (.cells #[.int .i64 i, .string b] 56)) (by decide))
  have hR3 := (hR2.alloc (.cells #[.int .i64 i, .string b] 56)).grown hgrow3 (own_bx_ne (hown2.alloc _) (hR2.alloc (.cells #[.int .i64 i, .string b] 56)) (by decide))
  have hbw3 := (hbw2.alloc (by omega) (.cells #[.int .i64 i, .string b] 56)).grown hgrow3 (by simp; omega) (fun k hk => by have := (hown2.lt k hk).1; omega)
  have hL3 : TS w3 9 1 (.slice A l.length c) l.length (l.map Value.string) := by
    obtain ⟨v0, v1, hv, t0, _⟩ := hD2.alloc (.cells #[.int .i64 i, .string b] 56)
    simp at hv
    obtain ⟨rfl, rfl⟩ := hv
    exact t0.grown hgrow3 (hown2.alloc _) (by decide)
  have hown4 : w3.ownsRow (w.heap.size + 2) 56 2 v' (wt.length + 1) (waitCells (wt ++ [(i, b)])) := by
    rw [waitCells_append]
    have e : waitCells [(i, b)] = putCells (i, b) := by simp [waitCells]
    rw [e]
    exact hown3
  obtain ⟨Av', cv', rfl⟩ := own_form hown4
  have hT4 := TS.own hown4
  clear hown3 hgrow3 hX2 hR2 hbw2 hD2 hown2 x0 x1 x2 x3 y0 y1 y2 y3 hlt hlt' hs2 hown4
  obtain ⟨x0, x1, x2, x3, y0, y1, y2, y3⟩ := hX3.four
  obtain ⟨r0, r1', r2, r3, s0, s1, s2, s3⟩ := hR3.four
  have hlen : (wt ++ [(i, b)]).length = wt.length + 1 := by simp
  rcases (by omega : arm = 0 ∨ arm = 1 ∨ 2 ≤ arm) with rfl | rfl | h2
  · have HD := Lib.hid (show M.pushed ⟨l, wt, 0, false⟩ i b = ⟨l, wt ++ [(i, b)], 0, false⟩ by simp [M.pushed])
    have HL := Lib.hid hlen
    clear hlen
    go_wp2
    go_region
    all_goals (try go_wp2)
    rw [HD.out]
    have hX4 := hX3.set 1 (.slice Av' (wt.length + 1) cv')
    have hR4 := hR3.far (p := ⟨w.heap.size, 1, none⟩) (by simp) (.slice Av' (wt.length + 1) cv')
    refine bodyPost_ret (v := .tuple #[.agg #[.slice A l.length c, .slice Av' (wt.length + 1) cv', .int .i64 0, .bool false], .bool (!false)]) (by simp [results, Try.results18, go_sem, r0, r1', r2, r3]) rfl ⟨_, rfl, ?_, ?_⟩
    · have hI : IsD (w3.setCell ⟨w.heap.size, 1, none⟩ (.slice Av' (wt.length + 1) cv')) (.agg #[.slice A l.length c, .slice Av' (wt.length + 1) cv', .int .i64 0, .bool false]) ⟨l, wt ++ [(i, b)], 0, false⟩ := ⟨_, _, rfl, hL3.far hX3 (by decide) _ _, by simp only [HL.out]; exact hT4.far hX3 (by decide) _ _⟩
      exact (hI.far4 hR4 _ _ _ _).drew
    · exact (below_set4 (hbw3.setCell (p := ⟨w.heap.size, 1, none⟩) (Nat.le_refl _) _) (by omega) _ _ _ _).drew
  · have HD := Lib.hid (show M.pushed ⟨l, wt, 1, false⟩ i b = ⟨l, wt ++ [(i, b)], 0, true⟩ by simp [M.pushed])
    have HL := Lib.hid hlen
    clear hlen
    go_wp2
    go_region
    all_goals (try go_wp2)
    rw [HD.out]
    have hX4 := ((hX3.set 1 (.slice Av' (wt.length + 1) cv')).set 2 (.int .i64 0)).set 3 (.bool true)
    have hR4 := ((hR3.far (p := ⟨w.heap.size, 1, none⟩) (by simp) (.slice Av' (wt.length + 1) cv')).far (p := ⟨w.heap.size, 2, none⟩) (by simp) (.int .i64 0)).far (p := ⟨w.heap.size, 3, none⟩) (by simp) (.bool true)
    refine bodyPost_ret (v := .tuple #[.agg #[.slice A l.length c, .slice Av' (wt.length + 1) cv', .int .i64 0, .bool true], .bool (!true)]) (by simp [results, Try.results18, go_sem, r0, r1', r2, r3]) rfl ⟨_, rfl, ?_, ?_⟩
    · have hI : IsD w3 (.agg #[.slice A l.length c, .slice Av' (wt.length + 1) cv', .int .i64 0, .bool true]) ⟨l, wt ++ [(i, b)], 0, true⟩ := ⟨_, _, rfl, hL3, by simp only [HL.out]; exact hT4⟩
      exact ((((hI.far hX3 1 _).far (hX3.set 1 _) 2 _).far ((hX3.set 1 _).set 2 _) 3 _).far4 hR4 _ _ _ _).drew
    · exact (below_set4 (((hbw3.setCell (p := ⟨w.heap.size, 1, none⟩) (Nat.le_refl _) _).setCell (p := ⟨w.heap.size, 2, none⟩) (Nat.le_refl _) _).setCell (p := ⟨w.heap.size, 3, none⟩) (Nat.le_refl _) _) (by omega) _ _ _ _).drew
  · have e1 : (arm - 1 == 0) = false := by simp; omega
    have HD := Lib.hid (show M.pushed ⟨l, wt, arm, false⟩ i b = ⟨l, wt ++ [(i, b)], arm - 1, false⟩ by simp [M.pushed, show 0 < arm by omega, e1])
    have HL := Lib.hid hlen
    clear hlen
    go_wp2
    go_region
    all_goals (try go_wp2)
    rw [HD.out]
    have hR4 := ((hR3.far (p := ⟨w.heap.size, 1, none⟩) (by simp) (.slice Av' (wt.length + 1) cv')).far (p := ⟨w.heap.size, 2, none⟩) (by simp) (.int .i64 (arm - 1))).far (p := ⟨w.heap.size, 3, none⟩) (by simp) (.bool false)
    refine bodyPost_ret (v := .tuple #[.agg #[.slice A l.length c, .slice Av' (wt.length + 1) cv', .int .i64 (arm - 1), .bool false], .bool (!false)]) (by simp [results, Try.results18, go_sem, r0, r1', r2, r3]) rfl ⟨_, rfl, ?_, ?_⟩
    · have hI : IsD w3 (.agg #[.slice A l.length c, .slice Av' (wt.length + 1) cv', .int .i64 (arm - 1), .bool false]) ⟨l, wt ++ [(i, b)], arm - 1, false⟩ := ⟨_, _, rfl, hL3, by simp only [HL.out]; exact hT4⟩
      exact ((((hI.far hX3 1 _).far (hX3.set 1 _) 2 _).far ((hX3.set 1 _).set 2 _) 3 _).far4 hR4 _ _ _ _).drew
    · exact (below_set4 (((hbw3.setCell (p := ⟨w.heap.size, 1, none⟩) (Nat.le_refl _) _).setCell (p := ⟨w.heap.size, 2, none⟩) (Nat.le_refl _) _).setCell (p := ⟨w.heap.size, 3, none⟩) (Nat.le_refl _) _) (by omega) _ _ _ _).drew

theorem rwrite_any (v : Value) (d : D) (i : Int) (b : ByteArray) (w : World) (h : IsD w v d) (hw : d.wait.length ≤ 60000) (ha0 : 0 ≤ d.arm) (ha : d.arm ≤ 65536) :
    Calls Try.prog 18 #[v, .int .i64 i, .string b] w fun e w' => ∃ v', e = .returned (.tuple #[v', .bool (M.write d i b).2]) ∧ IsD w' v' (M.write d i b).1 ∧ Below w.heap.size w w' := by
  unfold M.write
  cases hc : (M.can d i && b.size == 64) with
  | true => simpa [hc] using rwrite_yes v d i b w h hw hc ha ha0
  | false => simpa [hc] using rwrite_no v d i b w h hc

end Go.Proofs.Ytgoggancldipcaa
