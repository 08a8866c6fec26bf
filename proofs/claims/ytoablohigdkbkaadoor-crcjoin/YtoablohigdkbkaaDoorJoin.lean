/-
  Proved: glacislaw2.CrcJoin returns true for every three texts of 20 bytes, where the table of package crc holds what its initialiser lays. (the card ties the table to the program's text.)
-/
import Derived.Test.YtoablohigdkbkaaDoorCk
import Derived.Test.YtoablohigdkbkaaDoorCg
namespace Go.Proofs.YtoablohigdkbkaaDoor.crcJoin
open Go.ChangeShapes Go.WideShapes Go.ChangeAt Go.WideMaps Go.WideElems Go.RowKit

/-- An array of twenty bytes that came in. -/
theorem open_arr {H : Type} {enc : TypeId × Value → H} {W : World} {base fuel : Nat} {v : Value} {x : DataW H × List MemPlace} (hv : Value.okWide Tryd.prog W .any base 32 v)
    (h : DataW.trod enc Tryd.prog W 0 (fun _ => true) true fuel 32 v.cells.toList = some x) : ∃ l : List Nat, v = .agg (l.map bv).toArray ∧ l.length = 20 ∧ ∀ b ∈ l, b < 256 := by
  simp only [Value.okWide, Tryd.underlying32] at hv
  obtain ⟨cs, rfl, hsz, _⟩ := hv
  have h32 : Tryd.prog.cellsOf 32 = 20 := by kernel_rfl
  have h5 : Tryd.prog.cellsOf 5 = 1 := by kernel_rfl
  rw [h32] at hsz
  obtain ⟨xs, m, _, _, _, hxl, hel⟩ := DataW.trod_array Tryd.underlying32 h
  have key : ∀ i, (hi : i < 20) → ∃ n : Nat, n < 256 ∧ cs[i]? = some (bv n) := by
    intro i hi
    have he := hel i hi
    rw [h5, Nat.mul_one] at he
    have hl : i < cs.toList.length := by simpa using (by omega : i < cs.size)
    have hone : (cs.toList.drop i).take 1 = [cs.toList[i]] := by rw [List.drop_eq_getElem_cons hl]; rfl
    have hxs : xs[i]? = some (xs[i]'(by omega)) := List.getElem?_eq_getElem (by omega)
    rw [show (Value.agg cs).cells = cs from rfl, hone, hxs] at he
    obtain ⟨z, hz1, _, hz2⟩ := DataW.trod_int Tryd.underlying5 he
    simp [Lit.wf, IntKind.min, IntKind.max, IntKind.signed, IntKind.bits] at hz2
    have hz3 : cs.toList[i] = .int .u8 z := by simpa using hz1
    refine ⟨z.toNat, by omega, ?_⟩
    rw [← Array.getElem?_toList, List.getElem?_eq_getElem hl, hz3, bv, Int.toNat_of_nonneg hz2.1]
  let num : Nat → Nat := fun i => match cs[i]? with | some (.int _ z) => z.toNat | _ => 0
  refine ⟨(List.range 20).map num, ?_, by simp, ?_⟩
  · congr 1
    apply Array.ext'
    apply List.ext_getElem?
    intro i
    by_cases hi : i < 20
    · obtain ⟨n, _, hn⟩ := key i hi
      have hnum : num i = n := by show (match cs[i]? with | some (.int _ z) => z.toNat | _ => 0) = n; rw [hn]; simp [bv]
      have hn' : cs.toList[i]? = some (bv n) := by simpa using hn
      rw [hn']
      simp [hi, hnum]
    · rw [List.getElem?_eq_none (by simpa using (by omega : cs.size ≤ i)), List.getElem?_eq_none (by simpa using (by omega : 20 ≤ i))]
  · intro b hb
    obtain ⟨i, hi, rfl⟩ := List.mem_map.1 hb
    obtain ⟨n, hlt, hn⟩ := key i (List.mem_range.1 hi)
    have hnum : num i = n := by show (match cs[i]? with | some (.int _ z) => z.toNat | _ => 0) = n; rw [hn]; simp [bv]
    rw [hnum]; exact hlt

theorem laidOut : laidOutB Tryd.prog = true := by kernel_rfl

set_option maxRecDepth 100000 in
theorem lifted (os : Os) (started : os.Started) (H : Type) (enc : TypeId × Value → H) :
    ReturnsInHanded {} Tryd.checked os 5 .any (fun w args => (Rows.crcJoinSpec.pre enc Tryd.prog Tryd.f5 [] false w args ∧ laidMetH Tryd.prog laid1 w) ∧ sizedMet enc Tryd.prog Tryd.f5 (OpenSpec.ofChange Rows.crcJoinSpec) false w args)
      (Rows.crcJoinSpec.post enc Tryd.prog Tryd.f5 false true false false) := by
  refine returnsInHanded_of_change_and (C := Tryd.checked) (X := fun w _ => laidMetH Tryd.prog laid1 w) (fun _ _ _ hh h => h.of_heap hh) own started (by kernel_rfl) Tryd.func5
    (ChangeSpec.witness_shaped (enc := enc) (C := Tryd.checked) (os := os) (X := fun w _ => laidMetH Tryd.prog laid1 w) false (World.doorLaid Tryd.prog 14 os) #[.agg (Array.replicate 20 (.int .u8 0)), .agg (Array.replicate 20 (.int .u8 0)), .agg (Array.replicate 20 (.int .u8 0))] 8 rfl (World.shaped_of_RefB (by kernel_rfl) (by kernel_rfl)) (by kernel_rfl) (by kernel_rfl) (by kernel_rfl) (door_met os _)) ?_
  intro W base args ds gs before hval0 hW _ _ hL _
  have hval : ∀ (j : Nat) t v, Tryd.f5.params[j]? = some t → args[j]? = some v → Value.okWide Tryd.prog W .any base t v := hval0
  have hW' := hW
  obtain ⟨p, q, hA0, hV, rfl, hfz, hnd⟩ := hW
  have hA : DataW.TrodAll enc Tryd.prog W 0 (fun _ => true) true Tryd.f5.params.toList args.toList ds p := hA0
  rw [Tryd.params5] at hA hval
  obtain ⟨v0, vs0, d0, ds0, p0, q0, hargs, rfl, rfl, h0, r0⟩ := trodAll_cons hA
  obtain ⟨v1, vs1, d1, ds1, p1, q1, rfl, rfl, rfl, h1, r1⟩ := trodAll_cons r0
  obtain ⟨v2, vs2, d2, ds2, p2, q2, rfl, rfl, rfl, h2, r2⟩ := trodAll_cons r1
  obtain ⟨rfl, rfl, rfl⟩ := trodAll_nil r2
  obtain rfl : args = #[v0, v1, v2] := by cases args; simp_all
  obtain ⟨rfl, rfl⟩ := trodVars_none hV
  have k0 := h0
  have lt0 : ∀ x ∈ p0, x.block < W.heap.size := by obtain ⟨m, hm⟩ := k0; exact DataW.trod_lt m _ _ _ hm
  have k1 := h1
  have lt1 : ∀ x ∈ p1, x.block < W.heap.size := by obtain ⟨m, hm⟩ := k1; exact DataW.trod_lt m _ _ _ hm
  have k2 := h2
  have lt2 : ∀ x ∈ p2, x.block < W.heap.size := by obtain ⟨m, hm⟩ := k2; exact DataW.trod_lt m _ _ _ hm
  obtain ⟨l0, e0, n0, b0⟩ : ∃ l : List Nat, v0 = .agg (l.map bv).toArray ∧ l.length = 20 ∧ ∀ b ∈ l, b < 256 := by
    obtain ⟨fuel, hf⟩ := h0
    exact open_arr (hval 0 32 v0 rfl rfl) hf
  subst e0
  obtain ⟨l1, e1, n1, b1⟩ : ∃ l : List Nat, v1 = .agg (l.map bv).toArray ∧ l.length = 20 ∧ ∀ b ∈ l, b < 256 := by
    obtain ⟨fuel, hf⟩ := h1
    exact open_arr (hval 1 32 v1 rfl rfl) hf
  subst e1
  obtain ⟨l2, e2, n2, b2⟩ : ∃ l : List Nat, v2 = .agg (l.map bv).toArray ∧ l.length = 20 ∧ ∀ b ∈ l, b < 256 := by
    obtain ⟨fuel, hf⟩ := h2
    exact open_arr (hval 2 32 v2 rfl rfl) hf
  subst e2
  clear hA0 hval0
  refine (join_any l0 l1 l2 n0 n1 n2 b0 b1 b2 W (of_laid hL)).mono fun e W' ⟨he, bel⟩ => ?_
  subst he
  exact ⟨_, rfl, _, _, _, [], _, [], hW', trodAll_mk1 (shut_bool Tryd.underlying4 _), (trodAll_cons_mk (Below.trod laidOut (by kernel_rfl) (of_decide_eq_true (by kernel_rfl)) k0 bel lt0) (trodAll_cons_mk (Below.trod laidOut (by kernel_rfl) (of_decide_eq_true (by kernel_rfl)) k1 bel lt1) (trodAll_cons_mk (Below.trod laidOut (by kernel_rfl) (of_decide_eq_true (by kernel_rfl)) k2 bel lt2) trodAll_mk0))), rfl, bel.frame _, fun h => by cases h⟩

theorem row_holds : Rows.CrcJoinSaid :=
  OpenClaim.holds_of_wide 5 Tryd.f5 rfl rfl rfl rfl rfl rfl rfl ⟨rfl, rfl, rfl, rfl, rfl⟩ rfl rfl rfl rfl rfl (by kernel_rfl) Tryd.func5 (by kernel_rfl)
    (of_decide_eq_true (by kernel_rfl)) (by unfold Func.isWrapper; first | (rw [if_pos (by decide +kernel)]; kernel_rfl) | (rw [if_neg (by decide +kernel)]; exact ⟨rfl, rfl⟩))
    (fun os started H enc _ => lifted os started H enc)

theorem proved : Rows.CrcJoinCardSaid :=
  Claim7.holds_tied_plain_at .later [] [.data] true (true, "9e4ad9c3c791406eb8ad11472164e29b5f89cdd0845dd51998de02fd147532e7") false
    row_holds (fun _ h => by cases h) (by kernel_rfl) (fun _ h => by cases h) crcJoin_row_tie rfl ⟨rfl, rfl⟩ (by kernel_rfl) rfl
    (fun f fn hf hfn => by
      obtain rfl : f = 5 := Option.some.inj ((show Tryd.prog.funcNamed "glacis/glacislaw2.CrcJoin" = some 5 by kernel_rfl).symm.trans hf) |>.symm
      obtain rfl : fn = Tryd.f5 := (Option.some.inj (Tryd.func5.symm.trans hfn)).symm
      exact ⟨by kernel_rfl, fun j t ht => by
        rw [Tryd.params5] at ht
        have hm : t ∈ [32, 32, 32] := by simpa using Array.mem_of_getElem? ht
        have hall : ([32, 32, 32].all fun u => !Tryd.prog.wantsStandIn u) = true := by kernel_rfl
        exact (show Tryd.prog.wantsStandIn t = false by simpa using List.all_eq_true.1 hall t hm)⟩)
    (by kernel_rfl)

end Go.Proofs.YtoablohigdkbkaaDoor.crcJoin
