/-
  Arguments opened: a row of uint16 and a slot that came in.
-/
import Derived.Test.YtcojpbckeebohaaLm
import Derived.Test.YtcojpbckeebohaaBo
namespace Go.Proofs.Ytcojpbckeebohaa
open Go.ChangeShapes Go.WideShapes Go.ChangeAt Go.RowKit Go.Joins

theorem open_u16 {H : Type} {enc : TypeId × Value → H} {W : World} {fuel : Nat} {A : Option Addr} {len cap : Nat} {x : DataW H × List MemPlace}
    (h : DataW.trod enc Try.prog W 0 (fun _ => true) true fuel 24 [.slice A len cap] = some x) :
    ∃ l : List Nat, Us W (.slice A len cap) l ∧ l.length = len := by
  obtain ⟨bs, h1, h2, h3, _⟩ := open_nums Try.underlying24 Try.underlying50 (by kernel_rfl) (.inr rfl) h
  refine ⟨bs, ⟨h1, fun b hb => ?_⟩, h3⟩
  have := h2 b hb
  simp [Lit.wf, IntKind.min, IntKind.max, IntKind.signed, IntKind.bits] at this
  omega

theorem five {α : Type} {cs : Array α} (h : cs.size = 5) : ∃ c0 c1 c2 c3 c4, cs = #[c0, c1, c2, c3, c4] := by
  obtain ⟨l⟩ := cs
  match l, h with
  | [c0, c1, c2, c3, c4], _ => exact ⟨c0, c1, c2, c3, c4, rfl⟩

/-- A slot that came in. -/
theorem open_slot {H : Type} {enc : TypeId × Value → H} {W : World} {base : Nat} {v : Value} {d : DataW H} {p : List MemPlace} (hv : Value.okWide Try.prog W .any base 23 v)
    (h : DataW.Trod enc Try.prog W 0 (fun _ => true) true 23 v d p) : ∃ x : PS.S, v = .agg (sv x) ∧ R5 x := by
  obtain ⟨cs, rfl, hsz⟩ := okWide_struct Try.underlying23 hv
  obtain ⟨c0, c1, c2, c3, c4, rfl⟩ := five (hsz.trans (by kernel_rfl))
  obtain ⟨fuel, hf⟩ := h
  obtain ⟨xs, n, _, _, _, hlen, hfd⟩ := DataW.trod_struct Try.underlying23 hf
  have one : Try.prog.cellsOf 3 = 1 := by kernel_rfl
  have key : ∀ (c : Value) (y : DataW H × List MemPlace), DataW.trod enc Try.prog W 0 (fun _ => true) true n 3 [c] = some y → ∃ z, c = .int .i64 z ∧ I64 z := by
    intro c y hy
    obtain ⟨z, hz, _, wz⟩ := DataW.trod_int Try.underlying3 hy
    simp at hz
    subst hz
    simp [Lit.wf, IntKind.min, IntKind.max, IntKind.signed, IntKind.bits] at wz
    exact ⟨z, rfl, by unfold I64; omega⟩
  have h5 : xs.length = 5 := hlen
  have f0 : DataW.trod enc Try.prog W 0 (fun _ => true) true n 3 ((List.drop 0 [c0, c1, c2, c3, c4]).take (Try.prog.cellsOf 3)) = xs[0]? := hfd 0 _ rfl
  rw [one, List.getElem?_eq_getElem (by omega)] at f0
  have f1 : DataW.trod enc Try.prog W 0 (fun _ => true) true n 3 ((List.drop 1 [c0, c1, c2, c3, c4]).take (Try.prog.cellsOf 3)) = xs[1]? := hfd 1 _ rfl
  rw [one, List.getElem?_eq_getElem (by omega)] at f1
  have f2 : DataW.trod enc Try.prog W 0 (fun _ => true) true n 3 ((List.drop 2 [c0, c1, c2, c3, c4]).take (Try.prog.cellsOf 3)) = xs[2]? := hfd 2 _ rfl
  rw [one, List.getElem?_eq_getElem (by omega)] at f2
  have f3 : DataW.trod enc Try.prog W 0 (fun _ => true) true n 3 ((List.drop 3 [c0, c1, c2, c3, c4]).take (Try.prog.cellsOf 3)) = xs[3]? := hfd 3 _ rfl
  rw [one, List.getElem?_eq_getElem (by omega)] at f3
  have f4 : DataW.trod enc Try.prog W 0 (fun _ => true) true n 3 ((List.drop 4 [c0, c1, c2, c3, c4]).take (Try.prog.cellsOf 3)) = xs[4]? := hfd 4 _ rfl
  rw [one, List.getElem?_eq_getElem (by omega)] at f4
  obtain ⟨z0, rfl, r0⟩ := key c0 _ f0
  obtain ⟨z1, rfl, r1⟩ := key c1 _ f1
  obtain ⟨z2, rfl, r2⟩ := key c2 _ f2
  obtain ⟨z3, rfl, r3⟩ := key c3 _ f3
  obtain ⟨z4, rfl, r4⟩ := key c4 _ f4
  exact ⟨⟨z0, z1, z2, z3, z4⟩, rfl, r0, r1, r2, r3, r4⟩
end Go.Proofs.Ytcojpbckeebohaa
