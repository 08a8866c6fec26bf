/-
  What the frames of the four proofs share: the variables that the rows list, the wrap that keeps the world's shape, arguments opened.
-/
import Derived.Test.YtdnobplhfbgbaaaGreatDoorNa
import Derived.Test.YtdnobplhfbgbaaaGreatDoorTie
import Derived.Test.YtdnobplhfbgbaaaGreatDoorCards
import Derived.ProofKit
import Derived.LaidMore
import Derived.OpenShut
import Derived.Lay
import Derived.Stop.Joined
import Derived.SevenTiedAt
namespace Go.Proofs.YtdnobplhfbgbaaaGreatDoor
open Go.ChangeShapes Go.WideShapes Go.ChangeAt Go.RowKit

theorem own : ownKnob Tryz.prog.godebug = none := by kernel_rfl
theorem Tryz.laidOut : laidOutB Tryz.prog = true := by kernel_rfl
def laid2 : List (String × DataW Unit) := [("unicode/utf8.acceptRanges", Rows.laid_unicode_utf8_acceptRanges), ("unicode/utf8.first", Rows.laid_unicode_utf8_first)]

set_option maxRecDepth 100000 in
/-- From a contract on every world that fits, its shape among what is known, to the row's claim. -/
theorem lift_shaped {H : Type} {enc : TypeId × Value → H} {os : Os} {f : FuncId} {fn : Func} {s : ChangeSpec} {fresh handsOn again : Bool}
    (started : os.Started) (noInit : Tryz.prog.inits.idxOf? f = none) (hfn : Tryz.prog.funcs[f]? = some fn)
    (witness : ∃ (w : World) (tape : Tape) (i : Input), w.os = os ∧ (w.forCall tape i).Shaped Tryz.prog ∧ i.vars = [] ∧ Input.okWide Tryz.prog (w.forCall tape i) .any w.heap.size f i ∧
      ((s.pre enc Tryz.prog fn [] false (w.forCall tape i).memory i.args ∧ laidMetH Tryz.prog laid2 (w.forCall tape i).memory) ∧ sizedMet enc Tryz.prog fn (OpenSpec.ofChange s) false (w.forCall tape i).memory i.args) ∧ ({} : Assume).holds Tryz.prog (lone (Frame.enter Tryz.prog f i.args .normal) [] (w.forCall tape i)))
    (contract : ∀ (W : World) (base : Nat) (args : Array Value) (ds gs : List (DataW H)) (before : List MemPlace),
      (∀ (j : Nat) t v, fn.params[j]? = some t → args[j]? = some v → Value.okWide Tryz.prog W .any base t v) →
      DataW.Whole enc Tryz.prog fn.params.toList s.vars false W args.toList ds gs before → Ml W →
      Calls Tryz.prog f args W fun e W' => ∃ v, e = .returned v ∧ s.post enc Tryz.prog fn false fresh handsOn again W args v W') :
    ReturnsInHanded {} Tryz.checked os f .any (fun w args => (s.pre enc Tryz.prog fn [] false w args ∧ laidMetH Tryz.prog laid2 w) ∧ sizedMet enc Tryz.prog fn (OpenSpec.ofChange s) false w args) (s.post enc Tryz.prog fn false fresh handsOn again) := by
  refine returnsInHanded_of_calls own started noInit witness ?_
  intro w tape i _ hsh _ hok hpre _
  obtain ⟨_, _, _, fn', hfn', _, _, _, _, hval⟩ := hok
  obtain rfl : fn' = fn := Option.some.inj (hfn'.symm.trans hfn)
  obtain ⟨⟨⟨ds, gs, before, hw, _⟩, _⟩, _⟩ := hpre
  have hw' := DataW.Whole.of_heap (w' := w.forCall tape i) (by rfl) hw
  refine (contract (w.forCall tape i) w.heap.size i.args ds gs before hval hw' (Ml.shaped hsh)).mono fun e W' ⟨v, he, hp⟩ => ?_
  subst he
  exact ChangeSpec.post_blind hp

/-- v is the text bs, however long. -/
def Tz (w : World) (v : Value) (bs : List Nat) : Prop := Sl w 1 v bs.length (bs.map bv) ∧ ∀ b ∈ bs, b < 256
theorem Tz.small {w : World} {v : Value} {bs : List Nat} (h : Tz w v bs) (hm : bs.length ≤ 1048576) : Tx w v bs := ⟨h.1, h.2, hm⟩

theorem spot_of {w : World} {a : Addr} {v : Value} (h : w.cell? (a.add 0) = some v) : a = ⟨a.block, a.off, none⟩ ∧ a.block < w.heap.size := by
  obtain ⟨b, o, s⟩ := a
  have hs : s = none := by simpa [Addr.add] using World.cell?_spot h
  subst hs
  have hb := World.block_lt_of_cell? w _ h
  rw [Addr.add_lit] at hb
  exact ⟨rfl, hb⟩

/-- A slice of unsigned numbers that came in. -/
theorem open_nums {H : Type} {enc : TypeId × Value → H} {W : World} {fuel : Nat} {A : Option Addr} {len cap : Nat} {x : DataW H × List MemPlace} {t e : TypeId} {k : IntKind} (ht : Tryz.prog.underlying t = some (.slice e)) (he : Tryz.prog.underlying e = some (.int k)) (hc : Tryz.prog.cellsOf e = 1)
    (hk : k = .u8 ∨ k = .u16)
    (h : DataW.trod enc Tryz.prog W 0 (fun _ => true) true fuel t [.slice A len cap] = some x) :
    ∃ bs : List Nat, Sl W 1 (.slice A len cap) bs.length (bs.map fun (b : Nat) => Value.int k (b : Int)) ∧ (∀ b ∈ bs, (Lit.int k (b : Int)).wf = true) ∧ bs.length = len ∧ len ≤ cap := by
  rcases open_ints ht he hc h with ⟨hcs, _⟩ | ⟨a, len', cap', zs, hcs, _, hl, hm, hz, _, hcell, hwz⟩
  · simp at hcs
    obtain ⟨rfl, rfl, rfl⟩ := hcs
    exact ⟨[], ⟨none, 0, rfl, rfl, fun h => absurd h (by simp)⟩, by simp, rfl, Nat.le_refl _⟩
  · simp at hcs
    obtain ⟨rfl, rfl, rfl⟩ := hcs
    have hzc : zs.length = cap := by simpa using hz
    have hlt : ((zs.take len).map Int.toNat).length = len := by simp; omega
    have h0 : ∀ z ∈ zs, 0 ≤ z := by
      intro z hz
      have hw := hwz z hz
      rcases hk with rfl | rfl <;> (simp [Lit.wf, IntKind.min, IntKind.max, IntKind.signed, IntKind.bits] at hw; exact hw.1)
    refine ⟨(zs.take len).map Int.toNat, ⟨some a, cap, by rw [hlt], by simp, fun hn => ?_⟩, ?_, hlt, hl⟩
    · rw [hlt] at hn ⊢
      obtain ⟨ha, hb⟩ := spot_of (hcell 0 (by omega))
      refine ⟨a.block, a.off, by rw [← ha], hb, fun j hj => ?_⟩
      have e : (⟨a.block, a.off + j, none⟩ : Addr) = a.add j := by
        conv => rhs; rw [ha]
        rw [Addr.add_lit]
      have hj' : j < zs.length := by omega
      rw [e, hcell j (by omega)]
      have h0' := h0 zs[j] (List.getElem_mem hj')
      have hjl : j < len := by omega
      simp [hj', hjl, Int.toNat_of_nonneg h0']
    · intro b hb
      obtain ⟨z, hzm, rfl⟩ := List.mem_map.1 hb
      have hz := List.mem_of_mem_take hzm
      rw [Int.toNat_of_nonneg (h0 z hz)]
      exact hwz z hz

theorem open_bytes {H : Type} {enc : TypeId × Value → H} {W : World} {fuel : Nat} {A : Option Addr} {len cap : Nat} {x : DataW H × List MemPlace}
    (h : DataW.trod enc Tryz.prog W 0 (fun _ => true) true fuel 30 [.slice A len cap] = some x) :
    ∃ bs : List Nat, Tz W (.slice A len cap) bs ∧ bs.length = len ∧ len ≤ cap := by
  obtain ⟨bs, h1, h2, h3⟩ := open_nums Tryz.underlying30 Tryz.underlying5 (by kernel_rfl) (.inl rfl) h
  refine ⟨bs, ⟨h1, fun b hb => ?_⟩, h3⟩
  have := h2 b hb
  simp [Lit.wf, IntKind.min, IntKind.max, IntKind.signed, IntKind.bits] at this
  omega

end Go.Proofs.YtdnobplhfbgbaaaGreatDoor
