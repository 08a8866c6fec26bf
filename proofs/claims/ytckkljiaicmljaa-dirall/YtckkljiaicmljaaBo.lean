/-
  Arguments opened: a text, a row of numbers that came in.
-/
import Derived.Test.YtckkljiaicmljaaQa
namespace Go.Proofs.Ytckkljiaicmljaa
open Go.ChangeShapes Go.WideShapes Go.ChangeAt Go.RowKit

/-- v is the text bs, however long. -/
def Tz (w : World) (v : Value) (bs : List Nat) : Prop := Sl w 1 v bs.length (bs.map bv) ∧ ∀ b ∈ bs, b < 256
theorem Tz.small {w : World} {v : Value} {bs : List Nat} (h : Tz w v bs) (hm : bs.length ≤ 1048576) : Tx w v bs := ⟨h.1, h.2, hm⟩

theorem spot_of {w : World} {a : Addr} {v : Value} (h : w.cell? (a.add 0) = some v) : a = ⟨a.block, a.off, none⟩ ∧ a.block < w.heap.size := by
  obtain ⟨b, o, s⟩ := a
  have hs : s = none := by simpa [Addr.add] using World.cell?_spot h
  subst hs
  have hb := World.block_lt_of_cell? w _ h
  rw [Addr.add_lit] at hb
  exact ⟨rfl, hb⟩

/-- A slice of unsigned numbers that came in. -/
theorem open_nums {H : Type} {enc : TypeId × Value → H} {W : World} {fuel : Nat} {A : Option Addr} {len cap : Nat} {x : DataW H × List MemPlace} {t e : TypeId} {k : IntKind} (ht : Try.prog.underlying t = some (.slice e)) (he : Try.prog.underlying e = some (.int k)) (hc : Try.prog.cellsOf e = 1)
    (hk : k = .u8 ∨ k = .u32)
    (h : DataW.trod enc Try.prog W 0 (fun _ => true) true fuel t [.slice A len cap] = some x) :
    ∃ bs : List Nat, Sl W 1 (.slice A len cap) bs.length (bs.map fun (b : Nat) => Value.int k (b : Int)) ∧ (∀ b ∈ bs, (Lit.int k (b : Int)).wf = true) ∧ bs.length = len ∧ len ≤ cap := by
  rcases open_ints ht he hc h with ⟨hcs, _⟩ | ⟨a, len', cap', zs, hcs, _, hl, hm, hz, _, hcell, hwz⟩
  · simp at hcs
    obtain ⟨rfl, rfl, rfl⟩ := hcs
    exact ⟨[], ⟨none, 0, rfl, rfl, fun h => absurd h (by simp)⟩, by simp, rfl, Nat.le_refl _⟩
  · simp at hcs
    obtain ⟨rfl, rfl, rfl⟩ := hcs
    have hzc : zs.length = cap := by simpa using hz
    have hlt : ((zs.take len).map Int.toNat).length = len := by simp; omega
    have h0 : ∀ z ∈ zs, 0 ≤ z := by
      intro z hz
      have hw := hwz z hz
      rcases hk with rfl | rfl <;> (simp [Lit.wf, IntKind.min, IntKind.max, IntKind.signed, IntKind.bits] at hw; exact hw.1)
    refine ⟨(zs.take len).map Int.toNat, ⟨some a, cap, by rw [hlt], by simp, fun hn => ?_⟩, ?_, hlt, hl⟩
    · rw [hlt] at hn ⊢
      obtain ⟨ha, hb⟩ := spot_of (hcell 0 (by omega))
      refine ⟨a.block, a.off, by rw [← ha], hb, fun j hj => ?_⟩
      have e : (⟨a.block, a.off + j, none⟩ : Addr) = a.add j := by
        conv => rhs; rw [ha]
        rw [Addr.add_lit]
      have hj' : j < zs.length := by omega
      rw [e, hcell j (by omega)]
      have h0' := h0 zs[j] (List.getElem_mem hj')
      have hjl : j < len := by omega
      simp [hj', hjl, Int.toNat_of_nonneg h0']
    · intro b hb
      obtain ⟨z, hzm, rfl⟩ := List.mem_map.1 hb
      have hz := List.mem_of_mem_take hzm
      rw [Int.toNat_of_nonneg (h0 z hz)]
      exact hwz z hz

theorem open_bytes {H : Type} {enc : TypeId × Value → H} {W : World} {fuel : Nat} {A : Option Addr} {len cap : Nat} {x : DataW H × List MemPlace}
    (h : DataW.trod enc Try.prog W 0 (fun _ => true) true fuel 22 [.slice A len cap] = some x) :
    ∃ bs : List Nat, Tz W (.slice A len cap) bs ∧ bs.length = len ∧ len ≤ cap := by
  obtain ⟨bs, h1, h2, h3⟩ := open_nums Try.underlying22 Try.underlying5 (by kernel_rfl) (.inl rfl) h
  refine ⟨bs, ⟨h1, fun b hb => ?_⟩, h3⟩
  have := h2 b hb
  simp [Lit.wf, IntKind.min, IntKind.max, IntKind.signed, IntKind.bits] at this
  omega

theorem Try.laidOut : laidOutB Try.prog = true := by kernel_rfl
end Go.Proofs.Ytckkljiaicmljaa
