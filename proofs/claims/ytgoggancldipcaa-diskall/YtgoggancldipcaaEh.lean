/-
  Arguments opened: a slice of bools.
-/
import Derived.Test.YtgoggancldipcaaDo
namespace Go.Proofs.Ytgoggancldipcaa
open Go.ChangeShapes Go.WideShapes Go.ChangeAt Go.RowKit Go.Deep

def cellBool (w : World) (a : Addr) : Bool := match w.cell? a with | some (.bool b) => b | _ => false

theorem open_bools {H : Type} {enc : TypeId × Value → H} {W : World} {t fuel : Nat} {A : Option Addr} {len cap : Nat} {x : DataW H × List MemPlace}
    (ht : Try.prog.underlying t = some (.slice 4)) (h : DataW.trod enc Try.prog W 0 (fun _ => true) true fuel t [.slice A len cap] = some x) :
    ∃ ks : List Bool, Sl W 1 (.slice A len cap) len (ks.map Value.bool) ∧ ks.length = len := by
  have h4 : Try.prog.cellsOf 4 = 1 := by kernel_rfl
  rcases open_slice ht h with ⟨hcs, _⟩ | ⟨a, len', cap', m, n, Dd, Pl, hcs, _, hl, hm, hmm, _, hi⟩
  · simp at hcs
    obtain ⟨rfl, rfl, rfl⟩ := hcs
    exact ⟨[], ⟨none, 0, rfl, by simp, fun h => absurd h (by omega)⟩, by simp⟩
  · simp at hcs
    obtain ⟨rfl, rfl, rfl⟩ := hcs
    have hmc : m = cap := by simpa using hmm
    have key : ∀ q, q < len → ∃ b : Bool, W.cell? (a.add q) = some (.bool b) := by
      intro q hq
      obtain ⟨cs', hc1, hc2⟩ := hi q (by omega)
      rw [h4] at hc1
      obtain ⟨_, hcl, hat⟩ := World.cells?_some hc1
      obtain ⟨b, hb, _⟩ := DataW.trod_bool Try.underlying4 hc2
      refine ⟨b, ?_⟩
      have := hat 0 (by omega)
      rw [Go.Deep.add_add, Nat.mul_one, Nat.add_zero, hb] at this
      simpa using this
    refine ⟨(List.range len).map fun q => cellBool W (a.add q), ⟨some a, cap, rfl, by simp, fun hn => ?_⟩, by simp⟩
    obtain ⟨b, hb⟩ := key 0 hn
    obtain ⟨ha, hbl⟩ := spot_of hb
    refine ⟨a.block, a.off, by rw [← ha], hbl, fun j hj => ?_⟩
    obtain ⟨b', hb'⟩ := key j (by omega)
    have e : (⟨a.block, a.off + j, none⟩ : Addr) = a.add j := by
      conv => rhs; rw [ha]
      rw [Addr.add_lit]
    rw [e, hb']
    have hj' : j < len := by omega
    simp [hj', cellBool, hb']

end Go.Proofs.Ytgoggancldipcaa
