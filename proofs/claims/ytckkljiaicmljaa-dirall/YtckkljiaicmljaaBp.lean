/-
  Arguments opened: a row of entries that came in.
-/
import Derived.Test.YtckkljiaicmljaaQt
import Derived.Test.YtckkljiaicmljaaBo
import Derived.Deep.SlicePairs
namespace Go.Proofs.Ytckkljiaicmljaa
open Go.ChangeShapes Go.WideShapes Go.ChangeAt Go.RowKit Go.Joins Go.Deep

def sOf : Value → ByteArray
  | .string s => s
  | _ => { data := #[] }
def zOf : Value → Int
  | .int _ z => z
  | _ => 0

theorem open_entries {H : Type} {enc : TypeId × Value → H} {W : World} {fuel : Nat} {A : Option Addr} {len cap : Nat} {x : DataW H × List MemPlace}
    (h : DataW.trod enc Try.prog W 0 (fun _ => true) true fuel 23 [.slice A len cap] = some x) :
    ∃ l : List E, Ez W (.slice A len cap) l ∧ l.length = len := by
  rcases open_slice_pairs Try.underlying23 Try.underlying26 (by kernel_rfl) rfl rfl (by kernel_rfl) (by kernel_rfl) h with ⟨hcs, _⟩ | ⟨a, len', cap', m, n, V0, V1, D0, D1, P0, P1, hcs, _, hl, _, hm, _, hx⟩
  · simp at hcs
    obtain ⟨rfl, rfl, rfl⟩ := hcs
    exact ⟨[], ⟨⟨none, 0, rfl, rfl, fun h => absurd h (by simp)⟩, by simp⟩, rfl⟩
  · simp at hcs
    obtain ⟨rfl, rfl, rfl⟩ := hcs
    have hmc : m = cap := by simpa using hm
    have key : ∀ i, i < len → W.cell? (a.add (i * 2)) = some (.string (sOf (V0 i))) ∧ W.cell? (a.add (i * 2 + 1)) = some (.int .i64 (zOf (V1 i))) ∧ I64 (zOf (V1 i)) := by
      intro i hi
      obtain ⟨h1, h2, h3, h4⟩ := hx i (by omega)
      obtain ⟨s, hs, _⟩ := DataW.trod_string Try.underlying9 h3
      obtain ⟨z, hz, _, wz⟩ := DataW.trod_int Try.underlying3 h4
      simp at hs hz
      rw [hs] at h1
      rw [hz] at h2
      simp [Lit.wf, IntKind.min, IntKind.max, IntKind.signed, IntKind.bits] at wz
      rw [hs, hz]
      exact ⟨h1, h2, by unfold I64 zOf; omega⟩
    have hlen : ((List.range len).map fun i => (sOf (V0 i), zOf (V1 i))).length = len := by simp
    have hget : ∀ i, i < len → ((List.range len).map fun i => (sOf (V0 i), zOf (V1 i)))[i]? = some (sOf (V0 i), zOf (V1 i)) := fun i hi => by simp [hi]
    generalize (List.range len).map (fun i => (sOf (V0 i), zOf (V1 i))) = l at *
    refine ⟨l, ⟨⟨some a, cap, by rw [hlen], cs_length l, fun hn => ?_⟩, ?_⟩, hlen⟩
    · rw [hlen] at hn ⊢
      obtain ⟨ha, hb⟩ := spot_of (key 0 hn).1
      refine ⟨a.block, a.off, by rw [← ha], hb, fun j hj => ?_⟩
      have e : (⟨a.block, a.off + j, none⟩ : Addr) = a.add j := by
        conv => rhs; rw [ha]
        rw [Addr.add_lit]
      rw [e]
      obtain ⟨c1, c2⟩ := cs_at l (j / 2) _ (hget (j / 2) (by omega))
      obtain ⟨k1, k2, _⟩ := key (j / 2) (by omega)
      rcases Nat.mod_two_eq_zero_or_one j with hr | hr
      · rw [show j / 2 * 2 = j by omega] at c1 k1
        exact k1.trans c1.symm
      · rw [show j / 2 * 2 + 1 = j by omega] at c2 k2
        exact k2.trans c2.symm
    · intro e he
      obtain ⟨i, hi, rfl⟩ := List.mem_iff_getElem.1 he
      have := hget i (by omega)
      rw [List.getElem?_eq_getElem hi] at this
      injection this with this
      rw [this]
      exact (key i (by omega)).2.2
end Go.Proofs.Ytckkljiaicmljaa
