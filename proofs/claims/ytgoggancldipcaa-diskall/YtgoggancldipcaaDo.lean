/-
  Arguments opened: a slice of arrays of bytes, a slice of bools.
-/
import Derived.Test.YtgoggancldipcaaDm
import Derived.ProofKit
import Derived.OpenShut
import Derived.Deep.Slices
import Derived.ChangeOld
import Derived.Below
namespace Go.Proofs.Ytgoggancldipcaa
open Go.ChangeShapes Go.WideShapes Go.ChangeAt Go.RowKit Go.Deep

theorem Try.laidOut : laidOutB Try.prog = true := by kernel_rfl

def cellInt (w : World) (a : Addr) : Int := match w.cell? a with | some (.int _ n) => n | _ => 0

theorem spot_of {w : World} {a : Addr} {v : Value} (h : w.cell? (a.add 0) = some v) : a = ⟨a.block, a.off, none⟩ ∧ a.block < w.heap.size := by
  obtain ⟨b, o, s⟩ := a
  have hs : s = none := by simpa [Addr.add] using World.cell?_spot h
  subst hs
  have hb := World.block_lt_of_cell? w _ h
  rw [Addr.add_lit] at hb
  exact ⟨rfl, hb⟩

theorem open_rows {H : Type} {enc : TypeId × Value → H} {W : World} {t e : TypeId} {k fuel : Nat} {A : Option Addr} {len cap : Nat} {x : DataW H × List MemPlace}
    (ht : Try.prog.underlying t = some (.slice e)) (he : Try.prog.underlying e = some (.array k 5)) (hc : Try.prog.cellsOf e = k) (hk : 0 < k)
    (h : DataW.trod enc Try.prog W 0 (fun _ => true) true fuel t [.slice A len cap] = some x) :
    ∃ zs : List Int, Sl W k (.slice A len cap) len (zs.map (Value.int .u8)) ∧ zs.length = len * k ∧ ∀ z ∈ zs, 0 ≤ z ∧ z ≤ 255 := by
  rcases open_slice ht h with ⟨hcs, _⟩ | ⟨a, len', cap', m, n, Dd, Pl, hcs, _, hl, hm, hmm, _, hi⟩
  · simp at hcs
    obtain ⟨rfl, rfl, rfl⟩ := hcs
    exact ⟨[], ⟨none, 0, rfl, by simp, fun h => absurd h (by omega)⟩, by simp, by simp⟩
  · simp at hcs
    obtain ⟨rfl, rfl, rfl⟩ := hcs
    have hmc : m = cap := by simpa using hmm
    have key : ∀ q, q < len * k → ∃ z : Int, W.cell? (a.add q) = some (.int .u8 z) ∧ 0 ≤ z ∧ z ≤ 255 := by
      intro q hq
      have hqi : q / k < len := by rw [Nat.div_lt_iff_lt_mul hk]; exact hq
      have hqj : q % k < k := Nat.mod_lt _ hk
      obtain ⟨cs', hc1, hc2⟩ := hi (q / k) (by omega)
      rw [hc] at hc1
      obtain ⟨_, hcl, hat⟩ := World.cells?_some hc1
      obtain ⟨xs, m', _, _, _, hxl, hel⟩ := DataW.trod_array he hc2
      have h5 : Try.prog.cellsOf 5 = 1 := by kernel_rfl
      have he1 := hel (q % k) hqj
      rw [h5, Nat.mul_one] at he1
      have hone : (cs'.drop (q % k)).take 1 = [cs'[q % k]'(by omega)] := by
        rw [List.drop_eq_getElem_cons (by omega)]; rfl
      rw [hone] at he1
      have hxs : xs[q % k]? = some (xs[q % k]'(by omega)) := List.getElem?_eq_getElem (by omega)
      rw [hxs] at he1
      obtain ⟨z, hz1, _, hz2⟩ := DataW.trod_int Try.underlying5 he1
      have hz3 : cs'[q % k]'(by omega) = .int .u8 z := by simpa using hz1
      refine ⟨z, ?_, by simpa [Lit.wf, IntKind.min, IntKind.max, IntKind.signed, IntKind.bits] using hz2⟩
      have e : a.add q = (a.add (q / k * k)).add (q % k) := by
        rw [Go.Deep.add_add]
        congr 1
        rw [Nat.mul_comm]; exact (Nat.div_add_mod q k).symm
      rw [e, hat _ hqj, ← hz3]
      exact List.getElem?_eq_getElem (by omega)
    refine ⟨(List.range (len * k)).map fun q => cellInt W (a.add q), ⟨some a, cap, rfl, by simp, fun hn => ?_⟩, by simp, ?_⟩
    · have hpos : 0 < len * k := Nat.mul_pos hn hk
      obtain ⟨z, hz, _⟩ := key 0 hpos
      obtain ⟨ha, hb⟩ := spot_of hz
      refine ⟨a.block, a.off, by rw [← ha], hb, fun j hj => ?_⟩
      obtain ⟨z', hz', _⟩ := key j hj
      have e : (⟨a.block, a.off + j, none⟩ : Addr) = a.add j := by
        conv => rhs; rw [ha]
        rw [Addr.add_lit]
      rw [e, hz']
      simp [hj, cellInt, hz']
    · intro z hz
      obtain ⟨q, hq, rfl⟩ := List.mem_map.1 hz
      obtain ⟨z', hz', hz2⟩ := key q (by simpa using hq)
      simpa [cellInt, hz'] using hz2

end Go.Proofs.Ytgoggancldipcaa
