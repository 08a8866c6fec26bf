/-
  Arguments opened: a text that came in. 'append' of a text onto a row of one's own.
-/
import Derived.Test.YtoablohigdkbkaaDoorCe
import Derived.ProofKit
import Derived.OpenShut
import Derived.Below
namespace Go.Proofs.YtoablohigdkbkaaDoor
open Go.ChangeShapes Go.WideShapes Go.ChangeAt Go.RowKit

theorem Tryd.info5 : (Tryd.prog.info? 5).map (fun i => (i.zero, i.size, i.bytes)) = some (some (.int .u8 0), 1, 1) := by kernel_rfl

/-- v is the text bs, however long. -/
def Tz (w : World) (v : Value) (bs : List Nat) : Prop := Sl w 1 v bs.length (bs.map bv) ∧ ∀ b ∈ bs, b < 256
theorem Tz.small {w : World} {v : Value} {bs : List Nat} (h : Tz w v bs) (hm : bs.length < 4294967296) : Tx w v bs := ⟨h.1, h.2, hm⟩

theorem spot_of {w : World} {a : Addr} {v : Value} (h : w.cell? (a.add 0) = some v) : a = ⟨a.block, a.off, none⟩ ∧ a.block < w.heap.size := by
  obtain ⟨b, o, s⟩ := a
  have hs : s = none := by simpa [Addr.add] using World.cell?_spot h
  subst hs
  have hb := World.block_lt_of_cell? w _ h
  rw [Addr.add_lit] at hb
  exact ⟨rfl, hb⟩

theorem open_bytes {H : Type} {enc : TypeId × Value → H} {W : World} {fuel : Nat} {A : Option Addr} {len cap : Nat} {x : DataW H × List MemPlace}
    (h : DataW.trod enc Tryd.prog W 0 (fun _ => true) true fuel 22 [.slice A len cap] = some x) :
    ∃ bs : List Nat, Tz W (.slice A len cap) bs ∧ bs.length = len := by
  rcases open_ints Tryd.underlying22 Tryd.underlying5 (by kernel_rfl) h with ⟨hcs, _⟩ | ⟨a, len', cap', zs, hcs, _, hl, hm, hz, _, hcell, hwz⟩
  · simp at hcs
    obtain ⟨rfl, rfl, rfl⟩ := hcs
    exact ⟨[], ⟨⟨none, 0, rfl, rfl, fun h => absurd h (by simp)⟩, by simp⟩, rfl⟩
  · simp at hcs
    obtain ⟨rfl, rfl, rfl⟩ := hcs
    have hzc : zs.length = cap := by simpa using hz
    have hlt : ((zs.take len).map Int.toNat).length = len := by simp; omega
    refine ⟨(zs.take len).map Int.toNat, ⟨⟨some a, cap, by rw [hlt], by simp, fun hn => ?_⟩, ?_⟩, hlt⟩
    · rw [hlt] at hn ⊢
      obtain ⟨ha, hb⟩ := spot_of (hcell 0 (by omega))
      refine ⟨a.block, a.off, by rw [← ha], hb, fun j hj => ?_⟩
      have e : (⟨a.block, a.off + j, none⟩ : Addr) = a.add j := by
        conv => rhs; rw [ha]
        rw [Addr.add_lit]
      have hj' : j < zs.length := by omega
      rw [e, hcell j (by omega)]
      have hw := hwz zs[j] (List.getElem_mem hj')
      have h0 : 0 ≤ zs[j] := by
        simp [Lit.wf, IntKind.min, IntKind.max, IntKind.signed, IntKind.bits] at hw
        exact hw.1
      have hjl : j < len := by omega
      simp [bv, hj', hjl, Int.toNat_of_nonneg h0]
    · intro b hb
      obtain ⟨z, hzm, rfl⟩ := List.mem_map.1 hb
      have hw := hwz z (List.mem_of_mem_take hzm)
      simp [Lit.wf, IntKind.min, IntKind.max, IntKind.signed, IntKind.bits] at hw
      omega

theorem Sl.cells {w : World} {size : Nat} {ad : Addr} {n c : Nat} {xs : List Value} (h : Sl w size (.slice (some ad) n c) n xs) : xs.length = n * size ∧ ∀ j u, xs[j]? = some u → w.cell? (ad.add j) = some u := by
  obtain ⟨A, c', hv, hl, h⟩ := h
  injection hv with hA _ _
  refine ⟨hl, fun j u hj => ?_⟩
  have hj' : j < xs.length := (List.getElem?_eq_some_iff.1 hj).1
  have hn : 0 < n := by
    rcases Nat.eq_zero_or_pos n with rfl | h0
    · simp at hl; subst hl; simp at hj'
    · exact h0
  obtain ⟨b, o, rfl, _, hc⟩ := h hn
  injection hA with hA
  subst hA
  rw [Addr.add_lit]
  exact (hc j (by omega)).trans hj

theorem Sl.nil {w : World} {size : Nat} {n c : Nat} {xs : List Value} (h : Sl w size (.slice none n c) n xs) : n = 0 ∧ xs = [] := by
  obtain ⟨A, c', hv, hl, h⟩ := h
  injection hv with hA _ _
  rcases Nat.eq_zero_or_pos n with rfl | h0
  · exact ⟨rfl, List.eq_nil_of_length_eq_zero (by simpa using hl)⟩
  · obtain ⟨b, o, rfl, _⟩ := h h0
    cases hA

/-- 'append' onto a row of one's own of what a slice value reads as, nil or not. -/
theorem wpList_append_sl {w : World} {ops : Array Oper} {rest : List Oper} {o : Oper} {a : Act} {Q : Exit → Act → World → Prop} (hgd : Region.wanted o (yielded ops a.tmps) = true) (s x : Operand) (t : TypeId)
    (ho : o.op = .call { callee := .builtin .append, args := #[s, x], argTypes := #[t, t] })
    (base : Nat) (e : TypeId) (i : TypeInfo) (z : Value) (size bytes : Nat) (ht : Tryd.prog.underlying t = some (.slice e)) (hi : Tryd.prog.info? e = some i) (hz : i.zero = some z)
    (hsize : i.size = size) (hby : i.bytes = bytes) (hzs : z.cells.size = size) (hsz : 0 < size)
    (v : Value) (n : Nat) (xs : List Value) (hs : a.eval s = v) (hown : w.ownsRow base e size v n xs)
    (A : Option Addr) (m c : Nat) (news : List Value) (hx : a.eval x = .slice A m c) (hr : Sl w size (.slice A m c) m news) (h1 : ∀ u ∈ news, u.oneCell' = true)
    (h63 : n + m ≤ maxLen) (hbytes : (n + m) * bytes ≤ 140737488355328) (hbase : base ≤ w.heap.size)
    (h : ∀ v' w', w'.ownsRow base e size v' (n + m) (xs ++ news) → w.grownBy w' v.ownBlock → wpList Tryd.prog ops Q rest (a.put o.dst v') w') : wpList Tryd.prog ops Q (o :: rest) a w := by
  cases A with
  | some ad =>
    obtain ⟨hl, hc⟩ := hr.cells
    exact wpList_step fun K hK => by
      rw [if_pos hgd]
      exact wp_append_own w s x t ho base e i z size bytes ht hi hz hsize hby hzs hsz v n xs hs hown ad m c news hx hl hc h1 h63 hbytes hbase fun v' w' p q _ => hK _ _ (h v' w' p q)
  | none =>
    obtain ⟨rfl, rfl⟩ := hr.nil
    refine wpList_step fun K hK => ?_
    rw [if_pos hgd]
    have hrun : (Builtin.append_ #[t, t] o.type #[v, .slice none 0 c]).run Tryd.prog w = .ok v w := by
      rcases hown.2 with ⟨rfl, rfl⟩ | ⟨g, cap, cur, rfl, _, _, hnc, _⟩
      · simp [Builtin.append_, run_underlying ht, sizeOf, typeInfo, hi, Builtin.lenOf, Builtin.firstCells]
      · simp [Builtin.append_, run_underlying ht, sizeOf, typeInfo, hi, Builtin.lenOf, Builtin.firstCells, hnc, storeCells]
    unfold Oper.wp
    simp [execOp, ho, resolve, invoke, builtin, hs, hx, hrun, Result.andThen]
    exact hK _ _ (h v w (by simpa using hown) (World.grownBy.refl w _))

theorem bytes_one (l : List Nat) : ∀ u ∈ l.map bv, u.oneCell' = true := by
  intro u hu
  obtain ⟨s, _, rfl⟩ := List.mem_map.1 hu
  rfl
/-- A row of one's own that holds a text. -/
theorem Tx.own {w : World} {base : Nat} {v : Value} {n : Nat} {bs : List Nat} (h : w.ownsRow base 5 1 v n (bs.map bv)) (hn : bs.length = n) (hb : ∀ b ∈ bs, b < 256) (hm : n < 4294967296) : Tx w v bs := by
  subst hn
  exact ⟨Sl.own h, hb, hm⟩
theorem own_form {w : World} {base size n : Nat} {e : TypeId} {v : Value} {xs : List Value} (h : w.ownsRow base e size v n xs) : ∃ A c, v = .slice A n c := by
  rcases h.2 with ⟨rfl, rfl⟩ | ⟨g, cap, _, hv, _⟩
  · exact ⟨_, _, rfl⟩
  · exact ⟨_, _, hv⟩
theorem own_ge {w : World} {base size n k : Nat} {e : TypeId} {v : Value} {xs : List Value} (h : w.ownsRow base e size v n xs) (hk : v.ownBlock = some k) : base ≤ k := by
  rcases h.2 with ⟨rfl, rfl⟩ | ⟨g, cap, _, rfl, hg, _⟩
  · simp [Value.ownBlock] at hk
  · simp [Value.ownBlock] at hk; omega

end Go.Proofs.YtoablohigdkbkaaDoor
