/-
  An entry put behind a row of one's own. Contracts: the document's FindDir, SameEntries.
-/
import Derived.Test.YtckkljiaicmljaaQi
namespace Go.Proofs.Ytckkljiaicmljaa
open Go.RowKit Go.Joins

/-- One entry behind a row of one's own that has grown since w0. -/
theorem append_e {w0 w : World} {ops : Array Oper} {rest : List Oper} {o : Oper} {a : Act} {Q : Exit → Act → World → Prop} (hgd : Region.wanted o (yielded ops a.tmps) = true) (s x : Operand)
    (ho : o.op = .call { callee := .builtin .append, args := #[s, x], argTypes := #[23, 23] })
    (v : Value) (l : List E) (hs : a.eval s = v) (hown : Eo w w0.heap.size v l) (hb : Below w0.heap.size w0 w) (hl : l.length ≤ 65536)
    (e : E) (A : Option Addr) (c : Nat) (hx : a.eval x = .slice A 1 c) (hr : Sl w 2 (.slice A 1 c) 1 [.string e.1, .int .i64 e.2])
    (h : ∀ v' w', Eo w' w0.heap.size v' (l ++ [e]) → Below w0.heap.size w0 w' → wpList Try.prog ops Q rest (a.put o.dst v') w') : wpList Try.prog ops Q (o :: rest) a w := by
  obtain ⟨i0, hi, hz0, hz1, hz2⟩ := info_parts Try.info26
  refine wpList_append_sl hgd s x 23 ho w0.heap.size 26 i0 (.agg #[.string { data := #[] }, .int .i64 0]) 2 24 Try.underlying23 hi hz0 hz1 hz2 rfl (by decide) v l.length (cs l) hs hown A 1 c [.string e.1, .int .i64 e.2] hx hr ?_ ?_ ?_ hb.size ?_
  · intro u hu
    simp at hu
    rcases hu with rfl | rfl <;> rfl
  · unfold maxLen; omega
  · omega
  · intro v' w' hown' hgrow
    exact h v' w' (Eo.more hown' rfl rfl rfl) (hb.grown hgrow hb.size fun k hk => own_ge hown hk)

namespace PD
theorem has_find (l : List E) (n : ByteArray) : has l n = (l.find? fun e => decide (e.1 = n)).isSome := by
  induction l with
  | nil => rfl
  | cons x r ih =>
    by_cases h : x.1 = n
    · simp [has, h]
    · simp [has, h] at ih ⊢
      exact ih
theorem find_yes {l : List E} {n : ByteArray} {k : Nat} {e : E} (h : ∀ x ∈ l.take k, ¬ x.1 = n) (hk : l[k]? = some e) (he : e.1 = n) : has l n = true ∧ rfind l n = e.2 := by
  have hf : l.find? (fun e => decide (e.1 = n)) = some e := by
    obtain ⟨hlt, rfl⟩ := List.getElem?_eq_some_iff.1 hk
    have h0 : (l.take k).find? (fun e => decide (e.1 = n)) = none := by
      rw [List.find?_eq_none]
      intro x hx
      simpa using h x hx
    conv => lhs; rw [← List.take_append_drop k l]
    rw [List.find?_append, h0, List.drop_eq_getElem_cons hlt, List.find?_cons]
    simp [he]
  exact ⟨by rw [has_find, hf]; rfl, by rw [rfind, hf]⟩
theorem find_no {l : List E} {n : ByteArray} (h : ∀ x ∈ l, ¬ x.1 = n) : has l n = false ∧ rfind l n = 0 := by
  have hf : l.find? (fun e => decide (e.1 = n)) = none := by
    rw [List.find?_eq_none]
    intro x hx
    simpa using h x hx
  exact ⟨by rw [has_find, hf]; rfl, by rw [rfind, hf]⟩
end PD

set_option maxHeartbeats 4000000 in
theorem rfind_any (v : Value) (l : List E) (n : ByteArray) (w : World) (h : Es w v l) : Calls Try.prog 15 #[v, .string n] w fun e w' => e = .returned (.tuple #[.int .i64 (PD.rfind l n), .bool (PD.has l n)]) ∧ w' = w := by
  obtain ⟨A, c, rfl⟩ := h.form
  have hl := h.2.2
  obtain ⟨f, hf⟩ : ∃ f, PD.rfind l n = f := ⟨_, rfl⟩
  obtain ⟨b, hb⟩ : ∃ b, PD.has l n = b := ⟨_, rfl⟩
  rw [hf, hb]
  generalize hL : l.length = L at *
  have HF := Lib.hid hf
  have HB := Lib.hid hb
  have HS := Lib.hid h
  have HL := Lib.hid hL
  clear hf h hL hb
  go_enter Try.func15, Try.ntmps15
  go_wp2
  go_loop [6] (fun i => ∃ k : Nat, k ≤ L ∧ i = .int .i64 (k : Int) ∧ ∀ x ∈ l.take k, ¬ x.1 = n) (fun i => L - (intOf i).toNat)
  case atStart => exact ⟨0, Nat.zero_le _, rfl, fun e he => by simp at he⟩
  case round =>
    obtain ⟨k, hk, rfl, hno⟩ := hrel
    by_cases hlt : k < L
    · obtain ⟨b0, o0, rfl, hb0, hcell⟩ := HS.out.at (by rw [HL.out]; omega)
      obtain ⟨x, hx⟩ : ∃ x, l[k]? = some x := ⟨_, List.getElem?_eq_getElem (by rw [HL.out]; omega)⟩
      obtain ⟨g0, g1⟩ := hcell k x hx
      by_cases he : x.1 = n
      · obtain ⟨e1, e2⟩ := PD.find_yes hno hx he
        rw [HB.out] at e1
        rw [HF.out] at e2
        obtain ⟨s, z⟩ := x
        dsimp only at g0 g1 e2 he
        subst e1 e2 he
        have hq := seq_yes s
        clear hcell hx hno HF HB HS HL hb0
        go_wp2
        go_ret2
        exact ⟨rfl, rfl⟩
      · have hnx : ∀ y ∈ l.take (k + 1), ¬ y.1 = n := by
          intro y hy
          rw [List.take_add_one, hx] at hy
          simp at hy
          rcases hy with hy | rfl
          · exact hno y hy
          · exact he
        have HN := Lib.hid hnx
        obtain ⟨s, z⟩ := x
        dsimp only at g0 g1 he
        have hq := seq_no he
        clear hcell hx hno hnx hb0 he
        go_wp2
        go_round
        case rel => exact ⟨k + 1, by omega, by go_num, HN.out⟩
        case measure => simp [intOf]; omega
    · have hkn : k = L := by omega
      subst hkn
      rw [List.take_of_length_le (by rw [HL.out]; exact Nat.le_refl _)] at hno
      obtain ⟨e1, e2⟩ := PD.find_no hno
      rw [HB.out] at e1
      rw [HF.out] at e2
      subst e1 e2
      clear hno HF HB HS HL
      go_wp2
      go_ret2
      exact ⟨rfl, rfl⟩

set_option maxHeartbeats 4000000 in
theorem same_any (v u : Value) (l : List E) (w : World) (h : Es w v l) (h' : Es w u l) : Calls Try.prog 13 #[v, u] w fun e w' => e = .returned (.bool true) ∧ Below w.heap.size w w' := by
  obtain ⟨A, c, rfl⟩ := h.form
  obtain ⟨A', c', rfl⟩ := h'.form
  have hl := h.2.2
  generalize hL : l.length = L at *
  have HS := Lib.hid h
  have HS' := Lib.hid h'
  have HL := Lib.hid hL
  clear h hL h'
  go_enter Try.func13, Try.ntmps13
  go_wp2
  go_loopw [5] (fun i wr => ∃ k : Nat, k ≤ L ∧ i = .int .i64 (k : Int) ∧ Below w.heap.size w wr) (fun i _ => L - (intOf i).toNat)
  case atStart => exact ⟨0, Nat.zero_le _, rfl, Below.refl _ _⟩
  case round =>
    obtain ⟨k, hk, rfl, hB⟩ := hrel
    by_cases hlt : k < L
    · obtain ⟨b0, o0, rfl, hb0, hcell⟩ := (HS.out.below hB).at (by rw [HL.out]; omega)
      obtain ⟨b1, o1, rfl, hb1, hcell'⟩ := (HS'.out.below hB).at (by rw [HL.out]; omega)
      obtain ⟨x, hx⟩ : ∃ x, l[k]? = some x := ⟨_, List.getElem?_eq_getElem (by rw [HL.out]; omega)⟩
      obtain ⟨g0, g1⟩ := hcell k x hx
      obtain ⟨g2, g3⟩ := hcell' k x hx
      obtain ⟨s, z⟩ := x
      dsimp only at g0 g1 g2 g3
      have hq := seq_yes s
      clear hcell hcell' hx hb0 hb1
      go_wp2_with fail
      go_quiet (fail)
      go_wp2
      go_roundw
      case rel => exact ⟨k + 1, by omega, by go_num, drewN_below hB _⟩
      case measure => simp [intOf]; omega
    · clear HS HS' HL
      go_wp2
      go_ret
      exact ⟨rfl, hB⟩
end Go.Proofs.Ytckkljiaicmljaa
