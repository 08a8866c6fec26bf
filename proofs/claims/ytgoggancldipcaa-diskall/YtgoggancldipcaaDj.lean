/-
  Contracts: disk.lasting, disk.kept.
-/
import Derived.Test.YtgoggancldipcaaDi
namespace Go.Proofs.Ytgoggancldipcaa
open Go.RowKit

theorem own_at {w : World} {base : Nat} {e : TypeId} {size : Nat} {A : Option Addr} {n c : Nat} {xs : List Value} (h : w.ownsRow base e size (.slice A n c) n xs) (hn : 0 < n) : ∃ g, A = some ⟨g, 0, none⟩ ∧ base ≤ g ∧ g < w.heap.size := by
  rcases h.2 with ⟨_, h0⟩ | ⟨g, cap, cur, hv, hb, hh, _⟩
  · omega
  · injection hv with hA _ _
    refine ⟨g, hA, hb, ?_⟩
    rcases Nat.lt_or_ge g w.heap.size with hl | hl
    · exact hl
    · rw [Array.getElem?_eq_none hl] at hh; cases hh

theorem take_snoc' {α : Type} (l : List α) (k : Nat) (p : α) (h : l[k]? = some p) : l.take (k + 1) = l.take k ++ [p] := by
  rw [List.take_add_one, h]; rfl

theorem lasting_yes {l : List ByteArray} {ps : List (Int × ByteArray)} {k j : Nat} {s : ByteArray} (hp : ps[k]? = some ((j : Int), s)) (hj : hasB l.length (j : Int) = true) :
    ((M.lasting l (ps.take k)).map Value.string).set j (.string s) = (M.lasting l (ps.take (k + 1))).map Value.string := by
  rw [take_snoc' _ _ _ hp, M.lasting_snoc, M.put, M.lasting_length, if_pos hj, List.map_set]
  rfl

theorem lasting_no {l : List ByteArray} {ps : List (Int × ByteArray)} {k : Nat} {p : Int × ByteArray} (hp : ps[k]? = some p) (hj : hasB l.length p.1 = false) :
    M.lasting l (ps.take k) = M.lasting l (ps.take (k + 1)) := by
  rw [take_snoc' _ _ _ hp, M.lasting_snoc, M.put, M.lasting_length, hj]
  rfl

set_option maxHeartbeats 1000000 in
theorem lasting_any (A : Option Addr) (c : Nat) (A1 : Option Addr) (c1 : Nat) (l : List ByteArray) (ps : List (Int × ByteArray)) (w : World)
    (h0 : Sl w 1 (.slice A l.length c) l.length (l.map Value.string)) (h1 : Sl w 2 (.slice A1 ps.length c1) ps.length (waitCells ps)) (hl : l.length ≤ 65536) (hp : ps.length ≤ 65536) :
    Calls Try.prog 24 #[.slice A l.length c, .slice A1 ps.length c1] w fun e w' => ∃ A' c', e = .returned (.slice A' l.length c') ∧
      w'.ownsRow w.heap.size 9 1 (.slice A' l.length c') l.length ((M.lasting l ps).map Value.string) ∧ Below w.heap.size w w' := by
  go_enter Try.func24, Try.ntmps24
  go_wp2_with fail
  refine (clone_s' A l.length c (l.map Value.string) _ h0 (strs_one l) hl).mono ?_
  rintro e w1 ⟨A', c', rfl, ho1, hb1⟩
  go_wp2
  go_loopw [7, 12] (fun _ i wr => ∃ k : Nat, k ≤ ps.length ∧ i = .int .i64 k ∧ wr.ownsRow w.heap.size 9 1 (.slice A' l.length c') l.length ((M.lasting l (ps.take k)).map Value.string) ∧ Below w.heap.size w wr) (fun _ i _ => ps.length - (intOf i).toNat)
  case atStart => exact ⟨0, Nat.zero_le _, rfl, by simpa [M.lasting] using ho1, hb1⟩
  case round =>
    obtain ⟨k, hk, rfl, hok, hbk⟩ := hrel
    by_cases hlt : k < ps.length
    · obtain ⟨b, o, rfl, hbb, hcl⟩ := h1.at (by omega)
      obtain ⟨p, hpk⟩ : ∃ p, ps[k]? = some p := ⟨_, List.getElem?_eq_getElem hlt⟩
      have hp2 := waitCells_at ps k p hpk
      have hc0 := hcl (k * 2) (by omega)
      have hc1 := hcl (k * 2 + 1) (by omega)
      rw [hp2.1] at hc0
      rw [hp2.2, ← Nat.add_assoc] at hc1
      have hc0' := (hbk.cell (p := ⟨b, o + k * 2, none⟩) hbb).trans hc0
      have hc1' := (hbk.cell (p := ⟨b, o + k * 2 + 1, none⟩) hbb).trans hc1
      have HP := Lib.hid hpk
      clear hc0 hc1 hcl hp2 hpk
      go_wp2_with fail
      refine (has_any _ _ _ _ _).mono ?_
      rintro e w' ⟨rfl, rfl⟩
      cases hh : hasB l.length p.1 with
      | true =>
        obtain ⟨i, s⟩ := p
        have hi : 0 ≤ i ∧ i < l.length := by simpa [hasB] using hh
        obtain ⟨j, rfl⟩ := Int.eq_ofNat_of_zero_le hi.1
        obtain ⟨g, rfl, hg0, hg1⟩ := own_at hok (by omega)
        have hj : j < l.length := by omega
        have hcell := hok.cellAt j (by omega)
        have hfz := hok.frozenAt j
        obtain ⟨x, hx⟩ : ∃ x, ((M.lasting l (ps.take k)).map Value.string)[j]? = some (.string x) := by
          have : j < (M.lasting l (ps.take k)).length := by rw [M.lasting_length]; omega
          exact ⟨(M.lasting l (ps.take k))[j], by simp [this]⟩
        rw [hx] at hcell
        have HS := Lib.hid (lasting_yes HP.out hh)
        have hgs := hok.stored j (.string s)
        have hbn := hbk.setCell (p := ⟨g, j, none⟩) hg0 (.string s)
        have HG := Lib.hid hgs.1
        clear hx hh hgs
        go_wp2
        go_roundw
        case rel =>
          exact ⟨k + 1, by omega, by go_num, by rw [← HS.out]; exact HG.out.alloc _, hbn.alloc (by simp; omega) _⟩
        case measure => simp [intOf]; omega
      | false =>
        have HS := Lib.hid (lasting_no HP.out hh)
        go_wp2
        go_roundw
        case rel =>
          exact ⟨k + 1, by omega, by go_num, by rw [← HS.out]; exact hok.alloc _, hbk.alloc (by have := hbk.size; omega) _⟩
        case measure => simp [intOf]; omega
    · have hkn : k = ps.length := by omega
      subst hkn
      go_wp2
      go_ret
      exact ⟨A', c', rfl, by simpa using hok, hbk⟩

theorem kept_app (ps qs : List (Int × ByteArray)) (ks js : List Bool) (h : ps.length = ks.length) : M.kept (ps ++ qs) (ks ++ js) = M.kept ps ks ++ M.kept qs js := by
  induction ps generalizing ks with
  | nil =>
    cases ks with
    | nil => simp [M.kept]
    | cons _ _ => simp at h
  | cons p ps ih =>
    cases ks with
    | nil => simp at h
    | cons k ks =>
      simp only [List.cons_append, M.kept]
      rw [ih ks (by simpa using h)]
      split <;> simp

theorem kept_nil (ps : List (Int × ByteArray)) : M.kept ps [] = [] := by cases ps <;> rfl

theorem kept_snoc {ps : List (Int × ByteArray)} {ks : List Bool} {k : Nat} {p : Int × ByteArray} {b : Bool} (hp : ps[k]? = some p) (hb : ks[k]? = some b) :
    M.kept (ps.take (k + 1)) (ks.take (k + 1)) = M.kept (ps.take k) (ks.take k) ++ if b then [p] else [] := by
  have h1 : k < ps.length := (List.getElem?_eq_some_iff.1 hp).1
  have h2 : k < ks.length := (List.getElem?_eq_some_iff.1 hb).1
  rw [take_snoc' _ _ _ hp, take_snoc' _ _ _ hb, kept_app _ _ _ _ (by simp; omega)]
  congr 1

theorem kept_all {ps : List (Int × ByteArray)} {ks : List Bool} {n : Nat} (h : n = min ps.length ks.length) : M.kept (ps.take n) (ks.take n) = M.kept ps ks := by
  have e : M.kept ps ks = M.kept (ps.take n ++ ps.drop n) (ks.take n ++ ks.drop n) := by rw [List.take_append_drop, List.take_append_drop]
  rw [e, kept_app _ _ _ _ (by simp; omega)]
  rcases (by omega : n = ps.length ∨ n = ks.length) with h | h
  · subst h; simp [M.kept]
  · have : ks.drop n = [] := by rw [h]; simp
    rw [this, kept_nil]; simp

set_option maxHeartbeats 1000000 in
theorem kept_any (A : Option Addr) (c : Nat) (A1 : Option Addr) (c1 : Nat) (ps : List (Int × ByteArray)) (ks : List Bool) (w : World)
    (h0 : Sl w 2 (.slice A ps.length c) ps.length (waitCells ps)) (h1 : Sl w 1 (.slice A1 ks.length c1) ks.length (ks.map Value.bool)) (hp : ps.length ≤ 65536) (hks : ks.length ≤ 65536) :
    Calls Try.prog 26 #[.slice A ps.length c, .slice A1 ks.length c1] w fun e w' => ∃ A' c', e = .returned (.slice A' (M.kept ps ks).length c') ∧
      w'.ownsRow w.heap.size 56 2 (.slice A' (M.kept ps ks).length c') (M.kept ps ks).length (waitCells (M.kept ps ks)) ∧ Below w.heap.size w w' := by
  obtain ⟨i0, hi, hz0, hz1, hz2⟩ := info_parts Try.info56
  obtain ⟨n, hn⟩ : ∃ n, n = min ps.length ks.length := ⟨_, rfl⟩
  have hmin : ∀ (w : World) (ts : Array TypeId) (t : TypeId), (Builtin.min_ ts t #[.int .i64 (ps.length : Int), .int .i64 (ks.length : Int)]).run Try.prog w = .ok (.int .i64 (n : Int)) w := by
    intro w ts t
    have e : (if ks.length < ps.length then (ks.length : Int) else (ps.length : Int)) = (n : Int) := by split <;> omega
    simp [Builtin.min_, Builtin.min2, e]
  have hn1 : n ≤ ps.length := by omega
  have hn2 : n ≤ ks.length := by omega
  have HN := Lib.hid hn
  clear hn
  go_enter Try.func26, Try.ntmps26
  go_wp2
  clear hmin
  go_loopw [5, 6, 12] (fun v _ i wr => ∃ k : Nat, k ≤ n ∧ i = .int .i64 k ∧ wr.ownsRow w.heap.size 56 2 v (M.kept (ps.take k) (ks.take k)).length (waitCells (M.kept (ps.take k) (ks.take k))) ∧ Below w.heap.size w wr) (fun _ _ i _ => n - (intOf i).toNat)
  case atStart => exact ⟨0, Nat.zero_le _, rfl, by simpa [M.kept, waitCells] using World.ownsRow_nil w w.heap.size 56 2, Below.refl _ _⟩
  case round =>
    obtain ⟨k, hk, rfl, hok, hbk⟩ := hrel
    obtain ⟨A5, c5, rfl⟩ := own_form hok
    by_cases hlt : k < n
    · obtain ⟨b, o, rfl, hbb, hcl⟩ := h0.at (by omega)
      obtain ⟨p, hpk⟩ : ∃ p, ps[k]? = some p := ⟨_, List.getElem?_eq_getElem (by omega)⟩
      obtain ⟨b1, o1, rfl, hbb1, hcl1⟩ := h1.at (by omega)
      obtain ⟨x, hxk⟩ : ∃ x, ks[k]? = some x := ⟨_, List.getElem?_eq_getElem (by omega)⟩
      have hp2 := waitCells_at ps k p hpk
      have hc0 := hcl (k * 2) (by omega)
      have hc1 := hcl (k * 2 + 1) (by omega)
      have hc2 := hcl1 k (by omega)
      rw [hp2.1] at hc0
      rw [hp2.2, ← Nat.add_assoc] at hc1
      rw [List.getElem?_map, hxk, Option.map_some] at hc2
      have hc0' := (hbk.cell (p := ⟨b, o + k * 2, none⟩) hbb).trans hc0
      have hc1' := (hbk.cell (p := ⟨b, o + k * 2 + 1, none⟩) hbb).trans hc1
      have hc2' := (hbk.cell (p := ⟨b1, o1 + k, none⟩) hbb1).trans hc2
      have HS := Lib.hid (kept_snoc hpk hxk)
      have hlk := M.kept_length (ps.take k) (ks.take k)
      have hlt2 := List.length_take_le k ps
      have hkl : (M.kept (ps.take k) (ks.take k)).length ≤ 65536 := by omega
      clear hc0 hc1 hc2 hcl hcl1 hp2 hpk hxk hlk hlt2
      cases x with
      | true =>
        go_wp2_with (at_builtin; refine wpList_append_own _ rfl _ _ 26 rfl w.heap.size 56 i0 (.agg #[.int .i64 0, .string { data := #[] }]) 2 24 Try.underlying26 hi hz0 hz1 hz2 rfl (by decide) _ _ _ rfl (hok.alloc _) ⟨wr.heap.size, 0, none⟩ 1 1 (putCells p) rfl ?qc1 ?qc2 ?qc3 ?qc4 ?qc5 ?qc6 ?_)
        case qc1 => rfl
        case qc2 =>
          intro j u hj
          simpa [putCells] using hj
        case qc3 => intro u hu; simp [putCells] at hu; rcases hu with rfl | rfl <;> rfl
        case qc4 => unfold maxLen; omega
        case qc5 => omega
        case qc6 => have := hbk.size; simp; omega
        intro v' w2 hown hgrow _
        have hbn : Below w.heap.size w w2 := (hbk.alloc hbk.size _).grown hgrow (by have := hbk.size; simp; omega) (fun q hq => (hok.lt q hq).1)
        have hown2 : w2.ownsRow w.heap.size 56 2 v' (M.kept (ps.take (k + 1)) (ks.take (k + 1))).length (waitCells (M.kept (ps.take (k + 1)) (ks.take (k + 1)))) := by
          rw [HS.out]
          simp only [if_true]
          rw [waitCells_append, List.length_append]
          have e : waitCells [p] = putCells p := by simp [waitCells]
          rw [e]
          exact hown
        clear hown hgrow hok hbk
        go_wp2
        go_roundw
        case rel => exact ⟨k + 1, by omega, by go_num, hown2, hbn⟩
        case measure => simp [intOf]; omega
      | false =>
        go_wp2
        go_roundw
        case rel => exact ⟨k + 1, by omega, by go_num, by rw [HS.out]; simpa using hok, hbk⟩
        case measure => simp [intOf]; omega
    · have hkn : k = n := by omega
      subst hkn
      rw [kept_all HN.out] at hok ⊢
      go_wp2
      go_ret
      exact ⟨A5, c5, rfl, hok, hbk⟩

end Go.Proofs.Ytgoggancldipcaa
