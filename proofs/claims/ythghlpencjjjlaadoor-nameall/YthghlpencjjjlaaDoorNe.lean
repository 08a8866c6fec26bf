/-
  Contracts: name.copied, name.Path.
-/
import Derived.Test.YthghlpencjjjlaaDoorNd
namespace Go.Proofs.YthghlpencjjjlaaDoor
open Go.RowKit Go.Joins

set_option maxHeartbeats 4000000 in
theorem copied_any (v : Value) (ss : List ByteArray) (w : World) (h : Ss w v ss) : Calls Tryd.prog 22 #[v] w fun e w' => ∃ v', e = .returned v' ∧ Ro w' w.heap.size v' ss ∧ Below w.heap.size w w' := by
  obtain ⟨i0, hi, hz0, hz1, hz2⟩ := info_parts Tryd.info9
  obtain ⟨A, c, rfl⟩ := h.form
  have hl := h.2.2
  have hsz := h.2.1
  generalize hL : ss.length = L at *
  have HS := Lib.hid h
  have HL := Lib.hid hL
  have HZ := Lib.hid hsz
  clear h hL hsz
  go_enter Tryd.func22, Tryd.ntmps22
  go_wp2
  go_loopw [3, 8] (fun o i wr => ∃ k : Nat, k ≤ L ∧ i = .int .i64 (k : Int) ∧ Ro wr w.heap.size o (ss.take k) ∧ Below w.heap.size w wr) (fun _ i _ => L - (intOf i).toNat)
  case atStart => exact ⟨0, Nat.zero_le _, rfl, World.ownsRow_nil _ _ _ _, Below.refl _ _⟩
  case round =>
    obtain ⟨k, hk, rfl, hO, hB⟩ := hrel
    by_cases hlt : k < L
    · have hS := HS.out.below hB
      obtain ⟨b0, o0, rfl, _, hcell⟩ := hS.at (by rw [HL.out]; omega)
      obtain ⟨x, hx⟩ : ∃ x, ss[k]? = some x := ⟨_, List.getElem?_eq_getElem (by rw [HL.out]; omega)⟩
      have hg := hcell k x hx
      have hcl := clone_any x wr (HZ.out x (List.mem_of_getElem? hx))
      have hnx : ss.take (k + 1) = ss.take k ++ [x] := by rw [List.take_add_one, hx]; rfl
      have hkl : (ss.take k).length = k := by rw [List.length_take, HL.out]; omega
      have HN := Lib.hid hnx
      have HKL := Lib.hid hkl
      have HO := Lib.hid hO
      clear hcell hx hnx hkl hO hS
      go_wp2_with fail
      refine hcl.mono ?_
      rintro e w1 ⟨rfl, hB1⟩
      have hb1 := hB.trans (hB1.mono hB.size)
      have hO1 := HO.out.on hB1
      have zW := hb1.size
      obtain ⟨Ao, co, rfl⟩ := own_form hO1
      have hO2 := hO1
      unfold Ro at hO2
      rw [HKL.out] at hO2 ⊢
      generalize hXS : (ss.take k).map Value.string = XS at hO2
      have HXS := Lib.hid hXS
      have hkb : k ≤ 65536 := by omega
      clear hXS hO1 HO hcl hg hB1
      go_wp2_with (at_builtin; refine wpList_append_sl rfl _ _ 27 rfl w.heap.size 9 i0 (.string { data := #[] }) 1 16 Tryd.underlying27 hi hz0 hz1 hz2 rfl (by decide) _ _ _ rfl (hO2.alloc _) _ 1 1 _ rfl (Sl.new w1 _ 9 _ 1 1 _ rfl rfl) ?q1 ?q2 ?q3 ?q4 ?_)
      case q1 => first | rfl | (intro u hu; simp at hu; subst hu; rfl)
      case q2 => unfold maxLen; omega
      case q3 => omega
      case q4 => first | omega | (simp; omega)
      intro v' w2 hown hgrow
      have hb2 : Below w.heap.size w w2 := (hb1.alloc zW _).grown hgrow (by simp; omega) (fun k hk => own_ge hO2 hk)
      have hown' : Ro w2 w.heap.size v' (ss.take (k + 1)) := by
        rw [HN.out]
        unfold Ro
        rw [List.length_append, HKL.out, List.map_append, HXS.out]
        exact hown
      have HW := Lib.hid hown'
      clear hown hown' hgrow hO2
      go_wp2
      go_roundw
      case rel => exact ⟨k + 1, by omega, by go_num, HW.out, hb2⟩
      case measure => simp [intOf]; omega
    · have hkn : k = L := by omega
      subst hkn
      rw [List.take_of_length_le (by rw [HL.out]; exact Nat.le_refl _)] at hO
      have HO := Lib.hid hO
      clear hO HS HZ HL
      go_wp2
      go_ret
      exact ⟨_, rfl, HO.out, hB⟩

theorem join_le (ss : List ByteArray) (hz : ∀ s ∈ ss, s.size ≤ 1048576) (hl : ss.length ≤ 65536) : (Lib.join (ss.map (·.data.toList)) [47]).length ≤ 140737488355328 := by
  cases ss with
  | nil => simp [Lib.join]
  | cons x r =>
    rw [List.map_cons, Lib.join_length]
    have hs : ∀ l : List ByteArray, (∀ s ∈ l, s.size ≤ 1048576) → Lib.lens (l.map (·.data.toList)) ≤ l.length * 1048576 := by
      intro l
      induction l with
      | nil => intro _; simp [Lib.lens]
      | cons y t ih =>
        intro h
        have h1 := h y (by simp)
        have h2 := ih fun s hs => h s (by simp [hs])
        rw [Lib.size_eq] at h1
        simp only [Lib.lens, List.map_cons, List.sum_cons, List.length_cons] at h2 ⊢
        omega
    have := hs (x :: r) hz
    simp only [List.map_cons, List.length_cons, List.length_map, List.length_nil] at this hl ⊢
    omega

theorem add_mk (l : List UInt8) : ({ data := #[47] } : ByteArray) ++ PN.mk l = PN.mk (47 :: l) := by
  apply ByteArray.ext
  simp [PN.mk, ByteArray.data_append]

set_option maxHeartbeats 2000000 in
theorem path_any (v : Value) (ss : List ByteArray) (w : World) (h : Ss w v ss) (hcp : ∀ A n c, v = .slice A n c → n ≤ c) : Calls Tryd.prog 17 #[v] w fun e w' => e = .returned (.string (PN.path ss)) ∧ Below w.heap.size w w' := by
  obtain ⟨A, c, rfl⟩ := h.form
  have hnc := hcp _ _ _ rfl
  have hj : Calls Tryd.prog 25 #[.slice A ss.length c, .string { data := #[47] }] w fun e w' => e = .returned (.string (PN.mk (Lib.join (ss.map (·.data.toList)) [47]))) ∧ Below w.heap.size w w' := by
    rcases Nat.eq_zero_or_pos ss.length with h0 | h0
    · have : ss = [] := List.eq_nil_of_length_eq_zero h0
      subst this
      refine (Tryd.strings_Join_none A c _ w).mono ?_
      rintro e w' ⟨rfl, rfl⟩
      exact ⟨rfl, Below.refl _ _⟩
    · obtain ⟨b, o, rfl, hb, hc⟩ := h.at h0
      exact Tryd.strings_Join b o c ss { data := #[47] } w hc hb (by have := h.2.2; omega) hnc (join_le ss h.2.1 h.2.2)
  have hp : PN.path ss = ({ data := #[47] } : ByteArray) ++ PN.mk (Lib.join (ss.map (·.data.toList)) [47]) := (add_mk _).symm
  rw [hp]
  have hJ : ¬ 9223372036854775807 < 1 + (PN.mk (Lib.join (ss.map (·.data.toList)) [47])).size := by
    have := join_le ss h.2.1 h.2.2
    rw [Lib.size_eq, PN.mk_data]; omega
  generalize PN.mk (Lib.join (ss.map (·.data.toList)) [47]) = J at *
  clear h hcp hp hnc
  go_enter Tryd.func17, Tryd.ntmps17
  go_wp2_with (go_at_call 25; refine hj.mono ?_; rintro e w1 ⟨rfl, hB⟩)
  go_ret
  exact ⟨rfl, hB⟩
end Go.Proofs.YthghlpencjjjlaaDoor
