/-
  Contracts: name.all, strings.Clone, name.copied, name.Path.
-/
import Derived.Test.YthghlpencjjjlaaDoorNc
namespace Go.Proofs.YthghlpencjjjlaaDoor
open Go.RowKit Go.Joins

/-- A row of strings at a place. -/
theorem Ss.at {w : World} {A : Option Addr} {n c : Nat} {ss : List ByteArray} (h : Ss w (.slice A n c) ss) (h0 : 0 < ss.length) : ∃ b o, A = some ⟨b, o, none⟩ ∧ b < w.heap.size ∧ ∀ j x, ss[j]? = some x → w.cell? ⟨b, o + j, none⟩ = some (.string x) := by
  obtain ⟨A', c', hv, hl, hA⟩ := h.1
  injection hv with e1 e2 e3
  subst e1
  obtain ⟨b, o, e, hb, hc⟩ := hA h0
  refine ⟨b, o, e, hb, fun j x hj => ?_⟩
  have hlt : j < ss.length := (List.getElem?_eq_some_iff.1 hj).1
  rw [hc j (by omega), List.getElem?_map, hj, Option.map_some]

set_option maxHeartbeats 4000000 in
theorem all_any (o : Bool) (v : Value) (ss : List ByteArray) (w : World) (h : Ss w v ss) : Calls Tryd.prog 21 #[.bool o, v] w fun e w' => e = .returned (.bool (ss.all fun x => PN.ok o x.data.toList)) ∧ w' = w := by
  obtain ⟨A, c, rfl⟩ := h.form
  have hl := h.2.2
  obtain ⟨f, hf⟩ : ∃ f, (ss.all fun x => PN.ok o x.data.toList) = f := ⟨_, rfl⟩
  rw [hf]
  generalize hL : ss.length = L at *
  have HF := Lib.hid hf
  have HS := Lib.hid h
  have HL := Lib.hid hL
  clear hf h hL
  go_enter Tryd.func21, Tryd.ntmps21
  go_wp2
  go_loop [9] (fun i => ∃ k : Nat, k ≤ L ∧ i = .int .i64 (k : Int) ∧ ((ss.take k).all fun x => PN.ok o x.data.toList) = true) (fun i => L - (intOf i).toNat)
  case atStart => exact ⟨0, Nat.zero_le _, rfl, rfl⟩
  case round =>
    obtain ⟨k, hk, rfl, ha⟩ := hrel
    by_cases hlt : k < L
    · obtain ⟨b0, o0, rfl, _, hcell⟩ := HS.out.at (by rw [HL.out]; omega)
      obtain ⟨x, hx⟩ : ∃ x, ss[k]? = some x := ⟨_, List.getElem?_eq_getElem (by rw [HL.out]; omega)⟩
      have hg := hcell k x hx
      have ho := own_any x
      have hm := may_any x
      have hnx : ((ss.take (k + 1)).all fun x => PN.ok o x.data.toList) = PN.ok o x.data.toList := by
        rw [List.take_add_one, hx, List.all_append, ha]; simp
      have hno : PN.ok o x.data.toList = false → f = false := fun e => by
        rw [← HF.out]
        exact List.all_eq_false.2 ⟨x, List.mem_of_getElem? hx, by simp [e]⟩
      have HN := Lib.hid hnx
      have HNO := Lib.hid hno
      clear hcell hx hnx hno ha
      cases o with
      | true =>
        have e1 : PN.ok true x.data.toList = PN.own x.data.toList := rfl
        rw [e1] at HN HNO
        clear e1
        generalize PN.own x.data.toList = fb at *
        cases fb with
        | true =>
          go_wp2_with (first | (go_at_call 15; refine (ho _).mono ?_; rintro e w1 ⟨rfl, rfl⟩) | (go_at_call 13; refine (hm _).mono ?_; rintro e w1 ⟨rfl, rfl⟩))
          go_round
          case rel => exact ⟨k + 1, by omega, by go_num, HN.out⟩
          case measure => simp [intOf]; omega
        | false =>
          go_wp2_with (first | (go_at_call 15; refine (ho _).mono ?_; rintro e w1 ⟨rfl, rfl⟩) | (go_at_call 13; refine (hm _).mono ?_; rintro e w1 ⟨rfl, rfl⟩))
          go_ret
          rw [HNO.out (by trivial)]
          exact ⟨rfl, rfl⟩
      | false =>
        have e1 : PN.ok false x.data.toList = PN.may x.data.toList := rfl
        rw [e1] at HN HNO
        clear e1
        generalize PN.may x.data.toList = fb at *
        cases fb with
        | true =>
          go_wp2_with (first | (go_at_call 15; refine (ho _).mono ?_; rintro e w1 ⟨rfl, rfl⟩) | (go_at_call 13; refine (hm _).mono ?_; rintro e w1 ⟨rfl, rfl⟩))
          go_round
          case rel => exact ⟨k + 1, by omega, by go_num, HN.out⟩
          case measure => simp [intOf]; omega
        | false =>
          go_wp2_with (first | (go_at_call 15; refine (ho _).mono ?_; rintro e w1 ⟨rfl, rfl⟩) | (go_at_call 13; refine (hm _).mono ?_; rintro e w1 ⟨rfl, rfl⟩))
          go_ret
          rw [HNO.out (by trivial)]
          exact ⟨rfl, rfl⟩
    · have hkn : k = L := by omega
      subst hkn
      have hr : f = true := by
        rw [← HF.out]
        rwa [List.take_of_length_le (by rw [HL.out]; exact Nat.le_refl _)] at ha
      subst hr
      clear HF ha HS HL
      go_wp2
      go_ret
      exact ⟨rfl, rfl⟩

theorem clone_any (s : ByteArray) (w : World) (hs : s.size ≤ 1048576) : Calls Tryd.prog 28 #[.string s] w fun e w' => e = .returned (.string s) ∧ Below w.heap.size w w' := by
  have hc := Tryd.stringslite_Clone s w (by omega)
  go_enter Tryd.func28, Tryd.ntmps28
  go_wp2_with (go_at_call 36; refine hc.mono ?_; rintro e w1 ⟨rfl, hB⟩)
  go_ret
  exact ⟨rfl, hB⟩
end Go.Proofs.YthghlpencjjjlaaDoor
