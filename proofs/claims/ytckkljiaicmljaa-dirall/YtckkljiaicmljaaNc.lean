/-
  Contracts: name.fits, name.Own, strings.Clone.
-/
import Derived.Test.YtckkljiaicmljaaNa
import Derived.Test.YtckkljiaicmljaaNb
namespace Go.Proofs.Ytckkljiaicmljaa
open Go.RowKit Go.Joins

set_option maxHeartbeats 2000000 in
theorem fits_any (b : UInt8) (w : World) : Calls Try.prog 30 #[.int .u8 (b.toNat : Int)] w fun e w' => e = .returned (.bool (PN.fit b)) ∧ w' = w := by
  have hf : PN.fit b = (decide (33 ≤ b.toNat) && (decide (b.toNat ≤ 126) && !decide (b.toNat = 47))) := rfl
  generalize b.toNat = n at *
  generalize PN.fit b = f at *
  have HF := Lib.hid hf
  clear hf
  by_cases h1 : 33 ≤ n
  · by_cases h2 : n ≤ 126
    · by_cases h3 : n = 47
      · have hr : f = false := by rw [HF.out]; simp [h3]
        subst hr h3
        clear HF
        go_enter Try.func30, Try.ntmps30
        go_wp2
        go_ret
        exact ⟨rfl, rfl⟩
      · have hr : f = true := by rw [HF.out]; simp [h1, h2, h3]
        subst hr
        have h1' : (33 : Int) ≤ (n : Int) := by omega
        have h2' : (n : Int) ≤ 126 := by omega
        clear HF
        go_enter Try.func30, Try.ntmps30
        go_wp2
        go_ret
        refine ⟨?_, rfl⟩
        simp
        exact fun e => h3 (Int.ofNat.inj e)
    · have hr : f = false := by rw [HF.out]; simp [h2]
      subst hr
      have h1' : (33 : Int) ≤ (n : Int) := by omega
      have h2' : ¬ (n : Int) ≤ 126 := by omega
      clear HF
      go_enter Try.func30, Try.ntmps30
      go_wp2
      go_ret
      exact ⟨rfl, rfl⟩
  · have hr : f = false := by rw [HF.out]; simp [h1]
    subst hr
    have h1' : ¬ (33 : Int) ≤ (n : Int) := by omega
    clear HF
    go_enter Try.func30, Try.ntmps30
    go_wp2
    go_ret
    exact ⟨rfl, rfl⟩

theorem ix_data (s : ByteArray) (k : Nat) (h : k < s.size) : ∃ b, s.data.toList[k]? = some b ∧ s[k] = b := by
  have h' : k < s.data.toList.length := by rw [← Lib.size_eq]; exact h
  exact ⟨_, List.getElem?_eq_getElem h', by simp [ByteArray.getElem_eq_getElem_data]⟩

set_option maxHeartbeats 4000000 in
theorem own_any (s : ByteArray) (w : World) : Calls Try.prog 28 #[.string s] w fun e w' => e = .returned (.bool (PN.own s.data.toList)) ∧ w' = w := by
  have hf : PN.own s.data.toList = (decide (1 ≤ s.size) && (decide (s.size ≤ 6) && s.data.toList.all PN.fit)) := by rw [Lib.size_eq]; rfl
  obtain ⟨f, hfe⟩ : ∃ f, PN.own s.data.toList = f := ⟨_, rfl⟩
  rw [hfe] at hf ⊢
  obtain ⟨n, hn⟩ : ∃ n, s.size = n := ⟨_, rfl⟩
  rw [hn] at hf
  have HF := Lib.hid hf
  clear hf hfe
  by_cases h1 : 1 ≤ n
  · by_cases h2 : n ≤ 6
    · have h1' : ¬ (s.size : Int) < 1 := by omega
      have h2' : ¬ (6 : Int) < (s.size : Int) := by omega
      go_enter Try.func28, Try.ntmps28
      go_wp2
      go_loop [14] (fun i => ∃ k : Nat, k ≤ n ∧ i = .int .i64 (k : Int) ∧ (s.data.toList.take k).all PN.fit = true) (fun i => n - (intOf i).toNat)
      case atStart => exact ⟨0, Nat.zero_le _, rfl, rfl⟩
      case round =>
        obtain ⟨k, hk, rfl, ha⟩ := hrel
        by_cases hlt : k < n
        · obtain ⟨b, hb, hb'⟩ := ix_data s k (by omega)
          have hft := fits_any b
          have hnx : (s.data.toList.take (k + 1)).all PN.fit = PN.fit b := by
            rw [List.take_add_one, hb, List.all_append, ha]; simp
          have hno : PN.fit b = false → f = false := fun e => by
            rw [HF.out]
            have : s.data.toList.all PN.fit = false := List.all_eq_false.2 ⟨b, List.mem_of_getElem? hb, by simp [e]⟩
            rw [this]; simp
          have HN := Lib.hid hnx
          have HNO := Lib.hid hno
          clear hb hnx hno ha
          generalize PN.fit b = fb at *
          cases fb with
          | true =>
            go_wp2_with (go_at_call 30; refine (hft _).mono ?_; rintro e w1 ⟨rfl, rfl⟩)
            go_round
            case rel => exact ⟨k + 1, by omega, by go_num, HN.out⟩
            case measure => simp [intOf]; omega
          | false =>
            go_wp2_with (go_at_call 30; refine (hft _).mono ?_; rintro e w1 ⟨rfl, rfl⟩)
            go_ret
            rw [HNO.out (by trivial)]
            exact ⟨rfl, rfl⟩
        · have hkn : k = n := by omega
          subst hkn
          have hr : f = true := by
            rw [HF.out]
            rw [List.take_of_length_le (by rw [← Lib.size_eq]; omega)] at ha
            simp [h1, h2, ha]
          subst hr
          clear HF ha
          go_wp2
          go_ret
          exact ⟨rfl, rfl⟩
    · have hr : f = false := by rw [HF.out]; simp [h2]
      subst hr
      have h1' : ¬ (s.size : Int) < 1 := by omega
      have h2' : (6 : Int) < (s.size : Int) := by omega
      clear HF
      go_enter Try.func28, Try.ntmps28
      go_wp2
      go_ret
      exact ⟨rfl, rfl⟩
  · have hr : f = false := by rw [HF.out]; simp [h1]
    subst hr
    have h1' : (s.size : Int) < 1 := by omega
    clear HF
    go_enter Try.func28, Try.ntmps28
    go_wp2
    go_ret
    exact ⟨rfl, rfl⟩

theorem clone_any (s : ByteArray) (w : World) (hs : s.size ≤ 1048576) : Calls Try.prog 27 #[.string s] w fun e w' => e = .returned (.string s) ∧ Below w.heap.size w w' := by
  have hc := Try.stringslite_Clone s w (by omega)
  go_enter Try.func27, Try.ntmps27
  go_wp2_with (go_at_call 29; refine hc.mono ?_; rintro e w1 ⟨rfl, hB⟩)
  go_ret
  exact ⟨rfl, hB⟩
end Go.Proofs.Ytckkljiaicmljaa
