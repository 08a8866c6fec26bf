/-
  Contracts: the document's Own, May.
-/
import Derived.Test.YthghlpencjjjlaaDoorNk
namespace Go.Proofs.YthghlpencjjjlaaDoor
open Go.RowKit Go.Joins

theorem fit_cases (b : UInt8) : (b.toNat < 33 ∧ PN.fit b = false) ∨ (¬ b.toNat < 33 ∧ 126 < b.toNat ∧ PN.fit b = false) ∨ (¬ b.toNat < 33 ∧ ¬ 126 < b.toNat ∧ b.toNat = 47 ∧ PN.fit b = false) ∨ (¬ b.toNat < 33 ∧ ¬ 126 < b.toNat ∧ b.toNat ≠ 47 ∧ PN.fit b = true) := by
  unfold PN.fit
  by_cases h1 : 33 ≤ b.toNat
  · by_cases h2 : b.toNat ≤ 126
    · by_cases h3 : b.toNat = 47
      · exact .inr (.inr (.inl ⟨by omega, by omega, h3, by simp [h3]⟩))
      · exact .inr (.inr (.inr ⟨by omega, by omega, h3, by simp [h1, h2, h3]⟩))
    · exact .inr (.inl ⟨by omega, by omega, by simp [h2]⟩)
  · exact .inl ⟨by omega, by simp [h1]⟩

set_option maxHeartbeats 4000000 in
theorem rown_any (s : ByteArray) (w : World) (hsz : s.size ≤ 65535) : Calls Tryd.prog 16 #[.string s] w fun e w' => e = .returned (.bool (PN.own s.data.toList)) ∧ w' = w := by
  have hf : PN.own s.data.toList = (decide (1 ≤ s.size) && (decide (s.size ≤ 6) && s.data.toList.all PN.fit)) := by rw [Lib.size_eq]; rfl
  obtain ⟨f, hfe⟩ : ∃ f, PN.own s.data.toList = f := ⟨_, rfl⟩
  rw [hfe] at hf ⊢
  obtain ⟨n, hn⟩ : ∃ n, s.size = n := ⟨_, rfl⟩
  rw [hn] at hf hsz
  have HF := Lib.hid hf
  clear hf hfe
  go_enter Tryd.func16, Tryd.ntmps16
  go_wp2
  go_loop [3] (fun i => ∃ k : Nat, k ≤ n ∧ i = .int .i64 (k : Int) ∧ (s.data.toList.take k).all PN.fit = true) (fun i => n - (intOf i).toNat)
  case atStart => exact ⟨0, Nat.zero_le _, rfl, rfl⟩
  case round =>
    obtain ⟨k, hk, rfl, ha⟩ := hrel
    by_cases hlt : k < n
    · obtain ⟨b, hb, hb'⟩ := ix_data s k (by omega)
      have hnx : (s.data.toList.take (k + 1)).all PN.fit = PN.fit b := by
        rw [List.take_add_one, hb, List.all_append, ha]; simp
      have hno : PN.fit b = false → f = false := fun e => by
        rw [HF.out]
        have : s.data.toList.all PN.fit = false := List.all_eq_false.2 ⟨b, List.mem_of_getElem? hb, by simp [e]⟩
        rw [this]; simp
      have HN := Lib.hid hnx
      have HNO := Lib.hid hno
      clear hb hnx hno ha
      rcases fit_cases b with ⟨h1, e⟩ | ⟨h1, h2, e⟩ | ⟨h1, h2, h3, e⟩ | ⟨h1, h2, h3, e⟩
      · have H0 := Lib.hid (HNO.out e)
        clear HNO HN e
        have h1' : (b.toNat : Int) < 33 := by omega
        go_wp2
        go_ret
        rw [H0.out]
        exact ⟨rfl, rfl⟩
      · have H0 := Lib.hid (HNO.out e)
        clear HNO HN e
        have h1' : ¬ (b.toNat : Int) < 33 := by omega
        have h2' : (126 : Int) < (b.toNat : Int) := by omega
        go_wp2
        go_ret
        rw [H0.out]
        exact ⟨rfl, rfl⟩
      · have H0 := Lib.hid (HNO.out e)
        clear HNO HN e
        have h1' : ¬ (b.toNat : Int) < 33 := by omega
        have h2' : ¬ (126 : Int) < (b.toNat : Int) := by omega
        have h3' : (b.toNat : Int) = 47 := by omega
        go_wp2
        go_ret
        rw [H0.out]
        exact ⟨rfl, rfl⟩
      · have h1' : ¬ (b.toNat : Int) < 33 := by omega
        have h2' : ¬ (126 : Int) < (b.toNat : Int) := by omega
        have h3' : ¬ (b.toNat : Int) = 47 := by omega
        have HA := Lib.hid (HN.out.trans e)
        clear HNO HN e
        go_wp2
        go_round
        case rel => exact ⟨k + 1, by omega, by go_num, HA.out⟩
        case measure => simp [intOf]; omega
    · have hkn : k = n := by omega
      subst hkn
      have hall : s.data.toList.all PN.fit = true := by
        rwa [List.take_of_length_le (by rw [← Lib.size_eq]; omega)] at ha
      have hfe := HF.out
      rw [hall] at hfe
      clear HF ha hall
      by_cases h1 : 1 ≤ k
      · by_cases h2 : k ≤ 6
        · have h1' : (1 : Int) ≤ (k : Int) := by omega
          have h2' : (k : Int) ≤ 6 := by omega
          have hr : f = true := by rw [hfe]; simp [h1, h2]
          subst hr
          clear hfe
          go_wp2
          go_ret
          exact ⟨rfl, rfl⟩
        · have h1' : (1 : Int) ≤ (k : Int) := by omega
          have h2' : ¬ (k : Int) ≤ 6 := by omega
          have hr : f = false := by rw [hfe]; simp [h2]
          subst hr
          clear hfe
          go_wp2
          go_ret
          exact ⟨rfl, rfl⟩
      · have h1' : ¬ (1 : Int) ≤ (k : Int) := by omega
        have hr : f = false := by rw [hfe]; simp [h1]
        subst hr
        clear hfe
        go_wp2
        go_ret
        exact ⟨rfl, rfl⟩

set_option maxHeartbeats 4000000 in
theorem rmay_any (s : ByteArray) (w : World) (hsz : s.size ≤ 65535) : Calls Tryd.prog 14 #[.string s] w fun e w' => e = .returned (.bool (PN.may s.data.toList)) ∧ w' = w := by
  have hf : PN.may s.data.toList = (PN.own s.data.toList && !Lib.hasPrefix s.data.toList [126]) := rfl
  rw [hf]
  have ho := rown_any s w hsz
  cases hw : PN.own s.data.toList with
  | false =>
    rw [hw] at ho
    clear hf hw
    go_enter Tryd.func14, Tryd.ntmps14
    go_wp2_with fail
    refine ho.mono ?_
    rintro e w1 ⟨rfl, hw1⟩
    rw [hw1]
    clear hw1
    go_wp2
    go_ret
    exact ⟨by simp, rfl⟩
  | true =>
    rw [hw] at ho
    have h1 := (PN.own_pos hw).1
    rw [← Lib.size_eq] at h1
    obtain ⟨b, hb, hb'⟩ := ix_data s 0 (by omega)
    have hpf : Lib.hasPrefix s.data.toList [126] = decide (b.toNat = 126) := by
      cases hd : s.data.toList with
      | nil => rw [hd] at hb; simp at hb
      | cons y r =>
        rw [hd] at hb
        simp at hb
        subst hb
        by_cases e : y.toNat = 126
        · have : y = 126 := UInt8.toNat_inj.1 e
          subst this
          simp [Lib.hasPrefix, List.isPrefixOf]
        · have : y ≠ 126 := fun h => e (by rw [h]; rfl)
          rw [decide_eq_false e]
          simp [Lib.hasPrefix, List.isPrefixOf]
          exact fun h => this h.symm
    rw [hpf]
    clear hf hw hb hpf
    by_cases hq : b.toNat = 126
    · have e' : (b.toNat : Int) = 126 := by omega
      go_enter Tryd.func14, Tryd.ntmps14
      go_wp2_with fail
      refine ho.mono ?_
      rintro e w1 ⟨rfl, hw1⟩
      rw [hw1]
      clear hw1
      go_wp2
      go_ret
      exact ⟨by simp [hq], rfl⟩
    · have e' : ¬ (b.toNat : Int) = 126 := by omega
      go_enter Tryd.func14, Tryd.ntmps14
      go_wp2_with fail
      refine ho.mono ?_
      rintro e w1 ⟨rfl, hw1⟩
      rw [hw1]
      clear hw1
      go_wp2
      go_ret
      exact ⟨by simp [hq, e'], rfl⟩
end Go.Proofs.YthghlpencjjjlaaDoor
