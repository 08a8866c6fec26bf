/-
  Contracts: the document's Own, Less.
-/
import Derived.Test.YtckkljiaicmljaaQn
namespace Go.Proofs.Ytckkljiaicmljaa
open Go.RowKit Go.Joins

theorem fit_cases (b : UInt8) : (b.toNat < 33 ∧ PN.fit b = false) ∨ (¬ b.toNat < 33 ∧ 126 < b.toNat ∧ PN.fit b = false) ∨ (¬ b.toNat < 33 ∧ ¬ 126 < b.toNat ∧ b.toNat = 47 ∧ PN.fit b = false) ∨ (¬ b.toNat < 33 ∧ ¬ 126 < b.toNat ∧ b.toNat ≠ 47 ∧ PN.fit b = true) := by
  unfold PN.fit
  by_cases h1 : 33 ≤ b.toNat
  · by_cases h2 : b.toNat ≤ 126
    · by_cases h3 : b.toNat = 47
      · exact .inr (.inr (.inl ⟨by omega, by omega, h3, by simp [h3]⟩))
      · exact .inr (.inr (.inr ⟨by omega, by omega, h3, by simp [h1, h2, h3]⟩))
    · exact .inr (.inl ⟨by omega, by omega, by simp [h2]⟩)
  · exact .inl ⟨by omega, by simp [h1]⟩

set_option maxHeartbeats 4000000 in
theorem rown_any (s : ByteArray) (w : World) (hsz : s.size ≤ 1048576) : Calls Try.prog 22 #[.string s] w fun e w' => e = .returned (.bool (PN.own s.data.toList)) ∧ w' = w := by
  have hf : PN.own s.data.toList = (decide (1 ≤ s.size) && (decide (s.size ≤ 6) && s.data.toList.all PN.fit)) := by rw [Lib.size_eq]; rfl
  obtain ⟨f, hfe⟩ : ∃ f, PN.own s.data.toList = f := ⟨_, rfl⟩
  rw [hfe] at hf ⊢
  obtain ⟨n, hn⟩ : ∃ n, s.size = n := ⟨_, rfl⟩
  rw [hn] at hf hsz
  have HF := Lib.hid hf
  clear hf hfe
  go_enter Try.func22, Try.ntmps22
  go_wp2
  go_loop [3] (fun i => ∃ k : Nat, k ≤ n ∧ i = .int .i64 (k : Int) ∧ (s.data.toList.take k).all PN.fit = true) (fun i => n - (intOf i).toNat)
  case atStart => exact ⟨0, Nat.zero_le _, rfl, rfl⟩
  case round =>
    obtain ⟨k, hk, rfl, ha⟩ := hrel
    by_cases hlt : k < n
    · obtain ⟨b, hb, hb'⟩ := ix_data s k (by omega)
      have hnx : (s.data.toList.take (k + 1)).all PN.fit = PN.fit b := by
        rw [List.take_add_one, hb, List.all_append, ha]; simp
      have hno : PN.fit b = false → f = false := fun e => by
        rw [HF.out]
        have : s.data.toList.all PN.fit = false := List.all_eq_false.2 ⟨b, List.mem_of_getElem? hb, by simp [e]⟩
        rw [this]; simp
      have HN := Lib.hid hnx
      have HNO := Lib.hid hno
      clear hb hnx hno ha
      rcases fit_cases b with ⟨h1, e⟩ | ⟨h1, h2, e⟩ | ⟨h1, h2, h3, e⟩ | ⟨h1, h2, h3, e⟩
      · have H0 := Lib.hid (HNO.out e)
        clear HNO HN e
        have h1' : (b.toNat : Int) < 33 := by omega
        go_wp2
        go_ret
        rw [H0.out]
        exact ⟨rfl, rfl⟩
      · have H0 := Lib.hid (HNO.out e)
        clear HNO HN e
        have h1' : ¬ (b.toNat : Int) < 33 := by omega
        have h2' : (126 : Int) < (b.toNat : Int) := by omega
        go_wp2
        go_ret
        rw [H0.out]
        exact ⟨rfl, rfl⟩
      · have H0 := Lib.hid (HNO.out e)
        clear HNO HN e
        have h1' : ¬ (b.toNat : Int) < 33 := by omega
        have h2' : ¬ (126 : Int) < (b.toNat : Int) := by omega
        have h3' : (b.toNat : Int) = 47 := by omega
        go_wp2
        go_ret
        rw [H0.out]
        exact ⟨rfl, rfl⟩
      · have h1' : ¬ (b.toNat : Int) < 33 := by omega
        have h2' : ¬ (126 : Int) < (b.toNat : Int) := by omega
        have h3' : ¬ (b.toNat : Int) = 47 := by omega
        have HA := Lib.hid (HN.out.trans e)
        clear HNO HN e
        go_wp2
        go_round
        case rel => exact ⟨k + 1, by omega, by go_num, HA.out⟩
        case measure => simp [intOf]; omega
    · have hkn : k = n := by omega
      subst hkn
      have hall : s.data.toList.all PN.fit = true := by
        rwa [List.take_of_length_le (by rw [← Lib.size_eq]; omega)] at ha
      have hfe := HF.out
      rw [hall] at hfe
      clear HF ha hall
      by_cases h1 : 1 ≤ k
      · by_cases h2 : k ≤ 6
        · have h1' : (1 : Int) ≤ (k : Int) := by omega
          have h2' : (k : Int) ≤ 6 := by omega
          have hr : f = true := by rw [hfe]; simp [h1, h2]
          subst hr
          clear hfe
          go_wp2
          go_ret
          exact ⟨rfl, rfl⟩
        · have h1' : (1 : Int) ≤ (k : Int) := by omega
          have h2' : ¬ (k : Int) ≤ 6 := by omega
          have hr : f = false := by rw [hfe]; simp [h2]
          subst hr
          clear hfe
          go_wp2
          go_ret
          exact ⟨rfl, rfl⟩
      · have h1' : ¬ (1 : Int) ≤ (k : Int) := by omega
        have hr : f = false := by rw [hfe]; simp [h1]
        subst hr
        clear hfe
        go_wp2
        go_ret
        exact ⟨rfl, rfl⟩


namespace PD
def keep (n : ByteArray) (e : E) : Bool := !decide (e.1 = n)
theorem keep_snoc {l : List E} {k : Nat} {e : E} (n : ByteArray) (h : l[k]? = some e) : (l.take (k + 1)).filter (keep n) = (l.take k).filter (keep n) ++ (if e.1 = n then [] else [e]) := by
  rw [List.take_add_one, h, List.filter_append]
  by_cases he : e.1 = n
  · simp [keep, he]
  · simp [keep, he]
theorem keep_length (l : List E) (k : Nat) (n : ByteArray) : ((l.take k).filter (keep n)).length ≤ l.length := by
  have h1 := List.length_filter_le (keep n) (l.take k)
  rw [List.length_take] at h1
  omega
theorem rless_eq {l : List E} {n : ByteArray} : rless l n = if has l n = true then l.filter (keep n) else l := rfl
end PD

set_option maxRecDepth 100000 in
set_option maxHeartbeats 8000000 in
theorem rless_any (v : Value) (l : List E) (s : ByteArray) (w : World) (h : Es w v l) : Calls Try.prog 19 #[v, .string s] w fun e w' => ∃ v', e = .returned (.tuple #[v', .bool (PD.has l s)]) ∧ (PD.has l s = false → v' = v) ∧ (PD.has l s = true → Eo w' w.heap.size v' (PD.rless l s)) ∧ Below w.heap.size w w' := by
  have hc := rfind_any v l s w h
  obtain ⟨A, c, rfl⟩ := h.form
  have hl := h.2.2
  have hwl := @PD.rless_eq l s
  have hkl := fun k => PD.keep_length l k s
  generalize hL : l.length = L at *
  obtain ⟨hv, hhv⟩ : ∃ b, PD.has l s = b := ⟨_, rfl⟩
  obtain ⟨R, hR⟩ : ∃ R, PD.rless l s = R := ⟨_, rfl⟩
  rw [hhv, hR] at hwl
  rw [hhv, hR]
  rw [hhv] at hc
  have HL := Lib.hid hL
  have HK := Lib.hid hkl
  cases hv with
  | false =>
    clear h HL HK hL hhv hwl hkl hR
    go_enter Try.func19, Try.ntmps19
    go_wp2_with (go_at_call 15; refine hc.mono ?_; rintro e w1 ⟨rfl, hw1⟩; rw [hw1]; clear hw1)
    go_ret2
    exact ⟨_, rfl, fun _ => rfl, fun e => (by cases e), Below.refl _ _⟩
  | true =>
    rw [if_pos rfl] at hwl
    have HR := Lib.hid hwl
    have H := Lib.hid h
    clear h hL hhv hwl hkl hR
    go_enter Try.func19, Try.ntmps19
    go_wp2_with (go_at_call 15; refine hc.mono ?_; rintro e w1 ⟨rfl, hw1⟩; rw [hw1]; clear hw1)
    clear hc
    go_loopw [8, 9] (fun o i wr => ∃ k : Nat, k ≤ L ∧ i = .int .i64 (k : Int) ∧ Below w.heap.size w wr ∧ Eo wr w.heap.size o ((l.take k).filter (PD.keep s))) (fun _ i _ => L - (intOf i).toNat)
    case atStart => exact ⟨0, Nat.zero_le _, rfl, Below.refl _ _, World.ownsRow_nil _ _ _ _⟩
    case round =>
      obtain ⟨k, hk, rfl, hB, hO⟩ := hrel
      by_cases hlt : k < L
      · obtain ⟨x, hx⟩ : ∃ x, l[k]? = some x := ⟨_, List.getElem?_eq_getElem (by rw [HL.out]; omega)⟩
        obtain ⟨b0, o0, rfl, hb0, hcell⟩ := (H.out.below hB).at (by rw [HL.out]; omega)
        obtain ⟨d0, d1⟩ := hcell k x hx
        have hsn := PD.keep_snoc s hx
        have hlen1 : ((l.take k).filter (PD.keep s)).length ≤ 65536 := by have := HK.out k; omega
        obtain ⟨q, y⟩ := x
        dsimp only at d0 d1 hsn
        by_cases hqs : q = s
        · rw [if_pos hqs, List.append_nil] at hsn
          rw [← hsn] at hO
          have h4 : (q.toList == s.toList) = true := by rw [hqs]; exact seq_yes s
          have HO := Lib.hid hO
          clear hcell hx hsn hO hqs hb0
          go_wp2
          go_roundw
          case rel => exact ⟨k + 1, by omega, by go_num, hB, HO.out⟩
          case measure => simp [intOf]; omega
        · rw [if_neg hqs] at hsn
          have h4 : (q.toList == s.toList) = false := seq_no hqs
          have HS := Lib.hid hsn
          have HO := Lib.hid hO
          clear hcell hx hsn hO hqs hb0
          go_wp2_with (at_builtin; refine append_e (w0 := w) rfl _ _ rfl _ _ rfl (HO.out.on (al _ _)) (hB.alloc hB.size _) hlen1 (q, y) _ 1 rfl (Sl.new2 _ _ 26 _ 1 1 _ rfl rfl) ?_)
          intro v5 w5 hO5 hB5
          rw [← HS.out] at hO5
          have HO5 := Lib.hid hO5
          clear HO hO5 hB d0 d1
          go_wp2
          go_roundw
          case rel => exact ⟨k + 1, by omega, by go_num, hB5, HO5.out⟩
          case measure => simp [intOf]; omega
      · have hkn : k = L := by omega
        subst hkn
        rw [List.take_of_length_le (by rw [HL.out]; exact Nat.le_refl _), ← HR.out] at hO
        have HO := Lib.hid hO
        clear hO HL HK HR H
        go_wp2
        go_ret2
        exact ⟨_, rfl, fun e => (by cases e), fun _ => HO.out, hB⟩
end Go.Proofs.Ytckkljiaicmljaa
