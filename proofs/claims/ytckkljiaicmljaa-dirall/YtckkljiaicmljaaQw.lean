/-
  The walk of DirAll where something ends it early; the law.
-/
import Derived.Test.YtckkljiaicmljaaQu
import Derived.Test.YtckkljiaicmljaaQv
import Derived.Test.YtckkljiaicmljaaBo
namespace Go.Proofs.Ytckkljiaicmljaa
open Go.RowKit Go.Joins

set_option maxRecDepth 100000 in
set_option maxHeartbeats 8000000 in
theorem early_any (v0 : Value) (l : List Nat) (v1 : Value) (wl : List E) (b name : ByteArray) (a y : Nat) (w : World) (h : Tz w v0 l) (h1 : Ez w v1 wl) (hno : ¬ (l.length ≤ 15 ∧ wl.length ≤ 8 ∧ b.size ≤ 130 ∧ name.size ≤ 12 ∧ ∀ e ∈ wl, e.1.size ≤ 12)) : Calls Try.prog 3 #[v0, v1, .string b, .string name, .int .u8 (a : Int), .int .u8 (y : Int)] w fun e w' => e = .returned (.bool true) ∧ Below w.heap.size w w' := by
  have hb := begun_any w
  obtain ⟨A, c, rfl⟩ : ∃ A c, v0 = .slice A l.length c := by
    obtain ⟨⟨A, c, hv, _⟩, _⟩ := h
    exact ⟨A, c, hv⟩
  obtain ⟨A1, c1, rfl⟩ := h1.form
  clear h
  generalize hL : l.length = L at *
  generalize hM : wl.length = M at *
  have HM := Lib.hid hM
  have H1 := Lib.hid h1
  clear hL h1 hM
  by_cases d15 : decide ((15 : Int) < (L : Int)) = true
  · clear hno
    go_enter Try.func3, Try.ntmps3
    go_wp2_with (go_at_call 7; refine hb.mono ?_; rintro e w1 ⟨rfl, hB1⟩)
    go_ret
    exact ⟨rfl, hB1⟩
  · rw [Bool.not_eq_true] at d15
    by_cases d8 : decide ((8 : Int) < (M : Int)) = true
    · clear hno
      go_enter Try.func3, Try.ntmps3
      go_wp2_with (go_at_call 7; refine hb.mono ?_; rintro e w1 ⟨rfl, hB1⟩)
      go_ret
      exact ⟨rfl, hB1⟩
    · rw [Bool.not_eq_true] at d8
      by_cases d130 : decide ((130 : Int) < (b.size : Int)) = true
      · clear hno
        go_enter Try.func3, Try.ntmps3
        go_wp2_with (go_at_call 7; refine hb.mono ?_; rintro e w1 ⟨rfl, hB1⟩)
        go_ret
        exact ⟨rfl, hB1⟩
      · rw [Bool.not_eq_true] at d130
        by_cases d12 : decide ((12 : Int) < (name.size : Int)) = true
        · clear hno
          go_enter Try.func3, Try.ntmps3
          go_wp2_with (go_at_call 7; refine hb.mono ?_; rintro e w1 ⟨rfl, hB1⟩)
          go_ret
          exact ⟨rfl, hB1⟩
        · rw [Bool.not_eq_true] at d12
          have hbad : ¬ ∀ e ∈ wl, e.1.size ≤ 12 := fun e => hno (by
            simp only [decide_eq_false_iff_not] at d15 d8 d130 d12
            exact ⟨by omega, by omega, by omega, by omega, e⟩)
          have hM8 : M ≤ 8 := by
            simp only [decide_eq_false_iff_not] at d8
            omega
          have HBAD := Lib.hid hbad
          clear hno hbad
          go_enter Try.func3, Try.ntmps3
          go_wp2_with fail
          refine hb.mono ?_
          rintro e w1 ⟨rfl, hB1⟩
          clear hb
          go_wp2
          clear d15 d8 d130 d12
          go_loop [13] (fun i => ∃ k : Nat, k ≤ M ∧ i = .int .i64 (k : Int) ∧ ∀ e ∈ wl.take k, e.1.size ≤ 12) (fun i => M - (intOf i).toNat)
          case atStart => exact ⟨0, Nat.zero_le _, rfl, by simp⟩
          case round =>
            obtain ⟨k, hk, rfl, hall⟩ := hrel
            by_cases hlt : k < M
            · obtain ⟨b0, o0, rfl, hb0, hcell⟩ := (H1.out.below hB1).at (by rw [HM.out]; omega)
              obtain ⟨e, he⟩ : ∃ e, wl[k]? = some e := ⟨_, List.getElem?_eq_getElem (by rw [HM.out]; omega)⟩
              obtain ⟨g0, g1⟩ := hcell k e he
              by_cases h12 : 12 < e.1.size
              · obtain ⟨q, z⟩ := e
                dsimp only at g0 g1 h12
                have hd : decide ((12 : Int) < (q.size : Int)) = true := by simp; omega
                clear hcell he hb0 hall
                go_wp2
                go_ret
                exact ⟨rfl, hB1⟩
              · have hall2 : ∀ e' ∈ wl.take (k + 1), e'.1.size ≤ 12 := by
                  intro e' he'
                  rw [List.take_add_one, he] at he'
                  simp at he'
                  rcases he' with he' | rfl
                  · exact hall e' he'
                  · omega
                have HALL := Lib.hid hall2
                obtain ⟨q, z⟩ := e
                dsimp only at g0 g1 h12
                have hd : decide ((12 : Int) < (q.size : Int)) = false := by simp; omega
                clear hcell he hb0 hall hall2
                go_wp2
                go_round
                case rel => exact ⟨k + 1, by omega, by go_num, HALL.out⟩
                case measure => simp [intOf]; omega
            · exfalso
              have hkm : k = M := by omega
              subst hkm
              rw [List.take_of_length_le (by rw [HM.out]; exact Nat.le_refl _)] at hall
              exact HBAD.out hall

theorem allLaw_any (v0 : Value) (l : List Nat) (v1 : Value) (wl : List E) (b name : ByteArray) (a y : Nat) (w : World) (h : Tz w v0 l) (h1 : Ez w v1 wl) (ha : a < 256) (hy : y < 256) : Calls Try.prog 3 #[v0, v1, .string b, .string name, .int .u8 (a : Int), .int .u8 (y : Int)] w fun e w' => e = .returned (.bool true) ∧ Below w.heap.size w w' := by
  by_cases hg : l.length ≤ 15 ∧ wl.length ≤ 8 ∧ b.size ≤ 130 ∧ name.size ≤ 12 ∧ ∀ e ∈ wl, e.1.size ≤ 12
  · obtain ⟨g1, g2, g3, g4, g5⟩ := hg
    rcases Nat.eq_zero_or_pos (PD.put (PD.made l)).size with hz | hz
    · exact all0_any v0 l v1 wl b name a y w (h.small (by omega)) (h1.fit g2 g5) g1 g2 g5 g3 g4 ha hy hz
    · exact all1_any v0 l v1 wl b name a y w (h.small (by omega)) (h1.fit g2 g5) g1 g2 g5 g3 g4 ha hy hz
  · exact early_any v0 l v1 wl b name a y w h h1 hg
end Go.Proofs.Ytckkljiaicmljaa
