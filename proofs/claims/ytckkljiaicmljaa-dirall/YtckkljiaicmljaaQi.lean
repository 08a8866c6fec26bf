/-
  Contract: glacislaw7.begun.
-/
import Derived.Test.YtckkljiaicmljaaQh
namespace Go.Proofs.Ytckkljiaicmljaa
open Go.RowKit Go.Joins

namespace BG
def l2 : List E := [({ data := #[97] }, 2), ({ data := #[98] }, 3)]
def s2 : ByteArray := { data := #[1, 97, 2, 1, 98, 3] }
theorem ok2 : PD.ok l2 = true := by decide +kernel
theorem put2 : PD.put l2 = s2 := by decide +kernel
theorem took2 : PD.took s2 = some l2 := by rw [← put2]; exact PD.took_put ok2
theorem tk2 : PD.tk s2 = true := (PD.took_some took2).1
theorem tl2 : PD.tl s2 = l2 := (PD.took_some took2).2
theorem find2 : PD.find l2 { data := #[98] } = 3 := by decide +kernel
theorem at2 : PD.isAt l2 { data := #[98] } = true := by decide +kernel
theorem no2 : PD.isAt l2 { data := #[97, 97] } = false := by decide +kernel
theorem with2 : PD.wth l2 ({ data := #[97, 97] }, 4) = [({ data := #[97] }, 2), ({ data := #[97, 97] }, 4), ({ data := #[98] }, 3)] := by decide +kernel
theorem at2a : PD.isAt l2 { data := #[97] } = true := by decide +kernel
theorem less2a : PD.less l2 { data := #[97] } = [({ data := #[98] }, 3)] := by decide +kernel
theorem no2c : PD.isAt l2 { data := #[99] } = false := by decide +kernel
theorem fit (l : List E) (h : (l.all fun e => decide (e.1.size ≤ 1048576) && (decide (-9223372036854775808 ≤ e.2) && decide (e.2 ≤ 9223372036854775807))) = true) (k : l.length ≤ 65536) : Fit l := by
  refine ⟨fun e he => ?_, k⟩
  have := List.all_eq_true.1 h e he
  simp only [Bool.and_eq_true, decide_eq_true_eq] at this
  exact ⟨this.1, this.2⟩
end BG

set_option maxRecDepth 100000 in
set_option maxHeartbeats 8000000 in
theorem begun_any (w : World) : Calls Try.prog 7 #[] w fun e w' => e = .returned (.bool true) ∧ Below w.heap.size w w' := by
  have hE0 := Es.new w #[.string { data := #[97] }, .int .i64 2, .string { data := #[98] }, .int .i64 3] (0, 0) 2 2 _ rfl BG.l2 rfl rfl (BG.fit _ (by decide) (by decide))
  have c1 := put_any _ _ _ hE0
  rw [BG.put2, BG.ok2] at c1
  have hb0 := al w (.cells #[.string { data := #[97] }, .int .i64 2, .string { data := #[98] }, .int .i64 3] 26)
  clear hE0
  go_enter Try.func7, Try.ntmps7
  go_wp2_with fail
  refine c1.mono ?_
  rintro e w1 ⟨rfl, hB1⟩
  have hb1 := hb0.trans (hB1.mono hb0.size)
  clear c1 hb0 hB1
  have c2 := take_any BG.s2 w1
  rw [BG.tk2, BG.tl2] at c2
  go_wp2_with fail
  refine c2.mono ?_
  rintro e w2 ⟨v2, rfl, hO2, hF2, hB2⟩
  have hb2 := hb1.trans (hB2.mono hb1.size)
  obtain ⟨A2, k2, rfl, hk2⟩ := hO2.cap
  have hE2 := hO2.row hF2
  have hcap : ∀ A n c, (Value.slice A2 BG.l2.length k2) = .slice A n c → n ≤ c := fun A n c h => by injection h with _ h1 h2; subst h1 h2; exact hk2
  have c3 := find_any _ _ { data := #[98] } w2 hE2
  rw [BG.find2, BG.at2] at c3
  clear c2 hO2 hF2 hb1 hB2
  go_wp2_with fail
  refine c3.mono ?_
  rintro e w3 ⟨rfl, hB3⟩
  have hb3 := hb2.trans (hB3.mono hb2.size)
  have hE3 := hE2.below hB3
  clear c3 hb2 hB3 hE2
  have c4 := with_any _ _ { data := #[97, 97] } 4 w3 hE3 hcap (BG.fit _ (by decide) (by decide))
  rw [BG.no2, BG.with2] at c4
  go_wp2_with fail
  refine c4.mono ?_
  rintro e w4 ⟨v4, rfl, hO4, hB4⟩
  have hb4 := hb3.trans (hB4.mono hb3.size)
  have hE4 := hE3.below hB4
  have hM4 := hO4.row (BG.fit _ (by decide) (by decide))
  obtain ⟨A4, k4, rfl, _⟩ := hO4.cap
  clear c4 hb3 hB4 hE3 hO4
  have c5 := less_any _ _ { data := #[97] } w4 hE4 hcap
  rw [BG.at2a, BG.less2a] at c5
  go_wp2_with fail
  refine c5.mono ?_
  rintro e w5 ⟨v5, rfl, hO5, hB5⟩
  have hb5 := hb4.trans (hB5.mono hb4.size)
  have hE5 := hE4.below hB5
  have hM5 := hM4.below hB5
  obtain ⟨A5, k5, rfl, _⟩ := hO5.cap
  clear c5 hb4 hB5 hE4 hM4 hO5
  have c6 := less_any _ _ { data := #[99] } w5 hE5 hcap
  rw [BG.no2c] at c6
  go_wp2_with fail
  refine c6.mono ?_
  rintro e w6 ⟨v6, rfl, hO6, hB6⟩
  have hb6 := hb5.trans (hB6.mono hb5.size)
  have hM6 := hM5.below hB6
  obtain ⟨A6, k6, rfl, _⟩ := hO6.cap
  clear c6 hb5 hB6 hM5 hO6 hE5 hcap
  obtain ⟨b0, o0, rfl, _, hcell⟩ := hM6.at (by decide)
  obtain ⟨g0, g1⟩ := hcell 1 ({ data := #[97, 97] }, 4) rfl
  clear hcell hM6
  dsimp only at g0 g1
  have hs : BG.s2.toList = [1, 97, 2, 1, 98, 3] := by rw [ByteArray.toList_eq]; rfl
  have hl : BG.l2.length = 2 := rfl
  go_wp2
  go_ret
  exact ⟨rfl, hb6⟩
end Go.Proofs.Ytckkljiaicmljaa
