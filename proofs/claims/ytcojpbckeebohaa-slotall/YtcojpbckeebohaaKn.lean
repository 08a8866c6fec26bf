/-
  The contract of the document's answer: TakeBlock.
-/
import Derived.Test.YtcojpbckeebohaaKm
namespace Go.Proofs.Ytcojpbckeebohaa
open Go.RowKit Go.Joins

theorem box3_end {w0 w : World} {B g : Nat} (h : Below B w0 w) (hg : B ≤ g) {x y z : Value} (hx : Bx w g 40 #[x, y, z]) (a b c : Value) :
    Below B w0 (((w.setCell ⟨g, 0, none⟩ a).setCell ⟨g, 1, none⟩ b).setCell ⟨g, 2, none⟩ c) ∧ Bx (((w.setCell ⟨g, 0, none⟩ a).setCell ⟨g, 1, none⟩ b).setCell ⟨g, 2, none⟩ c) g 40 #[a, b, c] :=
  ⟨below_set3 h hg a b c, hx.put3 a b c⟩

set_option maxHeartbeats 2000000 in
theorem rtakeB_short (s : ByteArray) (w : World) (hs : s.size ≠ 64) : Calls Try.prog 24 #[.string s] w fun e w' => e = .returned (.tuple #[.agg #[.int .i64 (PB.tk s), .int .i64 (PB.tg s), .string (PB.tl s)], .bool (PB.took s)]) ∧ Below w.heap.size w w' := by
  have ht := PB.took_size hs
  obtain ⟨e1, e2, e3⟩ := PB.took_no ht
  have hnil : str [] = ({ data := #[] } : ByteArray) := rfl
  rw [ht, e1, e2, e3, hnil]
  clear ht e1 e2 e3
  have hB := al w (.cells #[.int .i64 0, .int .i64 0, .string { data := #[] }] 40)
  have hx := Bx.new w 40 #[.int .i64 0, .int .i64 0, .string { data := #[] }]
  have hne : ¬ (s.size : Int) = 64 := by omega
  obtain ⟨d0, d1, d2, _, _, _⟩ := hx.three
  clear hx
  go_enter Try.func24, Try.ntmps24
  go_wp2
  exact bodyPost_ret (v := .tuple #[.agg #[(.int .i64 0), (.int .i64 0), (.string { data := #[] })], .bool false]) (by simp [results, Try.results24, go_sem, d0, d1, d2]) rfl ⟨rfl, hB⟩

set_option maxHeartbeats 4000000 in
theorem rtakeB_whole (s : ByteArray) (w : World) (hs : s.size = 64) : Calls Try.prog 24 #[.string s] w fun e w' => e = .returned (.tuple #[.agg #[.int .i64 (PB.tk s), .int .i64 (PB.tg s), .string (PB.tl s)], .bool (PB.took s)]) ∧ Below w.heap.size w w' := by
  obtain ⟨hr1, hr2⟩ := PB.road hs
  have hB := al w (.cells #[.int .i64 0, .int .i64 0, .string { data := #[] }] 40)
  have hx := Bx.new w 40 #[.int .i64 0, .int .i64 0, .string { data := #[] }]
  obtain ⟨gb, c, w1, hconv, hgb, hc, hmk, hB1⟩ := to_bytes s (w.alloc (.cells #[.int .i64 0, .int .i64 0, .string { data := #[] }] 40))
  rw [hs] at hconv hc
  have hx1 := hx.on hB1
  have hb1 := hB.trans (hB1.mono (by simp))
  have hnl : (nums s).length = 64 := by rw [nums_length, hs]
  have htx := hmk.tx (nums_lt s) (by omega) 64 c hnl
  obtain ⟨u, _, hsub, hsubx⟩ := sub_l (A := some ⟨gb, 0, none⟩) (c := c) (p := 1) hnl (by decide) hc
  rw [show (((1 : Nat) : Int)) = 1 from rfl] at hsub
  have hu := hsubx w1 htx
  have hn1 : ((nums s).drop 1).length = 63 := by rw [List.length_drop, hnl]
  obtain ⟨A, cu, hform⟩ := hu.form
  rw [hn1] at hform
  subst hform
  clear hn1
  have htk := rtake_any _ _ 4 w1 hu
  rw [show (PlainBits.takeN ((nums s).drop 1) 4 : Nat) = PB.genOf (nums s) from rfl] at htk
  obtain ⟨x0, hx0⟩ : ∃ x, (nums s)[0]? = some x := ⟨_, List.getElem?_eq_getElem (by omega)⟩
  obtain ⟨x5, hx5⟩ : ∃ x, (nums s)[5]? = some x := ⟨_, List.getElem?_eq_getElem (by omega)⟩
  have hx0' := nums_lt s x0 (List.mem_of_getElem? hx0)
  have hx5' := nums_lt s x5 (List.mem_of_getElem? hx5)
  have hk : PB.rk s = (x0 : Int) := by simp [PB.rk, List.getD, hx0]
  obtain ⟨m, hm⟩ : ∃ m, min x5 55 = m := ⟨_, rfl⟩
  have hl : PB.rl s = s.extract 6 (6 + m) := by simp [PB.rl, List.getD, hx5, hm]
  have hmi : min (x5 : Int) 55 = (m : Int) := by omega
  have hm55 : m ≤ 55 := by omega
  obtain ⟨G, hG⟩ : ∃ x, PB.genOf (nums s) = x := ⟨_, rfl⟩
  have hg : PB.rg s = (G : Int) := by rw [PB.rg, hG]
  have hcell0 := hmk.cell hx0
  have hcell5 := hmk.cell hx5
  rw [hk, hg, hl] at hr1 hr2
  rw [hG] at htk
  have hG32 : I64 (G : Int) := by
    have : G < 256 ^ 4 := by
      rw [← hG, PB.genOf, PlainBits.takeN]
      split
      · have h4 := PlainBits.dec_lt (((nums s).drop 1).take (4 : Int).toNat) (fun b hb => nums_lt s b (List.mem_of_mem_drop (List.mem_of_mem_take hb)))
        refine Nat.lt_of_lt_of_le h4 (Nat.pow_le_pow_right (by decide) ?_)
        rw [List.length_take]; exact Nat.min_le_left _ _
      · exact Nat.pow_pos (by decide)
    unfold I64
    omega
  obtain ⟨E, hE⟩ : ∃ x, s.extract 6 (6 + m) = x := ⟨_, rfl⟩
  rw [hE] at hr1 hr2
  have hEi : s.extract 6 (Int.toNat (6 + (m : Int))) = E := by rw [← hE]; congr 1
  obtain ⟨t, ht⟩ : ∃ t, PB.took s = t := ⟨_, rfl⟩
  obtain ⟨a0, ha0⟩ : ∃ t, PB.tk s = t := ⟨_, rfl⟩
  obtain ⟨a1, ha1⟩ : ∃ t, PB.tg s = t := ⟨_, rfl⟩
  obtain ⟨a2, ha2⟩ : ∃ t, PB.tl s = t := ⟨_, rfl⟩
  rw [ht, ha0, ha1, ha2] at hr2 ⊢
  rw [ht] at hr1
  have hno : t = false → a0 = 0 ∧ a1 = 0 ∧ a2 = { data := #[] } := by
    intro h
    rw [← ha0, ← ha1, ← ha2]
    exact PB.took_no (by rw [ht, h])
  have H1 := Lib.hid hr1
  have H2 := Lib.hid hr2
  have H3 := Lib.hid hno
  have hsi : (s.size : Int) = 64 := by omega
  clear hr1 hr2 hno ht ha0 ha1 ha2 hG hk hg hl hx0 hx5 hm hsubx hu htx hmk hx hB hB1 hnl
  have H4 := Lib.hid hEi
  have H5 := Lib.hid hmi
  have H6 := Lib.hid hcell0
  have H7 := Lib.hid hcell5
  clear hEi hmi hcell0 hcell5 hE
  go_enter Try.func24, Try.ntmps24
  go_upto_region 4 with fail
  go_wp2_with fail
  refine htk.mono ?_
  rintro e w2 ⟨rfl, rfl⟩
  go_upto_region 5 with fail
  have hcell0 := H6.out
  have hcell5 := H7.out
  have hgl : gb < w1.heap.size := by
    rcases Nat.lt_or_ge gb w1.heap.size with h | h
    · exact h
    · rw [World.cell?, Array.getElem?_eq_none h] at hcell0
      cases hcell0
  have hA := al w1 (.cells #[.int .i64 0, .int .i64 0, .string { data := #[] }] 40)
  have hcell0a : (w1.alloc (.cells #[.int .i64 0, .int .i64 0, .string { data := #[] }] 40)).cell? ⟨gb, 0, none⟩ = some (.int .u8 (x0 : Int)) := (hA.cell (p := ⟨gb, 0, none⟩) hgl).trans hcell0
  have hcell5a : (w1.alloc (.cells #[.int .i64 0, .int .i64 0, .string { data := #[] }] 40)).cell? ⟨gb, 5, none⟩ = some (.int .u8 (x5 : Int)) := (hA.cell (p := ⟨gb, 5, none⟩) hgl).trans hcell5
  have hif : (if (55 : Int) < (x5 : Int) then (55 : Int) else (x5 : Int)) = (m : Int) := by
    have := H5.out
    split <;> omega
  have hEi := H4.out
  have hw5 : IntKind.i64.wrap (x5 : Int) = x5 := by rw [IntKind.wrap_i64]; omega
  have hw0 : IntKind.i64.wrap (x0 : Int) = x0 := by rw [IntKind.wrap_i64]; omega
  have hwm : IntKind.i64.wrap (6 + (m : Int)) = 6 + m := by rw [IntKind.wrap_i64]; omega
  have h6n : (0 : Int) ≤ 6 + (m : Int) := by omega
  have h6m : (6 : Int) ≤ 6 + (m : Int) := by omega
  have hm64 : 6 + (m : Int) ≤ 64 := by omega
  have hx2 : Bx (w1.alloc (.cells #[.int .i64 (x0 : Int), .int .i64 (G : Int), .string E] 40)).drew w.heap.size 40 #[.int .i64 0, .int .i64 0, .string { data := #[] }] := hx1.alloc (.cells #[.int .i64 (x0 : Int), .int .i64 (G : Int), .string E] 40)
  have hy2 : Bx (w1.alloc (.cells #[.int .i64 (x0 : Int), .int .i64 (G : Int), .string E] 40)).drew w1.heap.size 40 #[.int .i64 (x0 : Int), .int .i64 (G : Int), .string E] := Bx.new w1 40 _
  have hb2 := (hb1.alloc hb1.size (.cells #[.int .i64 (x0 : Int), .int .i64 (G : Int), .string E] 40)).drew
  have hne : w1.heap.size ≠ w.heap.size := by have := hx1.lt; omega
  go_region
  clear hcell0 hcell5 hcell0a hcell5a hif hw5 hw0 hwm h6n h6m hm64 hEi hsub hconv hA hgl
  generalize (w1.alloc (.cells #[.int .i64 (x0 : Int), .int .i64 (G : Int), .string E] 40)).drew = w2 at *
  generalize w1.heap.size = gy at *
  obtain ⟨c0, c1, c2, _, _, _⟩ := hy2.three
  go_wp2_with fail
  refine (rputB_any (x0 : Int) (G : Int) E _).mono ?_
  rintro e w3 ⟨rfl, hB3⟩
  have hx3 := hx2.on hB3
  have hy3 := hy2.on hB3
  have hb3 := hb2.trans (hB3.mono hb2.size)
  clear hx2 hy2 hb2 hB3 c0 c1 c2 hx1 hb1
  obtain ⟨c0, c1, c2, f0, f1, f2⟩ := hx3.three
  obtain ⟨y0, y1, y2, _, _, _⟩ := hy3.three
  by_cases hF : PB.put (x0 : Int) (G : Int) E = s
  · have ht : t = true := H1.out.1 hF
    obtain ⟨e0, e1, e2⟩ := H2.out ht
    have HT := Lib.hid ht
    have E0 := Lib.hid e0
    have E1 := Lib.hid e1
    have E2 := Lib.hid e2
    clear ht e0 e1 e2
    rw [hF]
    obtain ⟨hend, hendx⟩ := box3_end hb3 (Nat.le_refl w.heap.size) hx3 (.int .i64 (x0 : Int)) (.int .i64 (G : Int)) (.string E)
    clear hb3 hx3 hy3 hF
    go_wp2
    generalize (((w3.setCell ⟨w.heap.size, 0, none⟩ (.int .i64 (x0 : Int))).setCell ⟨w.heap.size, 1, none⟩ (.int .i64 (G : Int))).setCell ⟨w.heap.size, 2, none⟩ (.string E)) = wz at hend hendx ⊢
    obtain ⟨d0, d1, d2, _, _, _⟩ := hendx.three
    refine bodyPost_ret (v := .tuple #[.agg #[(.int .i64 (x0 : Int)), (.int .i64 (G : Int)), (.string E)], .bool true]) (by simp [results, Try.results24, go_sem, d0, d1, d2]) rfl ⟨?_, hend⟩
    rw [E0.out, E1.out, E2.out, HT.out]
  · have ht : t = false := by
      cases h : t with
      | false => rfl
      | true => exact absurd (H1.out.2 h) hF
    obtain ⟨e0, e1, e2⟩ := H3.out ht
    have HT := Lib.hid ht
    have E0 := Lib.hid e0
    have E1 := Lib.hid e1
    have E2 := Lib.hid e2
    clear ht e0 e1 e2
    have hne2 := seq_no hF
    obtain ⟨hend, hendx⟩ := box3_end hb3 (Nat.le_refl w.heap.size) hx3 (.int .i64 0) (.int .i64 0) (.string { data := #[] })
    clear hb3 hx3 hy3 hF
    go_wp2
    generalize (((w3.setCell ⟨w.heap.size, 0, none⟩ (.int .i64 0)).setCell ⟨w.heap.size, 1, none⟩ (.int .i64 0)).setCell ⟨w.heap.size, 2, none⟩ (.string { data := #[] })) = wz at hend hendx ⊢
    obtain ⟨d0, d1, d2, _, _, _⟩ := hendx.three
    refine bodyPost_ret (v := .tuple #[.agg #[(.int .i64 0), (.int .i64 0), (.string { data := #[] })], .bool false]) (by simp [results, Try.results24, go_sem, d0, d1, d2]) rfl ⟨?_, hend⟩
    rw [E0.out, E1.out, E2.out, HT.out]

theorem rtakeB_any (s : ByteArray) (w : World) : Calls Try.prog 24 #[.string s] w fun e w' => e = .returned (.tuple #[.agg #[.int .i64 (PB.tk s), .int .i64 (PB.tg s), .string (PB.tl s)], .bool (PB.took s)]) ∧ Below w.heap.size w w' := by
  by_cases hs : s.size = 64
  · exact rtakeB_whole s w hs
  · exact rtakeB_short s w hs
end Go.Proofs.Ytcojpbckeebohaa
