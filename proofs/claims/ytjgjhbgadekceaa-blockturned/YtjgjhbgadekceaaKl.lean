/-
  The law BlockTurned: its walk.
-/
import Derived.Test.YtjgjhbgadekceaaKj
namespace Go.Proofs.Ytjgjhbgadekceaa
open Go.RowKit Go.Joins

namespace PB
/-- A byte behind the load that is no nought: no block. -/
theorem turned_no {k g : Int} {l : ByteArray} (hm : may k g l.size = true) {j y : Nat} (hj : 6 + l.size ≤ j) (hj' : j < 64) (hy : y ≠ 0) (hy' : y < 256) : took (str ((full k g (nums l)).set j y)) = false := by
  cases ht : took (str ((full k g (nums l)).set j y)) with
  | false => rfl
  | true =>
    exfalso
    obtain ⟨h1, h2⟩ := took_spec ht
    have hl := (may_spec.1 hm).2
    have hlt : ∀ b ∈ (full k g (nums l)).set j y, b < 256 := by
      intro b hb
      rcases List.mem_or_eq_of_mem_set hb with h | h
      · exact full_lt (nums_lt l) (by rw [nums_length]; omega) b h
      · omega
    have hn := put_nums h1
    rw [h2, nums_str _ hlt] at hn
    have hd := congrArg (List.drop 5) hn
    rw [full_drop5, List.drop_set, if_neg (by omega), full_drop5] at hd
    have hnl := nums_length l
    generalize nums (tl (str ((full k g (nums l)).set j y))) = l' at hd
    generalize nums l = l0 at hd hnl
    have e0 : l0.length = l'.length := by
      have := congrArg (fun x => x.getD 0 0) hd
      obtain ⟨i, hi⟩ : ∃ i, j - 5 = i + 1 := ⟨j - 6, by omega⟩
      rw [hi] at this
      simpa using this
    have e1 := congrArg (fun x => x[j - 5]?) hd
    have hlen : j - 5 < (l0.length :: l0 ++ List.replicate (64 - (6 + l0.length)) 0).length := by simp; omega
    simp only [List.getElem?_set_self hlen] at e1
    rw [List.getElem?_append_right (by simp; omega)] at e1
    rw [List.getElem?_replicate] at e1
    split at e1
    · injection e1; omega
    · cases e1
end PB

theorem turned_big (A : Option Addr) (n c a y : Nat) (w : World) (h : 5 < n ∨ y = 0) :
    Calls Try.prog 6 #[.slice A n c, .int .u8 (a : Int), .int .u8 (y : Int)] w fun e w' => e = .returned (.bool true) ∧ Below w.heap.size w w' := by
  by_cases h0 : (5 : Int) < (n : Int)
  · go_enter Try.func6, Try.ntmps6
    go_wp2_with fail
    refine (begun_any _).mono ?_
    rintro e w1 ⟨rfl, hb1⟩
    go_wp2
    go_ret
    exact ⟨rfl, hb1⟩
  have h1 : y = 0 := by omega
  subst h1
  go_enter Try.func6, Try.ntmps6
  go_wp2_with fail
  refine (begun_any _).mono ?_
  rintro e w1 ⟨rfl, hb1⟩
  go_wp2
  go_ret
  exact ⟨rfl, hb1⟩

set_option maxHeartbeats 4000000 in
theorem turned_any (A : Option Addr) (n c : Nat) (bs : List Nat) (a y : Nat) (w : World) (hv : Tx w (.slice A n c) bs) (hn : bs.length = n) (h5 : n ≤ 5) (ha : a < 256) (hy : y < 256) (hy0 : y ≠ 0) :
    Calls Try.prog 6 #[.slice A n c, .int .u8 (a : Int), .int .u8 (y : Int)] w fun e w' => e = .returned (.bool true) ∧ Below w.heap.size w w' := by
  have g0 : decide ((5 : Int) < (n : Int)) = false := decide_eq_false (by omega)
  have g1 : ((y : Int) == 0) = false := beq_eq_false_iff_ne.2 (by omega)
  have HV := Lib.hid hv
  have HN := Lib.hid hn
  clear hv hn
  go_enter Try.func6, Try.ntmps6
  go_wp2_with fail
  refine (begun_any _).mono ?_
  rintro e w1 ⟨rfl, hb1⟩
  go_wp2_with fail
  refine (made_any A n c _).mono ?_
  rintro e w2 ⟨g, rfl, hg, hx2, hB2⟩
  have hb2 := hb1.trans (hB2.mono hb1.size)
  go_wp2_with fail
  refine (mblock_any w A n c bs HV.out HN.out g w2 hb2 (Nat.le_trans hb1.size hg) hx2).mono ?_
  rintro e w3 ⟨K, G, L, rfl, bK, bG, bL, hb3⟩
  have hx4 := Bx.new w3 23 #[.int .i64 K, .int .i64 G, .string L]
  have hb4 := hb3.alloc hb3.size (.cells #[.int .i64 K, .int .i64 G, .string L] 23)
  clear hb1 hb2 hx2 hB2 hg hb3
  have rK : I64 K := by unfold I64; omega
  have rG : I64 G := by unfold I64; omega
  have mX : PB.may K G L.size = true := PB.may_spec.2 (by omega)
  obtain ⟨P, hP⟩ : ∃ P, PB.put K G L = P := ⟨_, rfl⟩
  have sP : P.size = 64 := by rw [← hP]; exact PB.put_size mX
  have hP64 : (P.size : Int) = 64 := by omega
  obtain ⟨p0, p1, p2, p3⟩ := PB.took_of mX hP
  have HP := Lib.hid hP
  have HM := Lib.hid mX
  clear hP mX
  go_upto_region 6 with fail
  generalize w3.alloc (.cells #[.int .i64 K, .int .i64 G, .string L] 23) = w4 at *
  generalize w3.heap.size = gx at *
  obtain ⟨c0, c1, c2, _⟩ := hx4.three
  go_wp2_with fail
  refine (bput_any K G L rK rG _).mono ?_
  rintro e w5 ⟨rfl, hB5⟩
  rw [HP.out]
  have hx5 := hx4.on hB5
  have hb5 := hb4.trans (hB5.mono hb4.size)
  clear hx4 hb4 hB5 c0 c1 c2
  obtain ⟨q, hq⟩ : ∃ q, a % 64 = q := ⟨_, rfl⟩
  have hq64 : q < 64 := by omega
  have hqi : (a : Int) % 64 = (q : Int) := by omega
  go_wp2_with fail
  have z1 : (P.extract 0 q).size = q := by rw [ByteArray.size_extract, sP]; omega
  have z2 : (P ++ ({ data := #[120] } : ByteArray)).size = 65 := by rw [ByteArray.size_append, sP]; rfl
  have t1 := PB.took_size (s := P.extract 0 q) (by omega)
  have t2 := PB.took_size (s := P ++ ({ data := #[120] } : ByteArray)) (by omega)
  obtain ⟨t3, t4, t5⟩ := PB.took_no t1
  obtain ⟨t6, t7, t8⟩ := PB.took_no t2
  obtain ⟨S2, hS2⟩ : ∃ S, P ++ ({ data := #[120] } : ByteArray) = S := ⟨_, rfl⟩
  rw [hS2] at z2 t2 t6 t7 t8
  refine (btake_any (P.extract 0 q) _ (by omega)).mono ?_
  rintro e w6 ⟨rfl, hB6⟩
  rw [t1, t3, t4, t5]
  have hx6 := (hx5.on hB6).alloc (.cells #[.int .i64 0, .int .i64 0, .string (str [])] 23)
  have hb6' := hb5.trans (hB6.mono hb5.size)
  have hb6 := hb6'.alloc hb6'.size (.cells #[.int .i64 0, .int .i64 0, .string (str [])] 23)
  clear hx5 hb5 hB6 hb6' z1 t1 t3 t4 t5 hqi
  go_upto_region 10 with fail
  generalize w6.alloc (.cells #[.int .i64 0, .int .i64 0, .string (str [])] 23) = w7 at *
  generalize w6.heap.size = g6 at *
  go_wp2_with fail
  refine (btake_any S2 _ (by omega)).mono ?_
  rintro e w8 ⟨rfl, hB8⟩
  rw [t2, t6, t7, t8]
  have hx8 := (hx6.on hB8).alloc (.cells #[.int .i64 0, .int .i64 0, .string (str [])] 23)
  have hb8' := hb6.trans (hB8.mono hb6.size)
  have hb8 := hb8'.alloc hb8'.size (.cells #[.int .i64 0, .int .i64 0, .string (str [])] 23)
  clear hx6 hb6 hB8 hb8' z2 t2 t6 t7 t8 hS2
  go_upto_region 11 with fail
  generalize w8.alloc (.cells #[.int .i64 0, .int .i64 0, .string (str [])] 23) = w9 at *
  generalize w8.heap.size = g8 at *
  obtain ⟨c0, c1, c2, _⟩ := hx8.three
  obtain ⟨r, hr⟩ : ∃ r, a % (64 - (6 + L.size)) = r := ⟨_, rfl⟩
  have hrl : r < 64 - (6 + L.size) := by rw [← hr]; exact Nat.mod_lt _ (by omega)
  have hri : (a : Int) % (64 - (6 + (L.size : Int))) = (r : Int) := by
    rw [← hr, Int.natCast_emod]; congr 1; omega
  go_upto_region 13 with fail
  obtain ⟨j, hj⟩ : ∃ j, 6 + L.size + r = j := ⟨_, rfl⟩
  have hji : 6 + (L.size : Int) + (r : Int) = (j : Int) := by omega
  rw [hji]
  have hj64 : j < 64 := by omega
  have hjl : 6 + L.size ≤ j := by omega
  clear hji hj hr hrl hri c0 c1 c2
  obtain ⟨gb, cb, w10, hconv, hgb, hcb, hmk, hB10⟩ := to_bytes P w9
  rw [sP] at hconv
  have hnP : nums P = PB.full K G (nums L) := by rw [← HP.out]; exact PB.put_nums HM.out
  have hx0 : (nums P)[j]? = some 0 := by
    rw [hnP, PB.full, List.getElem?_append_right (by rw [PB.raw_length, nums_length]; exact hjl), PB.raw_length, nums_length, List.getElem?_replicate, if_pos (by omega)]
  have hcell := hmk.cell hx0
  have hlen : (nums P).length = 64 := by rw [nums_length, sP]
  have hfz := hmk.frozen (i := j) (by omega)
  have hms := hmk.set j y
  have hno : PB.took (str ((nums P).set j y)) = false := by rw [hnP]; exact PB.turned_no HM.out hjl hj64 hy0 hy
  have hts := hms.tx (by
    intro b hb
    rcases List.mem_or_eq_of_mem_set hb with h | h
    · exact nums_lt P b h
    · omega) (by rw [List.length_set]; omega) 64 cb (by rw [List.length_set]; exact hlen)
  have hsz : (str ((nums P).set j y)).size = 64 := by rw [str_size, List.length_set, hlen]
  have hstr := hts.string
  generalize str ((nums P).set j y) = S3 at *
  have hxor : bits .xor .u8 0 (y : Int) = (y : Int) := by
    have e := u8_xor_nat 0 y (by decide) hy
    simpa using e
  have hx10 := hx8.on hB10
  have hb10 := hb8.trans (hB10.mono hb8.size)
  have hgx : gx ≠ gb := by have := hx8.lt; omega
  have hx11 := hx10.far (p := ⟨gb, j, none⟩) hgx (.int .u8 (y : Int))
  have hb11 := hb10.setCell (p := ⟨gb, j, none⟩) (Nat.le_trans hb8.size hgb) (.int .u8 (y : Int))
  have p0' := p0
  obtain ⟨t3, t4, t5⟩ := PB.took_no hno
  clear hx0 hnP hms hmk hB10 hx8 hb8 hx10 hb10 hgb hts hjl hlen
  go_upto_region 15 with fail
  generalize w10.setCell ⟨gb, j, none⟩ (.int .u8 (y : Int)) = w11 at *
  clear hconv hcell hfz hxor
  go_wp2_with fail
  refine (btake_any S3 _ (by omega)).mono ?_
  rintro e w12 ⟨rfl, hB12⟩
  rw [hno, t3, t4, t5]
  have hx12 := (hx11.on hB12).alloc (.cells #[.int .i64 0, .int .i64 0, .string (str [])] 23)
  have hb12' := hb11.trans (hB12.mono hb11.size)
  have hb12 := hb12'.alloc hb12'.size (.cells #[.int .i64 0, .int .i64 0, .string (str [])] 23)
  clear hx11 hb11 hB12 hb12' hno t3 t4 t5 hstr hsz
  go_upto_region 16 with fail
  generalize w12.alloc (.cells #[.int .i64 0, .int .i64 0, .string (str [])] 23) = w13 at *
  generalize w12.heap.size = g12 at *
  go_wp2_with fail
  refine (btake_any P _ (by omega)).mono ?_
  rintro e w14 ⟨rfl, hB14⟩
  rw [p0, p1, p2, p3]
  have hx14 := (hx12.on hB14).alloc (.cells #[.int .i64 K, .int .i64 G, .string L] 23)
  have hy14 := Bx.new w14 23 #[.int .i64 K, .int .i64 G, .string L]
  have hb14' := hb12.trans (hB14.mono hb12.size)
  have hb14 := hb14'.alloc hb14'.size (.cells #[.int .i64 K, .int .i64 G, .string L] 23)
  clear hx12 hb12 hB14 hb14' p0' p0 p1 p2 p3
  go_upto_region 17 with fail
  generalize w14.alloc (.cells #[.int .i64 K, .int .i64 G, .string L] 23) = w15 at *
  generalize w14.heap.size = g14 at *
  obtain ⟨c0, c1, c2, _⟩ := hx14.three
  obtain ⟨d0, d1, d2, _⟩ := hy14.three
  go_wp2
  go_ret
  exact ⟨rfl, hb14⟩
end Go.Proofs.Ytjgjhbgadekceaa
