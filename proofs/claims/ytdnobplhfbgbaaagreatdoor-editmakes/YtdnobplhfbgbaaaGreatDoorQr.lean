/-
  Contract: the document's PutDir.
-/
import Derived.Test.YtdnobplhfbgbaaaGreatDoorMQl
namespace Go.Proofs.YtdnobplhfbgbaaaGreatDoor
open Go.RowKit Go.Joins

namespace PD
theorem put_length {l : List E} (h : ok l = true) : (put l).size = (bytes l).length := by rw [put, if_pos h, str_size]
theorem bytes_at {l : List E} {k : Nat} {e : E} (h : l[k]? = some e) : (bytes (l.take (k + 1))).length = (bytes (l.take k)).length + e.1.size + 2 := by
  rw [List.take_add_one, h, show (some e).toList = [e] from rfl, bytes_snoc, List.length_append, ent_length]
  omega
theorem bytes_take (l : List E) (k : Nat) : (bytes (l.take k)).length ≤ (bytes l).length := by
  have h : bytes l = bytes (l.take k) ++ bytes (l.drop k) := by
    rw [bytes, bytes, bytes, ← List.flatMap_append, List.take_append_drop]
  rw [h, List.length_append]
  omega
theorem nil_lt {s : ByteArray} (h : 1 ≤ s.size) : lt { data := #[] } s = true := by
  rw [lt_eq, decide_eq_true_eq, Lib.toList_data]
  cases hc : s.toList with
  | nil =>
    exfalso
    have : s.data.toList = [] := by rw [← Lib.toList_data]; exact hc
    rw [Lib.size_eq, this] at h
    simp at h
  | cons a r => exact List.nil_lt_cons a r
theorem rise_first {l : List E} {x : E} (hx : l[0]? = some x) : rise (l.take 1) = may x := by
  have h0 : l.take 1 = [x] := by rw [List.take_add_one, hx]; rfl
  rw [h0, rise_srt]
  cases hm : may x with
  | false => simp [srt, hm]
  | true => simp [srt, hm, nil_lt (may_size hm).1]
theorem rise_next {l : List E} {j : Nat} {a x : E} (hr : rise (l.take (j + 1)) = true) (ha : l[j]? = some a) (hx : l[j + 1]? = some x) : rise (l.take (j + 1 + 1)) = (may x && lt a.1 x.1) := by
  have h1 : l.take (j + 1 + 1) = l.take (j + 1) ++ [x] := by rw [List.take_add_one, hx]; rfl
  have h2 : (rs (l.take (j + 1))).2 = a.1 := by
    rw [List.take_add_one, ha]
    exact congrArg (·.2) (rs_snoc (l.take j) a)
  rw [rise] at hr
  rw [rise, h1, rs_snoc, step, hr, h2]
  rfl
theorem str_append (a b : List Nat) : str (a ++ b) = str a ++ str b := by
  unfold str strOfNums
  apply ByteArray.ext
  apply Array.toList_inj.1
  simp
theorem ent_str (q : ByteArray) (y : Nat) (X : List Nat) : str (X ++ ent (q, (y : Int))) = ((str X ++ str [q.size]) ++ q) ++ str [y] := by
  have h : X ++ ent (q, (y : Int)) = ((X ++ [q.size]) ++ nums q) ++ [y] := by simp [ent]
  rw [h, str_append, str_append, str_append, str_nums]
theorem not_ok {l : List E} (h : rise l = false ∨ ∃ k, 120 < (bytes (l.take k)).length) : ok l = false ∧ put l = { data := #[] } := by
  have h1 : ok l = false := by
    rcases h with h | ⟨k, h⟩
    · simp [ok, h]
    · have := bytes_take l k
      simp [ok]
      intro _
      omega
  exact ⟨h1, by rw [put, h1]; rfl⟩
theorem yes_ok {l : List E} (h : rise l = true) (k : (bytes l).length ≤ 120) : ok l = true ∧ put l = str (bytes l) := by
  have h1 : ok l = true := by simp [ok, h, k]
  exact ⟨h1, by rw [put, h1]; rfl⟩
end PD

set_option maxRecDepth 100000 in
set_option maxHeartbeats 8000000 in
theorem rput_any (v : Value) (l : List E) (w : World) (h : Es w v l) : Calls Tryz.prog 123 #[v] w fun e w' => e = .returned (.tuple #[.string (PD.put l), .bool (PD.ok l)]) ∧ Below w.heap.size w w' := by
  obtain ⟨A, c, rfl⟩ := h.form
  have hl := h.2.2
  have hno := @PD.not_ok l
  have hyes := @PD.yes_ok l
  obtain ⟨f, hf⟩ : ∃ f, PD.ok l = f := ⟨_, rfl⟩
  obtain ⟨p, hp⟩ : ∃ p, PD.put l = p := ⟨_, rfl⟩
  rw [hf, hp] at hno hyes
  rw [hf, hp]
  generalize hL : l.length = L at *
  have HL := Lib.hid hL
  have HS := Lib.hid h
  have HNO := Lib.hid hno
  have HYES := Lib.hid hyes
  clear h hL hno hyes hf hp
  go_enter Tryz.func123, Tryz.ntmps123
  go_wp2
  go_loopw [4, 5, 6] (fun s i x6 wr => ∃ k : Nat, k ≤ L ∧ i = .int .i64 (k : Int) ∧ s = .string (str (PD.bytes (l.take k))) ∧ PD.rise (l.take k) = true ∧ (PD.bytes (l.take k)).length ≤ 128 ∧ Below w.heap.size w wr) (fun _ i _ _ => L - (intOf i).toNat)
  case atStart => exact ⟨0, Nat.zero_le _, rfl, rfl, rfl, by simp [PD.bytes], Below.refl _ _⟩
  case round =>
    obtain ⟨k, hk, rfl, rfl, hri, hby, hB⟩ := hrel
    by_cases hlt : k < L
    · obtain ⟨b0, o0, rfl, hb0, hcell0⟩ := HS.out.at (by rw [HL.out]; omega)
      have hcell : ∀ W, Below w.heap.size w W → ∀ j x, l[j]? = some x → W.cell? ⟨b0, o0 + j * 2, none⟩ = some (.string x.1) ∧ W.cell? ⟨b0, o0 + j * 2 + 1, none⟩ = some (.int .i64 x.2) := fun W hW j x hj => ⟨(hW.cell hb0).trans (hcell0 j x hj).1, (hW.cell hb0).trans (hcell0 j x hj).2⟩
      have HC := Lib.hid hcell
      obtain ⟨x, hx⟩ : ∃ x, l[k]? = some x := ⟨_, List.getElem?_eq_getElem (by rw [HL.out]; omega)⟩
      obtain ⟨g0, g1⟩ := hcell wr hB k x hx
      have hxf := HS.out.2.1 x (List.mem_of_getElem? hx)
      have hsn : PD.bytes (l.take (k + 1)) = PD.bytes (l.take k) ++ PD.ent x := by
        rw [List.take_add_one, hx]; exact PD.bytes_snoc _ _
      have hps : str (PD.bytes (l.take k)) = str (PD.bytes (l.take k)) := rfl
      have hbs := PD.str_size (PD.bytes (l.take k))
      obtain ⟨S, hSS⟩ : ∃ S, str (PD.bytes (l.take k)) = S := ⟨_, rfl⟩
      rw [hSS] at hbs ⊢
      have HPS := Lib.hid hSS
      have hS128 : S.size ≤ 128 := by omega
      have hfr := fun (e : PD.rise (l.take (k + 1)) = false) => PD.rise_front e
      have hx' := hx
      obtain ⟨q, z⟩ := x
      dsimp only at g0 g1 hxf
      have ho := fun W => rown_big q W hxf.1
      have hsn' : ∀ y : Nat, z = (y : Int) → PD.bytes (l.take (k + 1)) = PD.bytes (l.take k) ++ PD.ent (q, (y : Int)) := fun y e => by rw [← e]; exact hsn
      have hbx := Bx.new wr 75 #[.string { data := #[] }, .int .i64 0]
      have hb7 := hB.alloc hB.size (.cells #[.string { data := #[] }, .int .i64 0] 75)
      obtain ⟨w7, hw7⟩ : ∃ w7, wr.alloc (.cells #[.string { data := #[] }, .int .i64 0] 75) = w7 := ⟨_, rfl⟩
      have hg6 := hB.size
      obtain ⟨g, hg⟩ : ∃ g, wr.heap.size = g := ⟨_, rfl⟩
      rw [hw7] at hbx hb7
      rw [hg] at hbx hg6
      have hbx8 : Bx ((w7.setCell ⟨g, 0, none⟩ (.string q)).setCell ⟨g, 1, none⟩ (.int .i64 z)) g 75 #[.string q, .int .i64 z] := (hbx.set 0 (.string q)).set 1 (.int .i64 z)
      have hb8 := (hb7.setCell (p := ⟨g, 0, none⟩) hg6 (.string q)).setCell (p := ⟨g, 1, none⟩) hg6 (.int .i64 z)
      obtain ⟨c0, c1, f0, f1⟩ := hbx.two
      have HRI := Lib.hid hri
      have HFR := Lib.hid hfr
      clear hcell hcell0 hsn hps hbs hSS hfr hbx hb7 hB hb0 hx hri
      go_upto_region 6 with fail
      generalize (w7.setCell ⟨g, 0, none⟩ (.string q)).setCell ⟨g, 1, none⟩ (.int .i64 z) = w8 at *
      clear c0 c1 f0 f1 hw7 hg hg6 g0 g1
      obtain ⟨c0, c1⟩ := hbx8.pair
      have hnr : PD.may (q, z) = false → PD.rise l = false := by
        intro e
        rcases k with _ | j
        · exact HFR.out ((PD.rise_first hx').trans e)
        · obtain ⟨a, ha⟩ : ∃ a, l[j]? = some a := ⟨_, List.getElem?_eq_getElem (by rw [HL.out]; omega)⟩
          exact HFR.out (by rw [PD.rise_next HRI.out ha hx', e]; rfl)
      have HX := Lib.hid hx'
      clear hx'
      cases how : PN.own q.data.toList with
      | false =>
        rw [how] at ho
        have hm : PD.may (q, z) = false := by simp [PD.may, how]
        have HX1 := Lib.hid (HNO.out (.inl (hnr hm))).1
        have HX2 := Lib.hid (HNO.out (.inl (hnr hm))).2
        clear HNO HYES HFR HRI HS HX HC
        go_wp2_with fail
        go_quiet (first | (go_at_call 120; exact Calls.quiet_of_same (ho _)))
        go_wp2
        go_ret2
        rw [HX1.out, HX2.out]
        exact ⟨rfl, drewN_below hb8 _⟩
      | true =>
        rw [how] at ho
        by_cases hz1 : z < 1
        · have hm : PD.may (q, z) = false := by simp [PD.may]; intro _ h; omega
          have HX1 := Lib.hid (HNO.out (.inl (hnr hm))).1
          have HX2 := Lib.hid (HNO.out (.inl (hnr hm))).2
          clear HNO HYES HFR HRI HS HX HC
          go_wp2_with fail
          go_quiet (first | (go_at_call 120; exact Calls.quiet_of_same (ho _)))
          go_wp2
          go_ret2
          rw [HX1.out, HX2.out]
          exact ⟨rfl, drewN_below hb8 _⟩
        · by_cases hz9 : 9 < z
          · have hm : PD.may (q, z) = false := by simp [PD.may]; intro _ _; omega
            have hd1 : decide (z < 1) = false := by simpa using hz1
            have hd9 : decide (9 < z) = true := by simpa using hz9
            clear hz1 hz9
            have HX1 := Lib.hid (HNO.out (.inl (hnr hm))).1
            have HX2 := Lib.hid (HNO.out (.inl (hnr hm))).2
            clear HNO HYES HFR HRI HS HX HC
            go_wp2_with fail
            go_quiet (first | (go_at_call 120; exact Calls.quiet_of_same (ho _)))
            go_wp2
            go_ret2
            rw [HX1.out, HX2.out]
            exact ⟨rfl, drewN_below hb8 _⟩
          · obtain ⟨y, rfl⟩ := Int.eq_ofNat_of_zero_le (show 0 ≤ z by omega)
            have hmay : PD.may (q, (y : Int)) = true := by simp [PD.may, how]; omega
            have HSN := Lib.hid (hsn' y rfl)
            obtain ⟨m1, m2, m3, m4⟩ := PD.may_size hmay
            dsimp only at m1 m2 m3 m4
            have hsw : IntKind.u8.wrap (q.size : Int) = (q.size : Int) := by rw [IntKind.wrap_u8]; omega
            have hsy : IntKind.u8.wrap (y : Int) = (y : Int) := by rw [IntKind.wrap_u8]; omega
            have hsm : (q.size : Int) % 256 = (q.size : Int) := by omega
            have hsn2 : (y : Int) % 256 = (y : Int) := by omega
            have hd1 : decide ((y : Int) < 1) = false := by simp; omega
            have hd9 : decide ((9 : Int) < (y : Int)) = false := by simp; omega
            clear hsn' hxf how hz1 hz9
            rcases k with _ | j
            · have hs0 : S.size = 0 := by rw [← HPS.out, PD.str_size]; rfl
              have h120 : decide ((120 : Int) < (S.size : Int)) = false := by simp; omega
              have hk0 : decide ((0 : Int) < ((0 : Nat) : Int)) = false := rfl
              have hrn := (PD.rise_first HX.out).trans hmay
              have HRN2 := Lib.hid hrn
              clear HNO HYES HFR HRI HS HX HC hrn
              go_wp2_with fail
              go_quiet (first | (go_at_call 120; exact Calls.quiet_of_same (ho _)))
              have hb9 := drewN_below hb8 nq
              have hbx9 := hbx8.on (drewN_below (Below.refl _ _) nq)
              clear hb8 hbx8 c0 c1
              generalize w8.drewN nq = w9 at *
              obtain ⟨c0, c1⟩ := hbx9.pair
              obtain ⟨w10, hw10⟩ : ∃ w10, w9.alloc (.cells #[.int .u8 (q.size : Int)] 5) = w10 := ⟨_, rfl⟩
              have hst1 := (Tx.new w9 #[.int .u8 (q.size : Int)] (0, 0) 1 1 w9.heap.size rfl [q.size] rfl rfl (by simp; omega) (by simp)).string
              rw [hw10] at hst1
              have hb10 := hb9.alloc hb9.size (.cells #[.int .u8 (q.size : Int)] 5)
              have hbx10 := hbx9.on (al w9 (.cells #[.int .u8 (q.size : Int)] 5))
              rw [hw10] at hb10 hbx10
              obtain ⟨d0, d1⟩ := hbx10.pair
              obtain ⟨w11, hw11⟩ : ∃ w11, w10.alloc (.cells #[.int .u8 (y : Int)] 5) = w11 := ⟨_, rfl⟩
              have hst2 := (Tx.new w10 #[.int .u8 (y : Int)] (0, 0) 1 1 w10.heap.size rfl [y] rfl rfl (by simp; omega) (by simp)).string
              rw [hw11] at hst2
              have hb11 := hb10.alloc hb10.size (.cells #[.int .u8 (y : Int)] 5)
              rw [hw11] at hb11
              obtain ⟨P1, hP1⟩ : ∃ P, str [q.size] = P := ⟨_, rfl⟩
              obtain ⟨P2, hP2⟩ : ∃ P, str [y] = P := ⟨_, rfl⟩
              have hz1 : P1.size = 1 := by rw [← hP1, PD.str_size]; rfl
              have hz2 : P2.size = 1 := by rw [← hP2, PD.str_size]; rfl
              rw [hP1] at hst1
              rw [hP2] at hst2
              obtain ⟨S1, hS1⟩ : ∃ S1, S ++ P1 = S1 := ⟨_, rfl⟩
              obtain ⟨S2, hS2⟩ : ∃ S2, S1 ++ q = S2 := ⟨_, rfl⟩
              have hs1 : S1.size = S.size + 1 := by rw [← hS1, ByteArray.size_append, hz1]
              have hs2 : S2.size = S.size + 1 + q.size := by rw [← hS2, ByteArray.size_append, hs1]
              have hfin : S2 ++ P2 = str (PD.bytes (l.take (0 + 1))) := by
                rw [HSN.out, PD.ent_str q y, HPS.out, ← hS2, ← hS1, ← hP1, ← hP2]
              have HFIN := Lib.hid hfin
              have hl1 : ¬ (9223372036854775807 : Nat) < S.size + P1.size := by omega
              have hl2 : ¬ (9223372036854775807 : Nat) < S1.size + q.size := by omega
              have hl3 : ¬ (9223372036854775807 : Nat) < S2.size + P2.size := by omega
              have hby : (PD.bytes (l.take (0 + 1))).length ≤ 128 := by
                rw [HSN.out, List.length_append, PD.ent_length]
                have := PD.str_size (PD.bytes (l.take 0))
                rw [HPS.out] at this
                simp only
                omega
              have HBY := Lib.hid hby
              have hkL := hlt
              clear hfin hP1 hP2 hb9 hbx9 hb10 hbx10 hby hs1 hs2 hnr hmay hd1 hd9 h120
              go_wp2
              go_roundw
              case rel => exact ⟨0 + 1, by omega, by go_num, by rw [HFIN.out], HRN2.out, HBY.out, hb11⟩
              case measure => simp [intOf]; omega
            · obtain ⟨a, ha⟩ : ∃ a, l[j]? = some a := ⟨_, List.getElem?_eq_getElem (by rw [HL.out]; omega)⟩
              obtain ⟨e0, e1⟩ := HC.out w8 hb8 j a ha
              have hrn := PD.rise_next HRI.out ha HX.out
              rw [hmay, Bool.true_and] at hrn
              obtain ⟨sa, za⟩ := a
              dsimp only at e0 e1 hrn
              have hw1 : IntKind.i64.wrap (j : Int) = j := by rw [IntKind.wrap_i64]; omega
              have hj0 : decide ((0 : Int) < (j : Int) + 1) = true := by simp
              have hjL : j < L := by omega
              clear ha e1
              cases hlt2 : PD.lt sa q with
              | false =>
                rw [hlt2] at hrn
                rw [PD.lt] at hlt2
                have HX1 := Lib.hid (HNO.out (.inl (HFR.out hrn))).1
                have HX2 := Lib.hid (HNO.out (.inl (HFR.out hrn))).2
                clear HNO HYES HFR HRI HS HX HC
                go_wp2_with fail
                go_quiet (first | (go_at_call 120; exact Calls.quiet_of_same (ho _)))
                go_wp2
                go_ret2
                rw [HX1.out, HX2.out]
                exact ⟨rfl, drewN_below hb8 _⟩
              | true =>
                rw [hlt2] at hrn
                rw [PD.lt] at hlt2
                by_cases h120' : (120 : Int) < (S.size : Int)
                · have h120 : decide ((120 : Int) < (S.size : Int)) = true := by simpa using h120'
                  have HX1 := Lib.hid (HNO.out (.inr ⟨j + 1, by rw [← PD.str_size, HPS.out]; omega⟩)).1
                  have HX2 := Lib.hid (HNO.out (.inr ⟨j + 1, by rw [← PD.str_size, HPS.out]; omega⟩)).2
                  clear HNO HYES HFR HRI HS HX HC
                  go_wp2_with fail
                  go_quiet (first | (go_at_call 120; exact Calls.quiet_of_same (ho _)))
                  go_wp2
                  go_ret2
                  rw [HX1.out, HX2.out]
                  exact ⟨rfl, drewN_below hb8 _⟩
                · have h120 : decide ((120 : Int) < (S.size : Int)) = false := by simpa using h120'
                  have hS120 : S.size ≤ 120 := by omega
                  clear h120'
                  have HRN2 := Lib.hid hrn
                  clear HNO HYES HFR HRI HS HX HC hrn
                  go_wp2_with fail
                  go_quiet (first | (go_at_call 120; exact Calls.quiet_of_same (ho _)))
                  have hb9 := drewN_below hb8 nq
                  have hbx9 := hbx8.on (drewN_below (Below.refl _ _) nq)
                  clear hb8 hbx8 c0 c1 e0
                  generalize w8.drewN nq = w9 at *
                  obtain ⟨c0, c1⟩ := hbx9.pair
                  obtain ⟨w10, hw10⟩ : ∃ w10, w9.alloc (.cells #[.int .u8 (q.size : Int)] 5) = w10 := ⟨_, rfl⟩
                  have hst1 := (Tx.new w9 #[.int .u8 (q.size : Int)] (0, 0) 1 1 w9.heap.size rfl [q.size] rfl rfl (by simp; omega) (by simp)).string
                  rw [hw10] at hst1
                  have hb10 := hb9.alloc hb9.size (.cells #[.int .u8 (q.size : Int)] 5)
                  have hbx10 := hbx9.on (al w9 (.cells #[.int .u8 (q.size : Int)] 5))
                  rw [hw10] at hb10 hbx10
                  obtain ⟨d0, d1⟩ := hbx10.pair
                  obtain ⟨w11, hw11⟩ : ∃ w11, w10.alloc (.cells #[.int .u8 (y : Int)] 5) = w11 := ⟨_, rfl⟩
                  have hst2 := (Tx.new w10 #[.int .u8 (y : Int)] (0, 0) 1 1 w10.heap.size rfl [y] rfl rfl (by simp; omega) (by simp)).string
                  rw [hw11] at hst2
                  have hb11 := hb10.alloc hb10.size (.cells #[.int .u8 (y : Int)] 5)
                  rw [hw11] at hb11
                  obtain ⟨P1, hP1⟩ : ∃ P, str [q.size] = P := ⟨_, rfl⟩
                  obtain ⟨P2, hP2⟩ : ∃ P, str [y] = P := ⟨_, rfl⟩
                  have hz1 : P1.size = 1 := by rw [← hP1, PD.str_size]; rfl
                  have hz2 : P2.size = 1 := by rw [← hP2, PD.str_size]; rfl
                  rw [hP1] at hst1
                  rw [hP2] at hst2
                  obtain ⟨S1, hS1⟩ : ∃ S1, S ++ P1 = S1 := ⟨_, rfl⟩
                  obtain ⟨S2, hS2⟩ : ∃ S2, S1 ++ q = S2 := ⟨_, rfl⟩
                  have hs1 : S1.size = S.size + 1 := by rw [← hS1, ByteArray.size_append, hz1]
                  have hs2 : S2.size = S.size + 1 + q.size := by rw [← hS2, ByteArray.size_append, hs1]
                  have hfin : S2 ++ P2 = str (PD.bytes (l.take ((j + 1) + 1))) := by
                    rw [HSN.out, PD.ent_str q y, HPS.out, ← hS2, ← hS1, ← hP1, ← hP2]
                  have HFIN := Lib.hid hfin
                  have hl1 : ¬ (9223372036854775807 : Nat) < S.size + P1.size := by omega
                  have hl2 : ¬ (9223372036854775807 : Nat) < S1.size + q.size := by omega
                  have hl3 : ¬ (9223372036854775807 : Nat) < S2.size + P2.size := by omega
                  have hby : (PD.bytes (l.take ((j + 1) + 1))).length ≤ 128 := by
                    rw [HSN.out, List.length_append, PD.ent_length]
                    have := PD.str_size (PD.bytes (l.take (j + 1)))
                    rw [HPS.out] at this
                    simp only
                    omega
                  have HBY := Lib.hid hby
                  have hkL := hlt
                  clear hfin hP1 hP2 hb9 hbx9 hb10 hbx10 hby hs1 hs2 hnr hmay hd1 hd9 h120
                  go_wp2
                  go_roundw
                  case rel => exact ⟨(j + 1) + 1, by omega, by go_num, by rw [HFIN.out], HRN2.out, HBY.out, hb11⟩
                  case measure => simp [intOf]; omega
    · have hkn : k = L := by omega
      subst hkn
      rw [List.take_of_length_le (by rw [HL.out]; exact Nat.le_refl _)] at hri ⊢
      have hbs := PD.str_size (PD.bytes l)
      by_cases h120 : (PD.bytes l).length ≤ 120
      · obtain ⟨e1, e2⟩ := HYES.out hri h120
        have E1 := Lib.hid e1
        generalize str (PD.bytes l) = S at *
        have E2 := Lib.hid e2
        have h1 : ¬ (120 : Int) < (S.size : Int) := by omega
        clear HNO HYES hri hbs hby HL HS e1 e2
        go_wp2
        go_ret2
        rw [E1.out, E2.out]
        exact ⟨rfl, hB⟩
      · obtain ⟨e1, e2⟩ := HNO.out (.inr ⟨k, by rw [List.take_of_length_le (by rw [HL.out]; exact Nat.le_refl _)]; omega⟩)
        have E1 := Lib.hid e1
        have E2 := Lib.hid e2
        generalize str (PD.bytes l) = S at *
        have h1 : (120 : Int) < (S.size : Int) := by omega
        clear HNO HYES hri hbs hby HL HS e1 e2
        go_wp2
        go_ret2
        rw [E1.out, E2.out]
        exact ⟨rfl, hB⟩
end Go.Proofs.YtdnobplhfbgbaaaGreatDoor
