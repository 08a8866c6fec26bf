/-
  The walk of DirForms.
-/
import Derived.Test.YtckkljiaicmljaaQi
namespace Go.Proofs.Ytckkljiaicmljaa
open Go.RowKit Go.Joins

namespace BG
def b0 : List E := [({ data := #[] }, 1)]
def b1 : List E := [({ data := #[97] }, 0)]
def b2 : List E := [({ data := #[97] }, 10)]
def b3 : List E := [({ data := #[98] }, 1), ({ data := #[97] }, 2)]
def b4 : List E := [({ data := #[97] }, 1), ({ data := #[97] }, 2)]
def b5 : List E := [({ data := #[116, 111, 111, 108, 111, 110, 103] }, 1)]
def b6 : List E := [({ data := #[97, 47] }, 1)]
def bads : List (List E) := [b0, b1, b2, b3, b4, b5, b6]
theorem bads_no : ∀ l ∈ bads, PD.ok l = false := by decide +kernel
def texts : List ByteArray := [{ data := #[1] }, { data := #[1, 97] }, { data := #[0, 1] }, { data := #[1, 97, 0] }, { data := #[1, 98, 1, 1, 97, 1] }, { data := #[7, 97, 98, 99, 100, 101, 102, 103, 1] }, { data := #[97] }]
theorem texts_no : ∀ s ∈ texts, PD.tk s = false := by decide +kernel
theorem nil_tk : PD.tk { data := #[] } = true := by decide +kernel
theorem nil_tl : PD.tl { data := #[] } = [] := by decide +kernel
def n5 : ByteArray := { data := #[110, 110, 110, 110, 110] }
def nth (j : Nat) : E := (n5 ++ str [97 + j], 1)
def many (k : Nat) : List E := (List.range k).map nth
theorem many_length (k : Nat) : (many k).length = k := by simp [many]
theorem many_snoc (k : Nat) : many (k + 1) = many k ++ [nth k] := by simp [many, List.range_succ]
theorem many_ok : PD.ok (many 15) = true := by decide +kernel
theorem many_size : (PD.put (many 15)).size = 120 := by decide +kernel
theorem many_more : PD.ok (many 15 ++ [({ data := #[122] }, 1)]) = false := by decide +kernel
theorem nine_ok : PD.ok [({ data := #[126, 57] }, 9)] = true := by decide +kernel
theorem many_fit (k : Nat) (h : k ≤ 15) : Fit (many k) := by
  refine ⟨fun e he => ?_, by rw [many_length]; omega⟩
  obtain ⟨j, hj, rfl⟩ := List.mem_map.1 he
  have : (nth j).1.size = 6 := by
    have h1 : (nth j).1.size = n5.size + (str [97 + j]).size := ByteArray.size_append
    rw [h1, PD.str_size]; rfl
  refine ⟨by omega, ?_⟩
  show I64 1
  unfold I64
  omega
theorem more_fit : Fit (many 15 ++ [({ data := #[122] }, 1)]) := by
  have h := many_fit 15 (by omega)
  refine ⟨fun e he => ?_, by rw [List.length_append, many_length]; decide⟩
  rcases List.mem_append.1 he with he | he
  · exact h.1 e he
  · simp at he
    subst he
    exact ⟨by decide, by unfold I64; decide⟩
end BG
theorem ownsRow_on {w w' : World} {base n size : Nat} {e : TypeId} {v : Value} {xs : List Value} (h : w.ownsRow base e size v n xs) (hb : Below w.heap.size w w') : w'.ownsRow base e size v n xs := by
  refine ⟨h.1, ?_⟩
  rcases h.2 with h0 | ⟨g, cap, cur, hv, hg, hh, hr⟩
  · exact .inl h0
  · exact .inr ⟨g, cap, cur, hv, hg, Bx.on (show Bx w g e cur from hh) hb, hr⟩
theorem Ss.cellAt {w : World} {g n c : Nat} {ss : List ByteArray} (h : Ss w (.slice (some ⟨g, 0, none⟩) n c) ss) {j : Nat} {x : ByteArray} (hj : ss[j]? = some x) : w.cell? ⟨g, j, none⟩ = some (.string x) := by
  obtain ⟨A, c', hv, _, hA⟩ := h.1
  injection hv with e1 _ _
  have hlt := (List.getElem?_eq_some_iff.1 hj).1
  obtain ⟨b, o, e, _, hc⟩ := hA (by omega)
  rw [e] at e1
  injection e1 with e1
  injection e1 with e1 e2 _
  subst e1 e2
  have := hc j (by omega)
  rw [Nat.zero_add, List.getElem?_map, hj] at this
  exact this
theorem Es.alloc {w : World} {v : Value} {l : List E} (h : Es w v l) (o : Obj) : Es (w.alloc o) v l := h.below (al _ _)
def badRows (g : Nat) : List (Value × List E) := [(.slice (some ⟨g, 0, none⟩) 1 1, BG.b0), (.slice (some ⟨g + 1, 0, none⟩) 1 1, BG.b1), (.slice (some ⟨g + 1 + 1, 0, none⟩) 1 1, BG.b2), (.slice (some ⟨g + 1 + 1 + 1, 0, none⟩) 2 2, BG.b3), (.slice (some ⟨g + 1 + 1 + 1 + 1, 0, none⟩) 2 2, BG.b4), (.slice (some ⟨g + 1 + 1 + 1 + 1 + 1, 0, none⟩) 1 1, BG.b5), (.slice (some ⟨g + 1 + 1 + 1 + 1 + 1 + 1, 0, none⟩) 1 1, BG.b6)]
def bw0 (w : World) : World := w
def bw1 (w : World) : World := (bw0 w).alloc (.cells #[.string { data := #[] }, .int .i64 1] 26)
def bw2 (w : World) : World := (bw1 w).alloc (.cells #[.string { data := #[97] }, .int .i64 0] 26)
def bw3 (w : World) : World := (bw2 w).alloc (.cells #[.string { data := #[97] }, .int .i64 10] 26)
def bw4 (w : World) : World := (bw3 w).alloc (.cells #[.string { data := #[98] }, .int .i64 1, .string { data := #[97] }, .int .i64 2] 26)
def bw5 (w : World) : World := (bw4 w).alloc (.cells #[.string { data := #[97] }, .int .i64 1, .string { data := #[97] }, .int .i64 2] 26)
def bw6 (w : World) : World := (bw5 w).alloc (.cells #[.string { data := #[116, 111, 111, 108, 111, 110, 103] }, .int .i64 1] 26)
def bw7 (w : World) : World := (bw6 w).alloc (.cells #[.string { data := #[97, 47] }, .int .i64 1] 26)
theorem bw_size0 (w : World) : (bw0 w).heap.size = w.heap.size := by simp [bw0]
theorem bw_size1 (w : World) : (bw1 w).heap.size = w.heap.size + 1 := by simp [bw0, bw1]
theorem bw_size2 (w : World) : (bw2 w).heap.size = w.heap.size + 1 + 1 := by simp [bw0, bw1, bw2]
theorem bw_size3 (w : World) : (bw3 w).heap.size = w.heap.size + 1 + 1 + 1 := by simp [bw0, bw1, bw2, bw3]
theorem bw_size4 (w : World) : (bw4 w).heap.size = w.heap.size + 1 + 1 + 1 + 1 := by simp [bw0, bw1, bw2, bw3, bw4]
theorem bw_size5 (w : World) : (bw5 w).heap.size = w.heap.size + 1 + 1 + 1 + 1 + 1 := by simp [bw0, bw1, bw2, bw3, bw4, bw5]
theorem bw_size6 (w : World) : (bw6 w).heap.size = w.heap.size + 1 + 1 + 1 + 1 + 1 + 1 := by simp [bw0, bw1, bw2, bw3, bw4, bw5, bw6]
theorem bw_size7 (w : World) : (bw7 w).heap.size = w.heap.size + 1 + 1 + 1 + 1 + 1 + 1 + 1 := by simp [bw0, bw1, bw2, bw3, bw4, bw5, bw6, bw7]
theorem badRows_at (w : World) : ∀ p ∈ badRows w.heap.size, Es (bw7 w) p.1 p.2 := by
  have h0 : Es (bw1 w) (.slice (some ⟨w.heap.size, 0, none⟩) 1 1) BG.b0 := Es.new (bw0 w) #[.string { data := #[] }, .int .i64 1] (0, 0) 1 1 _ (bw_size0 w).symm BG.b0 rfl rfl (BG.fit _ (by decide) (by decide))
  have h1 : Es (bw2 w) (.slice (some ⟨w.heap.size + 1, 0, none⟩) 1 1) BG.b1 := Es.new (bw1 w) #[.string { data := #[97] }, .int .i64 0] (0, 0) 1 1 _ (bw_size1 w).symm BG.b1 rfl rfl (BG.fit _ (by decide) (by decide))
  have h2 : Es (bw3 w) (.slice (some ⟨w.heap.size + 1 + 1, 0, none⟩) 1 1) BG.b2 := Es.new (bw2 w) #[.string { data := #[97] }, .int .i64 10] (0, 0) 1 1 _ (bw_size2 w).symm BG.b2 rfl rfl (BG.fit _ (by decide) (by decide))
  have h3 : Es (bw4 w) (.slice (some ⟨w.heap.size + 1 + 1 + 1, 0, none⟩) 2 2) BG.b3 := Es.new (bw3 w) #[.string { data := #[98] }, .int .i64 1, .string { data := #[97] }, .int .i64 2] (0, 0) 2 2 _ (bw_size3 w).symm BG.b3 rfl rfl (BG.fit _ (by decide) (by decide))
  have h4 : Es (bw5 w) (.slice (some ⟨w.heap.size + 1 + 1 + 1 + 1, 0, none⟩) 2 2) BG.b4 := Es.new (bw4 w) #[.string { data := #[97] }, .int .i64 1, .string { data := #[97] }, .int .i64 2] (0, 0) 2 2 _ (bw_size4 w).symm BG.b4 rfl rfl (BG.fit _ (by decide) (by decide))
  have h5 : Es (bw6 w) (.slice (some ⟨w.heap.size + 1 + 1 + 1 + 1 + 1, 0, none⟩) 1 1) BG.b5 := Es.new (bw5 w) #[.string { data := #[116, 111, 111, 108, 111, 110, 103] }, .int .i64 1] (0, 0) 1 1 _ (bw_size5 w).symm BG.b5 rfl rfl (BG.fit _ (by decide) (by decide))
  have h6 : Es (bw7 w) (.slice (some ⟨w.heap.size + 1 + 1 + 1 + 1 + 1 + 1, 0, none⟩) 1 1) BG.b6 := Es.new (bw6 w) #[.string { data := #[97, 47] }, .int .i64 1] (0, 0) 1 1 _ (bw_size6 w).symm BG.b6 rfl rfl (BG.fit _ (by decide) (by decide))
  intro p hp
  simp only [badRows, List.mem_cons, List.not_mem_nil, or_false] at hp
  rcases hp with rfl | rfl | rfl | rfl | rfl | rfl | rfl
  · exact ((((((h0).alloc _).alloc _).alloc _).alloc _).alloc _).alloc _
  · exact (((((h1).alloc _).alloc _).alloc _).alloc _).alloc _
  · exact ((((h2).alloc _).alloc _).alloc _).alloc _
  · exact (((h3).alloc _).alloc _).alloc _
  · exact ((h4).alloc _).alloc _
  · exact (h5).alloc _
  · exact h6
theorem badRows_no (g : Nat) : ∀ p ∈ badRows g, PD.ok p.2 = false := by
  intro p hp
  refine BG.bads_no p.2 ?_
  simp only [badRows, List.mem_cons, List.not_mem_nil, or_false] at hp
  rcases hp with rfl | rfl | rfl | rfl | rfl | rfl | rfl <;> simp [BG.bads]
theorem badRows_on (w : World) : Below w.heap.size w (bw7 w) := by
  have h : ∀ o W, Below w.heap.size w W → Below w.heap.size w (W.alloc o) := fun o W hW => hW.alloc hW.size o
  exact (h _ _ (h _ _ (h _ _ (h _ _ (h _ _ (h _ _ (h _ _ (Below.refl _ _))))))))

set_option maxRecDepth 100000 in
set_option maxHeartbeats 8000000 in
theorem forms_any (w : World) : Calls Try.prog 5 #[] w fun e w' => e = .returned (.bool true) ∧ Below w.heap.size w w' := by
  obtain ⟨i0, hi, hz0, hz1, hz2⟩ := info_parts Try.info26
  have hb := begun_any w
  go_enter Try.func5, Try.ntmps5
  go_wp2_with fail
  refine hb.mono ?_
  rintro e w1 ⟨rfl, hB1⟩
  clear hb
  have hL := Ll.new (bw7 w1) #[.slice (some ⟨w1.heap.size, 0, none⟩) 1 1, .slice (some ⟨w1.heap.size + 1, 0, none⟩) 1 1, .slice (some ⟨w1.heap.size + 1 + 1, 0, none⟩) 1 1, .slice (some ⟨w1.heap.size + 1 + 1 + 1, 0, none⟩) 2 2, .slice (some ⟨w1.heap.size + 1 + 1 + 1 + 1, 0, none⟩) 2 2, .slice (some ⟨w1.heap.size + 1 + 1 + 1 + 1 + 1, 0, none⟩) 1 1, .slice (some ⟨w1.heap.size + 1 + 1 + 1 + 1 + 1 + 1, 0, none⟩) 1 1] (0, 0) 7 7 (w1.heap.size + 1 + 1 + 1 + 1 + 1 + 1 + 1) (bw_size7 w1).symm (badRows w1.heap.size) rfl rfl (badRows_at w1) (by decide)
  have hno := badRows_no w1.heap.size
  have hbl : (badRows w1.heap.size).length = 7 := rfl
  have hB2 := hB1.trans ((badRows_on w1).mono hB1.size)
  have hB3 := hB2.alloc hB2.size (.cells #[.slice (some ⟨w1.heap.size, 0, none⟩) 1 1, .slice (some ⟨w1.heap.size + 1, 0, none⟩) 1 1, .slice (some ⟨w1.heap.size + 1 + 1, 0, none⟩) 1 1, .slice (some ⟨w1.heap.size + 1 + 1 + 1, 0, none⟩) 2 2, .slice (some ⟨w1.heap.size + 1 + 1 + 1 + 1, 0, none⟩) 2 2, .slice (some ⟨w1.heap.size + 1 + 1 + 1 + 1 + 1, 0, none⟩) 1 1, .slice (some ⟨w1.heap.size + 1 + 1 + 1 + 1 + 1 + 1, 0, none⟩) 1 1] 23)
  simp only [bw0, bw1, bw2, bw3, bw4, bw5, bw6, bw7] at hL hB3
  generalize badRows w1.heap.size = rows at *
  go_wp2
  generalize hw2 : World.alloc (World.alloc (World.alloc (World.alloc (World.alloc (World.alloc (World.alloc (World.alloc w1 _) _) _) _) _) _) _) _ = w2 at *
  generalize w1.heap.size + 1 + 1 + 1 + 1 + 1 + 1 + 1 = g7 at *
  clear hB2 hB1 hw2
  have HL := Lib.hid hL
  have HNO := Lib.hid hno
  have HBL := Lib.hid hbl
  clear hL hno hbl
  have hz2' : Below w2.heap.size w2 w2 := Below.refl _ _
  go_loopw [2, 3, 4] (fun i a3 a4 wr => ∃ k : Nat, k ≤ 7 ∧ i = .int .i64 (k : Int) ∧ Below w2.heap.size w2 wr) (fun i _ _ _ => 7 - (intOf i).toNat)
  case atStart => exact ⟨0, Nat.zero_le _, rfl, hz2'⟩
  case round =>
    clear hz2'
    obtain ⟨k, hk, rfl, hBr⟩ := hrel
    by_cases hlt : k < 7
    · obtain ⟨p, hp⟩ : ∃ p, rows[k]? = some p := ⟨_, List.getElem?_eq_getElem (by rw [HBL.out]; omega)⟩
      have hLr := HL.out.below hBr
      obtain ⟨b0, o0, hA, _, hcell⟩ := hLr.at (by rw [HBL.out]; decide)
      injection hA with hA
      injection hA with h1 h2 _
      subst h1 h2
      have g0 := hcell k p hp
      have hE := hLr.2.1 p (List.mem_of_getElem? hp)
      have hq := HNO.out p (List.mem_of_getElem? hp)
      obtain ⟨u, m⟩ := p
      dsimp only at g0 hE hq
      rw [Nat.zero_add] at g0
      have c1 := put_any u m wr hE
      rw [hq] at c1
      obtain ⟨A3, c3, rfl⟩ := hE.form
      clear hcell hp hE hq hLr
      go_wp2_with fail
      refine c1.mono ?_
      rintro e w3 ⟨rfl, hB3'⟩
      clear c1
      go_wp2
      go_roundw
      case rel => exact ⟨k + 1, by omega, by go_num, hBr.trans (hB3'.mono hBr.size)⟩
      case measure => simp [intOf]; omega
    · have hB4 := hB3.trans (hBr.mono hB3.size)
      clear HL HNO HBL hB3
      have hT := Ss.new wr #[.string { data := #[1] }, .string { data := #[1, 97] }, .string { data := #[0, 1] }, .string { data := #[1, 97, 0] }, .string { data := #[1, 98, 1, 1, 97, 1] }, .string { data := #[7, 97, 98, 99, 100, 101, 102, 103, 1] }, .string { data := #[97] }] (0, 0) 7 7 wr.heap.size rfl BG.texts rfl rfl (by decide) (by decide)
      have hB5 := hB4.alloc hB4.size (.cells #[.string { data := #[1] }, .string { data := #[1, 97] }, .string { data := #[0, 1] }, .string { data := #[1, 97, 0] }, .string { data := #[1, 98, 1, 1, 97, 1] }, .string { data := #[7, 97, 98, 99, 100, 101, 102, 103, 1] }, .string { data := #[97] }] 9)
      clear hB4 hBr
      go_wp2
      generalize hw5 : World.alloc wr _ = w5 at *
      have HT := Lib.hid hT
      clear hT hw5
      have hz5 : Below w5.heap.size w5 w5 := Below.refl _ _
      go_loopw [6, 7, 8] (fun i a7 a8 wr => ∃ k : Nat, k ≤ 7 ∧ i = .int .i64 (k : Int) ∧ Below w5.heap.size w5 wr) (fun i _ _ _ => 7 - (intOf i).toNat)
      case atStart => exact ⟨0, Nat.zero_le _, rfl, hz5⟩
      case round =>
        clear hz5 hlt hk
        obtain ⟨k, hk, rfl, hBr⟩ := hrel
        by_cases hlt : k < 7
        · obtain ⟨x, hx⟩ : ∃ x, BG.texts[k]? = some x := ⟨_, List.getElem?_eq_getElem hlt⟩
          have hq := BG.texts_no x (List.mem_of_getElem? hx)
          have hg := (HT.out.below hBr).cellAt hx
          have c1 := take_any x wr
          rw [hq] at c1
          clear hx hq
          go_wp2_with fail
          refine c1.mono ?_
          rintro e w6 ⟨v6, rfl, hO6, _, hB6⟩
          obtain ⟨A6, c6, hv6, _⟩ := hO6.cap
          subst hv6
          clear c1 hO6
          go_wp2
          go_roundw
          case rel => exact ⟨k + 1, by omega, by go_num, hBr.trans (hB6.mono hBr.size)⟩
          case measure => simp [intOf]; omega
        · have hB6 := hB5.trans (hBr.mono hB5.size)
          clear HT hB5 hBr
          have c2 := take_any { data := #[] } wr
          rw [BG.nil_tk, BG.nil_tl] at c2
          go_wp2_with fail
          refine c2.mono ?_
          rintro e w7 ⟨v7, rfl, hO7, _, hB7⟩
          obtain ⟨A7, c7, hv7, _⟩ := hO7.cap
          subst hv7
          have hb7 := hB6.trans (hB7.mono hB6.size)
          clear c2 hO7 hB7 hB6
          go_wp2
          go_loopw [11, 12] (fun o i wr => ∃ k : Nat, k ≤ 15 ∧ i = .int .i64 (k : Int) ∧ Eo wr w.heap.size o (BG.many k) ∧ Below w.heap.size w wr) (fun _ i _ => 15 - (intOf i).toNat)
          case atStart => exact ⟨0, Nat.zero_le _, rfl, World.ownsRow_nil _ _ _ _, hb7⟩
          case round =>
            clear hb7 hlt hk
            obtain ⟨k, hk, rfl, hO, hB⟩ := hrel
            by_cases hlt : k < 15
            · obtain ⟨P, hP⟩ : ∃ P, str [97 + k] = P := ⟨_, rfl⟩
              have hPs : P.size = 1 := by rw [← hP, PD.str_size]; rfl
              have hst := (Tx.new wr #[.int .u8 ((97 + k : Nat) : Int)] (0, 0) 1 1 wr.heap.size rfl [97 + k] rfl rfl (by simp; omega) (by decide)).string
              rw [hP, show ((97 + k : Nat) : Int) = 97 + (k : Int) by omega] at hst
              have hwk : IntKind.i64.wrap (97 + (k : Int)) = 97 + (k : Int) := by rw [IntKind.wrap_i64]; omega
              have hwb : IntKind.u8.wrap (97 + (k : Int)) = 97 + (k : Int) := by rw [IntKind.wrap_u8]; omega
              have hnx : BG.many (k + 1) = BG.many k ++ [(BG.n5 ++ P, 1)] := by rw [BG.many_snoc, BG.nth, hP]
              have hll := BG.many_length k
              have HNX := Lib.hid hnx
              have HLL := Lib.hid hll
              have hO1 := hO
              unfold Eo at hO1
              rw [hll] at hO1
              obtain ⟨lm, hlm⟩ : ∃ lm, cs (BG.many k) = lm := ⟨_, rfl⟩
              rw [hlm] at hO1
              have HLM := Lib.hid hlm
              have hsz : ¬ (9223372036854775807 : Nat) < 5 + P.size := by omega
              clear hP hnx hll hlm hO
              have z0 := hB.size
              go_wp2_with (at_builtin; refine wpList_append_sl rfl _ _ 23 rfl w.heap.size 26 i0 (.agg #[.string { data := #[] }, .int .i64 0]) 2 24 Try.underlying23 hi hz0 hz1 hz2 rfl (by decide) _ _ _ rfl ((hO1.alloc _).alloc _) _ 1 1 _ rfl (Sl.new2 _ _ 26 _ 1 1 _ (by simp) rfl) ?q1 ?q2 ?q3 ?q4 ?_)
              case q1 => exact ⟨rfl, rfl⟩
              case q2 => unfold maxLen; omega
              case q3 => omega
              case q4 => simp; omega
              intro v5 w5 hown hgrow
              have hb5 : Below w.heap.size w w5 := ((hB.alloc hB.size _).alloc (hB.alloc hB.size _).size _).grown hgrow (by simp; omega) (fun k hk => own_ge hO1 hk)
              have hE := Eo.more (e := (BG.n5 ++ P, 1)) hown HLL.out HLM.out rfl
              rw [← HNX.out] at hE
              have HE := Lib.hid hE
              clear hown hgrow hO1 hE hst
              go_wp2
              go_roundw
              case rel => exact ⟨k + 1, by omega, by go_num, HE.out, hb5⟩
              case measure => simp [intOf]; omega
            · have hk15 : k = 15 := by omega
              subst hk15
              have hf := BG.many_fit 15 (by omega)
              have hE := hO.row hf
              have c1 := put_any _ _ _ hE
              rw [BG.many_ok] at c1
              have hll := BG.many_length 15
              have hO1 := hO
              unfold Eo at hO1
              obtain ⟨A, c, rfl, hc⟩ := hO.cap
              rw [hll] at hO1 c1 hE ⊢
              obtain ⟨lm, hlm⟩ : ∃ lm, cs (BG.many 15) = lm := ⟨_, rfl⟩
              rw [hlm] at hO1
              have HLL := Lib.hid hll
              have HLM := Lib.hid hlm
              obtain ⟨sp, hsp⟩ : ∃ sp, PD.put (BG.many 15) = sp := ⟨_, rfl⟩
              have hss := BG.many_size
              rw [hsp] at c1 hss
              clear hll hlm hsp hE hO hf hlt
              go_wp2_with fail
              refine c1.mono ?_
              rintro e w8 ⟨rfl, hB8⟩
              have hb8 := hB.trans (hB8.mono hB.size)
              have hO8 := ownsRow_on hO1 hB8
              have z8 := hb8.size
              clear c1 hO1 hB hB8
              go_wp2_with (at_builtin; refine wpList_append_sl rfl _ _ 23 rfl w.heap.size 26 i0 (.agg #[.string { data := #[] }, .int .i64 0]) 2 24 Try.underlying23 hi hz0 hz1 hz2 rfl (by decide) _ _ _ rfl (hO8.alloc _) _ 1 1 _ rfl (Sl.new2 _ _ 26 _ 1 1 _ rfl rfl) ?q1 ?q2 ?q3 ?q4 ?_)
              case q1 => exact ⟨rfl, rfl⟩
              case q2 => unfold maxLen; omega
              case q3 => omega
              case q4 => simp; omega
              intro v9 w9 hown hgrow
              have hb9 : Below w.heap.size w w9 := (hb8.alloc hb8.size _).grown hgrow (by simp; omega) (fun k hk => own_ge hO8 hk)
              have hE9 := (Eo.more (e := ({ data := #[122] }, 1)) hown HLL.out HLM.out rfl).row (BG.more_fit)
              have c2 := put_any _ _ _ hE9
              rw [BG.many_more] at c2
              clear hown hgrow hO8 hE9 hb8 HLL HLM
              generalize PD.put (BG.many 15 ++ [({ data := #[122] }, 1)]) = sm at *
              go_wp2_with fail
              refine c2.mono ?_
              rintro e w10 ⟨rfl, hB10⟩
              have hb10 := hb9.trans (hB10.mono hb9.size)
              have hb11 := hb10.alloc hb10.size (.cells #[.string { data := #[126, 57] }, .int .i64 9] 26)
              have c3 := put_any _ _ _ (Es.new w10 #[.string { data := #[126, 57] }, .int .i64 9] (0, 0) 1 1 _ rfl [({ data := #[126, 57] }, 9)] rfl rfl (BG.fit _ (by decide) (by decide)))
              rw [BG.nine_ok] at c3
              generalize PD.put [(({ data := #[126, 57] } : ByteArray), (9 : Int))] = sn at *
              clear c2 hB10 hb9 hb10
              go_wp2_with fail
              refine c3.mono ?_
              rintro e w12 ⟨rfl, hB12⟩
              have hb12 := hb11.trans (hB12.mono hb11.size)
              clear c3 hB12 hb11
              go_wp2
              go_ret
              exact ⟨rfl, hb12⟩
end Go.Proofs.Ytckkljiaicmljaa
