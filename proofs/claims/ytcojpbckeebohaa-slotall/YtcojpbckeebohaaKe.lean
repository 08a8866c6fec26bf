/-
  A string made bytes. Contracts: block.begin, block.Take.
-/
import Derived.Test.YtcojpbckeebohaaKd
namespace Go.Proofs.Ytcojpbckeebohaa
open Go.RowKit Go.Joins

/-- Block g begins with the text bs; it is the row that a string was made. -/
def Mk (w : World) (g : Nat) (bs : List Nat) : Prop := ∃ cs : Array Value, w.heap[g]? = some (.cells cs 5 (cs.size, cs.size + 1)) ∧ bs.length ≤ cs.size ∧ cs.toList.take bs.length = bs.map bv
theorem Mk.lt {w : World} {g : Nat} {bs : List Nat} (h : Mk w g bs) : g < w.heap.size := by
  obtain ⟨cs, h, _⟩ := h
  rcases Nat.lt_or_ge g w.heap.size with hl | hl
  · exact hl
  · rw [Array.getElem?_eq_none hl] at h; cases h
theorem Mk.below {w w' : World} {g : Nat} {bs : List Nat} (h : Mk w g bs) (hb : Below w.heap.size w w') : Mk w' g bs := by
  have hg := h.lt
  obtain ⟨cs, h, hr⟩ := h
  exact ⟨cs, (hb.block g hg).trans h, hr⟩
theorem Mk.cell {w : World} {g : Nat} {bs : List Nat} (h : Mk w g bs) {i x : Nat} (hi : bs[i]? = some x) : w.cell? ⟨g, i, none⟩ = some (.int .u8 (x : Int)) := by
  obtain ⟨cs, h, hl, ht⟩ := h
  have hlt : i < bs.length := (List.getElem?_eq_some_iff.1 hi).1
  have : (bs.map bv)[i]? = cs[i]? := by rw [← ht, List.getElem?_take, if_pos hlt]; simp
  rw [List.getElem?_map, hi] at this
  simp [World.cell?, h, ← this, bv]
theorem Mk.frozen {w : World} {g : Nat} {bs : List Nat} (h : Mk w g bs) {i : Nat} (hi : i < bs.length) : w.frozen? ⟨g, i, none⟩ = false := by
  obtain ⟨cs, h, hl, ht⟩ := h
  simp [World.frozen?, h]
  omega
theorem Mk.tx {w : World} {g : Nat} {bs : List Nat} (h : Mk w g bs) (hb : ∀ b ∈ bs, b < 256) (hm : bs.length ≤ 1048576) (n c : Nat) (hn : bs.length = n) : Tx w (.slice (some ⟨g, 0, none⟩) n c) bs := by
  subst hn
  refine ⟨⟨_, c, rfl, by simp, fun _ => ⟨g, 0, rfl, h.lt, fun j hj => ?_⟩⟩, hb, hm⟩
  have hj' : j < bs.length := by omega
  rw [Nat.zero_add, h.cell (List.getElem?_eq_getElem hj')]
  simp [hj', bv]
theorem Mk.set {w : World} {g : Nat} {bs : List Nat} (h : Mk w g bs) (i x : Nat) : Mk (w.setCell ⟨g, i, none⟩ (.int .u8 (x : Int))) g (bs.set i x) := by
  obtain ⟨cs, h, hl, ht⟩ := h
  refine ⟨cs.setIfInBounds i (.int .u8 (x : Int)), ?_, by simpa using hl, ?_⟩
  · simp [World.setCell, Array.getElem?_modify, h]
  · rw [List.length_set, Array.toList_setIfInBounds, List.take_set, ht, List.map_set]
    rfl

theorem to_bytes (s : ByteArray) (w : World) : ∃ g c w', (convert 9 30 (.string s)).run Try.prog w = .ok (.slice (some ⟨g, 0, none⟩) s.size c) w' ∧ w.heap.size ≤ g ∧ s.size ≤ c ∧ Mk w' g (nums s) ∧ Below w.heap.size w w' := by
  refine ⟨_, _, _, run_bytes_of_string w 9 30 5 s Try.underlying9 Try.underlying30 Try.underlying5, Nat.le_refl _, grownCap_ge w s.size 0 5, ⟨_, heap_alloc_new w.drew _, ?_, ?_⟩, ((Below.refl _ w).drew).alloc (Nat.le_refl _) _⟩
  · rw [nums_length, bytesRow, Array.size_append, Array.size_map]
    exact Nat.le_add_right _ _
  · rw [bytesRow, Array.toList_append, Array.toList_map]
    have hl : (s.data.toList.map fun b => Value.int .u8 (b.toNat : Int)).length = (nums s).length := by simp [nums]
    rw [← hl, List.take_left]
    simp [nums, bv, List.map_map, Function.comp_def]

theorem seq_no {a b : ByteArray} (h : a ≠ b) : (a.toList == b.toList) = false := by
  rw [ByteArray.toList_eq, ByteArray.toList_eq]
  exact beq_eq_false_iff_ne.2 fun e => h (ByteArray.ext (Array.toList_inj.mp e))
theorem seq_yes (a : ByteArray) : (a.toList == a.toList) = true := beq_self_eq_true _

theorem has_cases (bs : List Nat) : PB.has bs = (PlainBits.can bs.length 1 && PlainBits.can (bs.drop 1).length 4 && PlainBits.hasT (bs.drop 5)) := rfl

set_option maxHeartbeats 4000000 in
theorem begin_any (v : Value) (bs : List Nat) (w : World) (h : Tx w v bs) (hcp : Cp v) : Calls Try.prog 33 #[v] w fun e w' => ∃ k g l, e = .returned (.tuple #[.agg #[.int .i64 k, .int .i64 g, .string l], .bool (PB.has bs)]) ∧ (PB.has bs = true → k = PB.kindOf bs ∧ g = PB.genOf bs ∧ l = str (PB.loadOf bs)) ∧ Below w.heap.size w w' := by
  have hB := al w (.cells #[.int .i64 0, .int .i64 0, .string { data := #[] }] 66)
  replace h := h.alloc (.cells #[.int .i64 0, .int .i64 0, .string { data := #[] }] 66)
  obtain ⟨A, c, rfl⟩ := h.form
  have hnc : bs.length ≤ c := by
    obtain ⟨A', n', c', hv, hle⟩ := hcp
    injection hv with e1 e2 e3
    omega
  cases h1 : PlainBits.can bs.length 1 with
  | false =>
    have hh : PB.has bs = false := by rw [has_cases, h1]; rfl
    have HH := Lib.hid hh
    have HS := Lib.hid h
    clear hh h hcp
    generalize hL : bs.length = L at *
    have HL := Lib.hid hL
    clear hL
    go_enter Try.func33, Try.ntmps33
    go_wp2_with fail
    refine (take_any _ bs 1 _ HS.out).mono ?_
    rintro e w1 ⟨rfl, rfl⟩
    rw [HL.out, h1]
    clear h1
    go_wp2
    refine bodyPost_ret (v := .tuple #[.agg #[.int .i64 0, .int .i64 0, .string { data := #[] }], .bool false]) (by simp [results, Try.results33, go_sem]) rfl ⟨0, 0, { data := #[] }, by rw [HH.out], fun h => ?_, hB⟩
    rw [HH.out] at h
    cases h
  | true =>
    have hl1 : 1 ≤ bs.length := by simp [PlainBits.can, PlainBits.wide] at h1; omega
    obtain ⟨u, hcu, hrun, hu⟩ := sub_l (A := A) (c := c) (p := 1) (bs := bs) rfl hl1 hnc
    have hr1 := hrun (w.alloc (.cells #[.int .i64 0, .int .i64 0, .string { data := #[] }] 66))
    rw [show (((1 : Nat) : Int)) = 1 from rfl] at hr1
    have hx1 := hu _ h
    obtain ⟨A1, c1, rfl⟩ := hx1.form
    have htk1 := take_any _ bs 1 _ h
    have htk4 := take_any _ (bs.drop 1) 4 _ hx1
    rw [h1] at htk1
    cases h4 : PlainBits.can (bs.drop 1).length 4 with
    | false =>
      have hh : PB.has bs = false := by rw [has_cases, h1, h4]; rfl
      have HH := Lib.hid hh
      rw [h4] at htk4
      clear hh h hcp h1 h4 hcu hrun hu hx1
      generalize hL : bs.length = L at *
      generalize hL1 : (bs.drop 1).length = L1 at *
      clear hL hL1
      go_enter Try.func33, Try.ntmps33
      go_wp2_with fail
      refine htk1.mono ?_
      rintro e w1 ⟨rfl, rfl⟩
      go_wp2_with fail
      refine htk4.mono ?_
      rintro e w1 ⟨rfl, rfl⟩
      go_wp2
      refine bodyPost_ret (v := .tuple #[.agg #[.int .i64 0, .int .i64 0, .string { data := #[] }], .bool false]) (by simp [results, Try.results33, go_sem]) rfl ⟨0, 0, { data := #[] }, by rw [HH.out], fun h => ?_, hB⟩
      rw [HH.out] at h
      cases h
    | true =>
      have hl5 : 5 ≤ bs.length := by simp [PlainBits.can, PlainBits.wide] at h4; omega
      obtain ⟨u5, hcu5, hrun5, hu5⟩ := sub_l (A := A) (c := c) (p := 5) (bs := bs) rfl hl5 hnc
      have hr5 := hrun5 (w.alloc (.cells #[.int .i64 0, .int .i64 0, .string { data := #[] }] 66))
      rw [show (((5 : Nat) : Int)) = 5 from rfl] at hr5
      have hx5 := hu5 _ h
      have htt := takeText_any _ (bs.drop 5) _ hx5 hcu5
      obtain ⟨A5, c5, rfl⟩ := hx5.form
      have hh : PB.has bs = PlainBits.hasT (bs.drop 5) := by rw [has_cases, h1, h4]; rfl
      have HH := Lib.hid hh
      rw [h4] at htk4
      have hk : PlainBits.takeN bs 1 = PB.kindOf bs := rfl
      have hg : PlainBits.takeN (bs.drop 1) 4 = PB.genOf bs := rfl
      have hl : str (PlainBits.takeT (bs.drop 5)) = str (PB.loadOf bs) := rfl
      rw [hk] at htk1
      rw [hg] at htk4
      rw [hl] at htt
      clear hh h hcp h1 h4 hcu hrun hu hx1 hcu5 hrun5 hu5 hx5 hk hg hl
      obtain ⟨L, hL⟩ : ∃ L, bs.length = L := ⟨_, rfl⟩
      obtain ⟨L1, hL1⟩ : ∃ L, (bs.drop 1).length = L := ⟨_, rfl⟩
      obtain ⟨L5, hL5⟩ : ∃ L, (bs.drop 5).length = L := ⟨_, rfl⟩
      obtain ⟨K, hK⟩ : ∃ K, PB.kindOf bs = K := ⟨_, rfl⟩
      obtain ⟨G, hG⟩ : ∃ G, PB.genOf bs = G := ⟨_, rfl⟩
      obtain ⟨S, hS⟩ : ∃ S, str (PB.loadOf bs) = S := ⟨_, rfl⟩
      obtain ⟨T, hT⟩ : ∃ T, PlainBits.takeL (bs.drop 5) = T := ⟨_, rfl⟩
      obtain ⟨Q, hQ⟩ : ∃ Q, PlainBits.hasT (bs.drop 5) = Q := ⟨_, rfl⟩
      rw [hL] at htk1 hr1 hr5 hnc hl1 hl5 ⊢
      rw [hL1] at htk4 hr1
      rw [hL5] at htt hr5
      rw [hK] at htk1
      rw [hG] at htk4
      rw [hS, hT, hQ] at htt
      have HQ := Lib.hid hQ
      have HK := Lib.hid hK
      have HG := Lib.hid hG
      have HS := Lib.hid hS
      clear hL hL1 hL5 hK hG hS hT hQ
      go_enter Try.func33, Try.ntmps33
      go_wp2_with fail
      refine htk1.mono ?_
      rintro e w1 ⟨rfl, rfl⟩
      go_wp2_with fail
      refine htk4.mono ?_
      rintro e w1 ⟨rfl, rfl⟩
      go_wp2_with fail
      refine htt.mono ?_
      rintro e w1 ⟨rfl, rfl⟩
      go_wp2
      refine bodyPost_ret (v := .tuple #[.agg #[.int .i64 (K : Int), .int .i64 (G : Int), .string S], .bool Q]) (by simp [results, Try.results33, go_sem]) rfl ⟨K, G, S, by rw [HH.out, HQ.out], fun h => ?_, ?_⟩
      · exact ⟨by rw [HK.out], by rw [HG.out], by rw [HS.out]⟩
      · exact al w _
end Go.Proofs.Ytcojpbckeebohaa
