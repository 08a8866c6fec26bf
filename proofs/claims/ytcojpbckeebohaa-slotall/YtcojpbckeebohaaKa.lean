/-
  Plain facts on chapter 4: what is in a block, as bytes, and back.
-/
import Derived.Test.YtcojpbckeebohaaBi
namespace Go.Proofs.Ytcojpbckeebohaa
open Go.RowKit Go.Joins

theorem nums_str (l : List Nat) (h : ∀ b ∈ l, b < 256) : nums (str l) = l := by
  unfold nums str strOfNums
  simp only [List.map_map]
  have : (l.map ((fun b : UInt8 => b.toNat) ∘ ((fun n : Int => UInt8.ofNat n.toNat) ∘ Int.ofNat))) = l.map id := by
    apply List.map_congr_left
    intro b hb
    have := h b hb
    simp
    omega
  simpa using this
theorem str_inj {a b : List Nat} (ha : ∀ x ∈ a, x < 256) (hb : ∀ x ∈ b, x < 256) (h : str a = str b) : a = b := by
  rw [← nums_str a ha, ← nums_str b hb, h]
theorem nums_inj {a b : ByteArray} (h : nums a = nums b) : a = b := by
  rw [← str_nums a, ← str_nums b, h]

namespace PB
open PlainBits

/-- P4.1 May. -/
def known (k g : Int) : Bool := decide (1 ≤ k) && decide (k ≤ 5) && decide (0 ≤ g) && decide (g ≤ 1073741824)
def may (k g : Int) (n : Nat) : Bool := known k g && decide (n ≤ 55)
theorem may_spec {k g : Int} {n : Nat} : may k g n = true ↔ ((1 ≤ k ∧ k ≤ 5) ∧ 0 ≤ g ∧ g ≤ 1073741824) ∧ n ≤ 55 := by
  simp [may, known]; omega
/-- Kind in one, Gen in four, how long Load is in one, Load. -/
def raw (k g : Int) (l : List Nat) : List Nat := enc 1 k ++ enc 4 g ++ l.length :: l
/-- And noughts. -/
def full (k g : Int) (l : List Nat) : List Nat := raw k g l ++ List.replicate (64 - (6 + l.length)) 0
def put (k g : Int) (s : ByteArray) : ByteArray := if may k g s.size then str (full k g (nums s)) else str []

theorem raw_length (k g : Int) (l : List Nat) : (raw k g l).length = 6 + l.length := by simp [raw, enc_length]; omega
theorem full_length (k g : Int) (l : List Nat) (h : l.length ≤ 55) : (full k g l).length = 64 := by simp [full, raw_length]; omega
theorem raw_lt {k g : Int} {l : List Nat} (h : ∀ b ∈ l, b < 256) (hl : l.length < 256) : ∀ b ∈ raw k g l, b < 256 := by
  intro b hb
  simp only [raw, List.mem_append, List.mem_cons] at hb
  rcases hb with (hb | hb) | rfl | hb
  · exact enc_lt _ _ b hb
  · exact enc_lt _ _ b hb
  · exact hl
  · exact h b hb
theorem full_lt {k g : Int} {l : List Nat} (h : ∀ b ∈ l, b < 256) (hl : l.length < 256) : ∀ b ∈ full k g l, b < 256 := by
  intro b hb
  rcases List.mem_append.1 hb with hb | hb
  · exact raw_lt h hl b hb
  · rw [(List.mem_replicate.1 hb).2]; decide
theorem put_size {k g : Int} {s : ByteArray} (h : may k g s.size = true) : (put k g s).size = 64 := by
  have := (may_spec.1 h).2
  rw [put, if_pos h, str_size, full_length _ _ _ (by rw [nums_length]; exact this)]
theorem put_nums {k g : Int} {s : ByteArray} (h : may k g s.size = true) : nums (put k g s) = full k g (nums s) := by
  have := (may_spec.1 h).2
  rw [put, if_pos h, nums_str _ (full_lt (nums_lt s) (by rw [nums_length]; omega))]
/-- The bytes, as layer 3 puts them. -/
theorem raw_text (k g : Int) (l : List Nat) (h : l.length ≤ 255) : textS (putS (putS [] 1 [k]) 4 [g]) l = raw k g l := by
  simp [textS, putS, PlainBits.put, wide, raw, h]

/-- What some bytes begin with. -/
def kindOf (b : List Nat) : Nat := takeN b 1
def genOf (b : List Nat) : Nat := takeN (b.drop 1) 4
def loadOf (b : List Nat) : List Nat := takeT (b.drop 5)
def has (b : List Nat) : Bool := can b.length 1 && can (b.drop 1).length 4 && hasT (b.drop 5)

theorem dec_enc1 (k : Int) (h0 : 0 ≤ k) (h : k < 256) : (dec (enc 1 k) : Int) = k := by
  obtain ⟨n, rfl⟩ := Int.eq_ofNat_of_zero_le h0
  have := dec_enc_of_lt 1 n (by omega)
  omega
theorem dec_enc4 (g : Int) (h0 : 0 ≤ g) (h : g < 4294967296) : (dec (enc 4 g) : Int) = g := by
  obtain ⟨n, rfl⟩ := Int.eq_ofNat_of_zero_le h0
  have := dec_enc_of_lt 4 n (by omega)
  omega
theorem full_take1 (k g : Int) (l : List Nat) : (full k g l).take 1 = enc 1 k := by
  have h1 := enc_length 1 k
  simp only [full, raw, List.append_assoc]
  rw [List.take_append_of_le_length (by omega), List.take_of_length_le (by omega)]
theorem full_drop1 (k g : Int) (l : List Nat) : (full k g l).drop 1 = enc 4 g ++ (l.length :: l ++ List.replicate (64 - (6 + l.length)) 0) := by
  have h1 := enc_length 1 k
  simp only [full, raw, List.append_assoc]
  rw [List.drop_append, h1, List.drop_of_length_le (by omega)]
  simp
theorem full_drop5 (k g : Int) (l : List Nat) : (full k g l).drop 5 = l.length :: l ++ List.replicate (64 - (6 + l.length)) 0 := by
  have h1 := enc_length 4 g
  rw [show (5 : Nat) = 1 + 4 from rfl, ← List.drop_drop, full_drop1, List.drop_append, h1, List.drop_of_length_le (by omega)]
  simp
theorem full_back {k g : Int} {l : List Nat} (h : may k g l.length = true) :
    has (full k g l) = true ∧ (kindOf (full k g l) : Int) = k ∧ (genOf (full k g l) : Int) = g ∧ loadOf (full k g l) = l := by
  obtain ⟨⟨⟨h1, h5⟩, h0, hM⟩, hl⟩ := may_spec.1 h
  have hlen := full_length k g l hl
  have hc1 : can (full k g l).length 1 = true := by rw [hlen]; decide
  have hc4 : can ((full k g l).drop 1).length 4 = true := by rw [List.length_drop, hlen]; decide
  have hT : hasT ((full k g l).drop 5) = true := by
    rw [hasT, List.length_drop, hlen, full_drop5]
    simp [can, wide]
    omega
  refine ⟨by rw [has, hc1, hc4, hT]; rfl, ?_, ?_, ?_⟩
  · rw [kindOf, takeN, if_pos hc1]
    rw [show (1 : Int).toNat = 1 from rfl, full_take1]
    exact dec_enc1 k (by omega) (by omega)
  · rw [genOf, takeN, if_pos hc4, full_drop1]
    have h4 := enc_length 4 g
    rw [show (4 : Int).toNat = 4 from rfl, List.take_append_of_le_length (by omega), List.take_of_length_le (by omega)]
    exact dec_enc4 g h0 (by omega)
  · rw [loadOf, takeT, if_pos hT, full_drop5]
    simp

/-- P4.1 Take: the block whose Put is just s. -/
def took (s : ByteArray) : Bool :=
  has (nums s) && may (kindOf (nums s)) (genOf (nums s)) (loadOf (nums s)).length && decide (str (full (kindOf (nums s)) (genOf (nums s)) (loadOf (nums s))) = s)
def tk (s : ByteArray) : Int := if took s then kindOf (nums s) else 0
def tg (s : ByteArray) : Int := if took s then genOf (nums s) else 0
def tl (s : ByteArray) : ByteArray := if took s then str (loadOf (nums s)) else str []

theorem loadOf_lt {b : List Nat} (h : ∀ x ∈ b, x < 256) : ∀ x ∈ loadOf b, x < 256 := by
  intro x hx
  unfold loadOf takeT at hx
  split at hx
  · exact h x (List.mem_of_mem_drop (List.mem_of_mem_drop (List.mem_of_mem_take hx)))
  · simp at hx
theorem took_spec {s : ByteArray} (h : took s = true) : may (tk s) (tg s) (tl s).size = true ∧ put (tk s) (tg s) (tl s) = s := by
  obtain ⟨⟨h1, h2⟩, h3⟩ : (has (nums s) = true ∧ may (kindOf (nums s)) (genOf (nums s)) (loadOf (nums s)).length = true) ∧ str (full (kindOf (nums s)) (genOf (nums s)) (loadOf (nums s))) = s := by
    simpa [took] using h
  have hm : may (tk s) (tg s) (tl s).size = true := by
    rw [tk, tg, tl, if_pos h, if_pos h, if_pos h, str_size]; exact h2
  refine ⟨hm, ?_⟩
  rw [put, if_pos hm, tk, tg, tl, if_pos h, if_pos h, if_pos h, nums_str _ (loadOf_lt (nums_lt s))]
  exact h3
theorem took_of {k g : Int} {l s : ByteArray} (h : may k g l.size = true) (hs : put k g l = s) : took s = true ∧ tk s = k ∧ tg s = g ∧ tl s = l := by
  have hn : nums s = full k g (nums l) := by rw [← hs]; exact put_nums h
  have hml : may k g (nums l).length = true := by rw [nums_length]; exact h
  obtain ⟨b1, b2, b3, b4⟩ := full_back hml
  have ht : took s = true := by
    rw [took, hn, b1, b2, b3, b4, hml]
    rw [put, if_pos h] at hs
    simp [hs]
  refine ⟨ht, ?_, ?_, ?_⟩
  · rw [tk, if_pos ht, hn]; exact b2
  · rw [tg, if_pos ht, hn]; exact b3
  · rw [tl, if_pos ht, hn, b4, str_nums]
theorem took_no {s : ByteArray} (h : took s = false) : tk s = 0 ∧ tg s = 0 ∧ tl s = str [] := by simp [tk, tg, tl, h]
theorem took_size {s : ByteArray} (h : s.size ≠ 64) : took s = false := by
  cases ht : took s with
  | false => rfl
  | true =>
    obtain ⟨h1, h2⟩ := took_spec ht
    rw [← h2, put_size h1] at h
    exact absurd rfl h
theorem put_inj {k g k' g' : Int} {l l' : ByteArray} (h : may k g l.size = true) (h' : may k' g' l'.size = true) (he : put k g l = put k' g' l') : k = k' ∧ g = g' ∧ l = l' := by
  obtain ⟨_, a1, a2, a3⟩ := took_of h he
  obtain ⟨_, b1, b2, b3⟩ := took_of h' rfl
  exact ⟨a1.symm.trans b1, a2.symm.trans b2, a3.symm.trans b3⟩

/-- The other road: Kind, Gen and Load by their places. -/
def rk (s : ByteArray) : Int := ((nums s).getD 0 0 : Nat)
def rg (s : ByteArray) : Int := genOf (nums s)
def rl (s : ByteArray) : ByteArray := s.extract 6 (6 + min ((nums s).getD 5 0) 55)
theorem extract_nums (s : ByteArray) (a b : Nat) : nums (s.extract a b) = ((nums s).drop a).take (b - a) := by
  unfold nums
  rw [← List.map_drop, ← List.map_take]
  congr 1
  rw [ByteArray.data_extract, Array.toList_extract, List.extract_eq_take_drop]
theorem road {s : ByteArray} (h64 : s.size = 64) : (put (rk s) (rg s) (rl s) = s ↔ took s = true) ∧ (took s = true → tk s = rk s ∧ tg s = rg s ∧ tl s = rl s) := by
  have key : took s = true → tk s = rk s ∧ tg s = rg s ∧ tl s = rl s := by
    intro h
    obtain ⟨hm, hp⟩ := took_spec h
    have hl := (may_spec.1 hm).2
    have hn : nums s = full (tk s) (tg s) (nums (tl s)) := by
      have := put_nums hm
      rwa [hp] at this
    have hml : may (tk s) (tg s) (nums (tl s)).length = true := by rw [nums_length]; exact hm
    obtain ⟨b1, b2, b3, b4⟩ := full_back hml
    have d5 := full_drop5 (tk s) (tg s) (nums (tl s))
    rw [← hn] at b1 b2 b3 b4 d5
    have e5 : (nums s).getD 5 0 = (tl s).size := by
      have : ((nums s).drop 5).getD 0 0 = (nums s).getD 5 0 := by simp [List.getD]
      rw [← this, d5, List.cons_append, nums_length]
      rfl
    have e0 : kindOf (nums s) = (nums s).getD 0 0 := by
      have h0 := nums_length s
      exact take1 (nums s) (by rw [h0, h64]; decide)
    refine ⟨?_, ?_, ?_⟩
    · rw [rk, ← e0]; exact b2.symm
    · rw [rg]; exact b3.symm
    · apply nums_inj
      rw [rl, extract_nums, e5, show (6 : Nat) = 5 + 1 from rfl, ← List.drop_drop, d5, Nat.min_eq_left hl]
      simp [nums_length]
  refine ⟨⟨fun h => ?_, fun h => ?_⟩, key⟩
  · have hm : may (rk s) (rg s) (rl s).size = true := by
      cases hm : may (rk s) (rg s) (rl s).size with
      | true => rfl
      | false =>
        rw [put, hm] at h
        have := congrArg ByteArray.size h
        rw [h64] at this
        cases this
    exact (took_of hm h).1
  · obtain ⟨e1, e2, e3⟩ := key h
    rw [← e1, ← e2, ← e3]
    exact (took_spec h).2
end PB
end Go.Proofs.Ytcojpbckeebohaa
