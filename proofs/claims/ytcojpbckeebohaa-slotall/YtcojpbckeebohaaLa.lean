/-
  Plain facts on chapter 5: where a log begins, as the bytes of a block, and back; the newest of several.
-/
import Derived.Test.YtcojpbckeebohaaKa
namespace Go.Proofs.Ytcojpbckeebohaa
open Go.RowKit Go.Joins

namespace PS
open PlainBits

/-- A slot. -/
structure S where
  n : Int
  q : Int
  m : Int
  g : Int
  p : Int
deriving DecidableEq
def zero : S := ⟨0, 0, 0, 0, 0⟩

/-- P5.1 May. -/
def num (z : Int) : Bool := decide (0 ≤ z) && decide (z ≤ 1073741824)
def within (q m g p : Int) : Bool := [q, m, g, p].all num && decide (p ≤ 64)
def may (x : S) : Bool := num x.n && decide (0 < x.n) && within x.q x.m x.g x.p
theorem num_spec {z : Int} : num z = true ↔ 0 ≤ z ∧ z ≤ 1073741824 := by simp [num]
theorem may_spec {x : S} : may x = true ↔ ((1 ≤ x.n ∧ x.n ≤ 1073741824) ∧ (0 ≤ x.q ∧ x.q ≤ 1073741824) ∧ (0 ≤ x.m ∧ x.m ≤ 1073741824) ∧ (0 ≤ x.g ∧ x.g ≤ 1073741824) ∧ 0 ≤ x.p ∧ x.p ≤ 64) := by
  simp only [may, within, List.all_cons, List.all_nil, Bool.and_true, Bool.and_eq_true, num_spec, decide_eq_true_eq]
  omega
theorem may_zero : may zero = false := by decide

/-- The load of a slot. -/
def raw (q m g p : Int) : List Nat := put [] 4 [q, m, g, p]
def load (q m g p : Int) : ByteArray := str (raw q m g p)
theorem raw_length (q m g p : Int) : (raw q m g p).length = 16 := by simp [raw, put_length]
theorem raw_lt (q m g p : Int) : ∀ b ∈ raw q m g p, b < 256 := put_lt (by simp)
theorem load_size (q m g p : Int) : (load q m g p).size = 16 := by rw [load, str_size, raw_length]
theorem load_nums (q m g p : Int) : nums (load q m g p) = raw q m g p := nums_str _ (raw_lt q m g p)

/-- P5.1 Put. -/
def text (x : S) : ByteArray := PB.put 5 x.n (load x.q x.m x.g x.p)
def put (x : S) : ByteArray := if may x then text x else str []
theorem may_block {x : S} (h : may x = true) : PB.may 5 x.n (load x.q x.m x.g x.p).size = true := by
  have := may_spec.1 h
  rw [load_size, PB.may_spec]
  omega
theorem put_size {x : S} (h : may x = true) : (put x).size = 64 := by
  rw [put, if_pos h, text, PB.put_size (may_block h)]
theorem put_le (x : S) : (put x).size ≤ 64 := by
  cases h : may x with
  | true => rw [put_size h]; exact Nat.le_refl _
  | false => rw [put, h]; simp [str_size]
theorem put_no {x : S} (h : may x = false) : put x = { data := #[] } := by rw [put, h]; rfl

/-- The numbers of a load, four bytes each. -/
def n4 (l : List Nat) (i : Nat) : Int := (dec ((l.drop (4 * i)).take 4) : Nat)
def ofLoad (n : Int) (l : List Nat) : S := ⟨n, n4 l 0, n4 l 1, n4 l 2, n4 l 3⟩
theorem n4_le (l : List Nat) (i : Nat) (h : ∀ b ∈ l, b < 256) : 0 ≤ n4 l i ∧ n4 l i ≤ 4294967295 := by
  have hl := dec_lt ((l.drop (4 * i)).take 4) (fun b hb => h b (List.mem_of_mem_drop (List.mem_of_mem_take hb)))
  have hk : ((l.drop (4 * i)).take 4).length ≤ 4 := by simp; omega
  have hp : 256 ^ ((l.drop (4 * i)).take 4).length ≤ 256 ^ 4 := Nat.pow_le_pow_right (by decide) hk
  unfold n4
  omega
theorem n4_raw (l : List Int) (i : Nat) (v : Int) (h : l[i]? = some v) (h0 : 0 ≤ v) (h1 : v ≤ 1073741824) : n4 (PlainBits.put [] 4 l) i = v := by
  have := put_at 4 l i v h
  rw [n4, Nat.mul_comm, this]
  exact PB.dec_enc4 v h0 (by omega)
theorem ofLoad_raw {x : S} (h : may x = true) : ofLoad x.n (raw x.q x.m x.g x.p) = x := by
  have hs := may_spec.1 h
  cases x
  simp only [ofLoad, raw]
  dsimp only at hs
  congr 1
  · exact n4_raw _ 0 _ rfl (by omega) (by omega)
  · exact n4_raw _ 1 _ rfl (by omega) (by omega)
  · exact n4_raw _ 2 _ rfl (by omega) (by omega)
  · exact n4_raw _ 3 _ rfl (by omega) (by omega)

/-- P5.1 Take: the slot whose Put is just s. -/
def cand (s : ByteArray) : S := ofLoad (PB.tg s) (nums (PB.tl s))
def took (s : ByteArray) : Bool := PB.took s && decide (16 ≤ (PB.tl s).size) && may (cand s) && decide (text (cand s) = s)
def tk (s : ByteArray) : S := if took s then cand s else zero
theorem took_spec {s : ByteArray} (h : took s = true) : may (tk s) = true ∧ put (tk s) = s := by
  obtain ⟨⟨⟨_, _⟩, h3⟩, h4⟩ : ((PB.took s = true ∧ 16 ≤ (PB.tl s).size) ∧ may (cand s) = true) ∧ text (cand s) = s := by simpa [took] using h
  rw [tk, if_pos h]
  exact ⟨h3, by rw [put, if_pos h3]; exact h4⟩
theorem took_of {x : S} {s : ByteArray} (h : may x = true) (hs : put x = s) : took s = true ∧ tk s = x := by
  rw [put, if_pos h] at hs
  obtain ⟨b0, _, b2, b3⟩ := PB.took_of (may_block h) hs
  have hc : cand s = x := by rw [cand, b2, b3, load_nums, ofLoad_raw h]
  have ht : took s = true := by
    rw [took, b0, b3, load_size, hc, h]
    simp [hs]
  exact ⟨ht, by rw [tk, if_pos ht, hc]⟩
theorem took_no {s : ByteArray} (h : took s = false) : tk s = zero := by simp [tk, h]
theorem tk_n {s : ByteArray} (h : took s = true) : 1 ≤ (tk s).n := (may_spec.1 (took_spec h).1).1.1
theorem tk_nonneg (s : ByteArray) : 0 ≤ (tk s).n := by
  cases h : took s with
  | true => have := tk_n h; omega
  | false => rw [took_no h]; exact Int.le_refl _
theorem took_pos (s : ByteArray) : took s = decide (0 < (tk s).n) := by
  cases h : took s with
  | true => have := tk_n h; simp; omega
  | false => rw [took_no h]; rfl
theorem took_size {s : ByteArray} (h : s.size ≠ 64) : took s = false := by
  rw [took, PB.took_size h]; rfl

/-- P5.1 Newest. -/
def step (b : S) (s : ByteArray) : S := if b.n < (tk s).n then tk s else b
def newest (l : List ByteArray) : S := l.foldl step zero
theorem step_nonneg {b : S} (s : ByteArray) (h : 0 ≤ b.n) : 0 ≤ (step b s).n := by
  unfold step
  split
  · exact tk_nonneg s
  · exact h
theorem step_no {b : S} {s : ByteArray} (h : 0 ≤ b.n) (ht : took s = false) : step b s = b := by
  rw [step, took_no ht, if_neg (by simp only [zero]; omega)]
theorem newest_snoc (l : List ByteArray) (s : ByteArray) : newest (l ++ [s]) = step (newest l) s := by simp [newest]
theorem newest_nonneg : ∀ l : List ByteArray, 0 ≤ (newest l).n := by
  intro l
  suffices H : ∀ (l : List ByteArray) (b : S), 0 ≤ b.n → 0 ≤ (l.foldl step b).n from H l zero (Int.le_refl _)
  intro l
  induction l with
  | nil => intro b h; exact h
  | cons s l ih => intro b h; exact ih _ (step_nonneg s h)
theorem newest_zero {l : List ByteArray} (h : ¬ 0 < (newest l).n) : newest l = zero := by
  suffices H : ∀ (l : List ByteArray) (b : S), (b = zero ∨ 0 < b.n) → (l.foldl step b = zero ∨ 0 < (l.foldl step b).n) by
    rcases H l zero (.inl rfl) with H | H
    · exact H
    · exact absurd H h
  intro l
  induction l with
  | nil => intro b h; exact h
  | cons s l ih =>
    intro b hb
    refine ih _ ?_
    unfold step
    split
    · rename_i hlt
      right
      rcases hb with rfl | hb
      · exact hlt
      · omega
    · exact hb
theorem fold_ge : ∀ (l : List ByteArray) (b : S), b.n ≤ (l.foldl step b).n ∧ ∀ s ∈ l, (tk s).n ≤ (l.foldl step b).n := by
  intro l
  induction l with
  | nil => intro b; exact ⟨Int.le_refl _, by simp⟩
  | cons s l ih =>
    intro b
    obtain ⟨h1, h2⟩ := ih (step b s)
    have hs : b.n ≤ (step b s).n ∧ (tk s).n ≤ (step b s).n := by
      unfold step
      split <;> omega
    simp only [List.foldl_cons]
    refine ⟨by omega, ?_⟩
    intro t ht
    rcases List.mem_cons.1 ht with rfl | ht
    · omega
    · exact h2 t ht
theorem newest_ge {l : List ByteArray} {s : ByteArray} (h : s ∈ l) : (tk s).n ≤ (newest l).n := (fold_ge l zero).2 s h
theorem newest_mem {l : List ByteArray} (h : 0 < (newest l).n) : ∃ s ∈ l, took s = true ∧ tk s = newest l := by
  suffices H : ∀ (l : List ByteArray) (b : S), l.foldl step b = b ∨ ∃ s ∈ l, tk s = l.foldl step b by
    rcases H l zero with H | ⟨s, hs, he⟩
    · rw [newest, H] at h; exact absurd h (by decide)
    · refine ⟨s, hs, ?_, he⟩
      rw [took_pos]
      have : tk s = newest l := he
      rw [this]
      simpa using h
  intro l
  induction l with
  | nil => intro b; exact .inl rfl
  | cons s l ih =>
    intro b
    rw [List.foldl_cons]
    rcases ih (step b s) with h | ⟨t, ht, he⟩
    · rw [h]
      unfold step
      split
      · exact .inr ⟨s, List.mem_cons_self, rfl⟩
      · exact .inl rfl
    · exact .inr ⟨t, List.mem_cons_of_mem _ ht, he⟩
end PS
end Go.Proofs.Ytcojpbckeebohaa
