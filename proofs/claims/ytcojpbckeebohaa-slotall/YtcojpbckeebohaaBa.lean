/-
  Plain facts on chapter 3: numbers as bytes, the lowest first; texts behind their length.
-/
namespace Go.Proofs.Ytcojpbckeebohaa.PlainBits

/-- Byte i of a number (of any sign). -/
def byteAt (v : Int) (i : Nat) : Nat := (v / 256 ^ i % 256).toNat
/-- A number in n bytes. -/
def enc (n : Nat) (v : Int) : List Nat := (List.range n).map (byteAt v)
/-- The number of some bytes. -/
def dec : List Nat → Nat
  | [] => 0
  | b :: l => b + 256 * dec l
def put (b : List Nat) (n : Nat) (l : List Int) : List Nat := b ++ l.flatMap (enc n)

theorem enc_length (n : Nat) (v : Int) : (enc n v).length = n := by simp [enc]
theorem byteAt_lt (v : Int) (i : Nat) : byteAt v i < 256 := by unfold byteAt; omega
theorem enc_lt (n : Nat) (v : Int) : ∀ b ∈ enc n v, b < 256 := by
  intro b hb
  obtain ⟨i, _, rfl⟩ := List.mem_map.1 hb
  exact byteAt_lt v i

theorem byteAt_succ (v : Nat) (i : Nat) : byteAt (v : Int) (i + 1) = byteAt ((v / 256 : Nat) : Int) i := by
  unfold byteAt
  congr 2
  rw [Int.pow_succ, Int.mul_comm]
  have : ((v / 256 : Nat) : Int) = (v : Int) / 256 := by omega
  rw [this, Int.ediv_ediv_of_nonneg (by decide)]

theorem enc_succ (n v : Nat) : enc (n + 1) (v : Int) = v % 256 :: enc n ((v / 256 : Nat) : Int) := by
  unfold enc
  rw [List.range_succ_eq_map, List.map_cons, List.map_map]
  congr 1
  · unfold byteAt; simp; omega
  · apply List.map_congr_left
    intro i _
    exact byteAt_succ v i

/-- What is put is taken. -/
theorem dec_enc (n : Nat) : ∀ v : Nat, dec (enc n (v : Int)) = v % 256 ^ n := by
  induction n with
  | zero => intro v; simp [enc, dec, Nat.mod_one]
  | succ n ih =>
    intro v
    rw [enc_succ, dec, ih, Nat.pow_succ, Nat.mul_comm (256 ^ n) 256, Nat.mod_mul]
theorem dec_enc_of_lt (n v : Nat) (h : v < 256 ^ n) : dec (enc n (v : Int)) = v := by rw [dec_enc, Nat.mod_eq_of_lt h]

theorem put_length (b : List Nat) (n : Nat) (l : List Int) : (put b n l).length = b.length + n * l.length := by
  have : ∀ l : List Int, (l.flatMap (enc n)).length = n * l.length := by
    intro l
    induction l with
    | nil => rfl
    | cons v l ih => rw [List.flatMap_cons, List.length_append, ih, enc_length, List.length_cons, Nat.mul_succ, Nat.add_comm]
  rw [put, List.length_append, this]
theorem put_put (b : List Nat) (n : Nat) (l m : List Int) : put (put b n l) n m = put b n (l ++ m) := by simp [put, List.append_assoc]
/-- Number i of a row stands behind the i ahead of it. -/
theorem put_at (n : Nat) (l : List Int) : ∀ (i : Nat) (v : Int), l[i]? = some v → ((put [] n l).drop (i * n)).take n = enc n v := by
  induction l with
  | nil => intro i v h; simp at h
  | cons u l ih =>
    intro i v h
    cases i with
    | zero =>
      have : u = v := by simpa using h
      subst this
      have hl := enc_length n u
      simp only [put, List.nil_append, List.flatMap_cons, Nat.zero_mul, List.drop_zero]
      rw [List.take_append_of_le_length (by omega), List.take_of_length_le (by omega)]
    | succ i =>
      have := ih i v (by simpa using h)
      simp only [put, List.nil_append] at this
      simp only [put, List.nil_append, List.flatMap_cons]
      rw [Nat.succ_mul, List.drop_append, enc_length, List.drop_of_length_le (by rw [enc_length]; omega), List.nil_append, Nat.add_sub_cancel]
      exact this

theorem enc_snoc (k : Nat) (v : Int) : enc (k + 1) v = enc k v ++ [byteAt v k] := by simp [enc, List.range_succ]
theorem enc_zero (v : Int) : enc 0 v = [] := rfl
theorem put_nil (b : List Nat) (n : Nat) : put b n [] = b := by simp [put]
theorem put_snoc (b : List Nat) (n : Nat) (l : List Int) (x : Int) : put b n (l ++ [x]) = put b n l ++ enc n x := by simp [put, List.append_assoc]
theorem put_lt {b : List Nat} {n : Nat} {l : List Int} (hb : ∀ x ∈ b, x < 256) : ∀ x ∈ put b n l, x < 256 := by
  intro x hx
  rcases List.mem_append.1 hx with h | h
  · exact hb x h
  · obtain ⟨v, _, hv⟩ := List.mem_flatMap.1 h
    exact enc_lt n v x hv
theorem dec_drop (l : List Nat) (i : Nat) (h : i < l.length) : dec (l.drop i) = l.getD i 0 + 256 * dec (l.drop (i + 1)) := by
  rw [List.drop_eq_getElem_cons h, dec]
  simp [List.getD, h]
theorem dec_lt (l : List Nat) (h : ∀ b ∈ l, b < 256) : dec l < 256 ^ l.length := by
  induction l with
  | nil => simp [dec]
  | cons b l ih =>
    have h1 := h b (by simp)
    have h2 := ih fun x hx => h x (by simp [hx])
    rw [dec, List.length_cons, Nat.pow_succ]
    omega
/-- A number, moved by a byte, and a byte. -/
theorem shl_or (x b : Nat) (hb : b < 256) : x * 256 ||| b = b + 256 * x := by
  have h := (Nat.two_pow_add_eq_or_of_lt (i := 8) (b := b) (by simpa using hb) x).symm
  rw [show (2 : Nat) ^ 8 = 256 from rfl, Nat.mul_comm] at h
  rw [h]
  omega

/-- Put, Take, Text, TakeText, as the chapter says. -/
def wide (n : Int) : Bool := decide (1 ≤ n) && decide (n ≤ 4)
def putS (b : List Nat) (n : Int) (l : List Int) : List Nat := if wide n then put b n.toNat l else b
def can (m : Nat) (n : Int) : Bool := wide n && decide (n ≤ m)
def takeN (b : List Nat) (n : Int) : Nat := if can b.length n then dec (b.take n.toNat) else 0
def textS (b s : List Nat) : List Nat := if s.length ≤ 255 then b ++ s.length :: s else b
def hasT (b : List Nat) : Bool := can b.length 1 && decide (1 + b.getD 0 0 ≤ b.length)
def takeT (b : List Nat) : List Nat := if hasT b then (b.drop 1).take (b.getD 0 0) else []
def takeL (b : List Nat) : Nat := if hasT b then 1 + b.getD 0 0 else 0

theorem putS_lt {b : List Nat} {n : Int} {l : List Int} (hb : ∀ x ∈ b, x < 256) : ∀ x ∈ putS b n l, x < 256 := by
  unfold putS
  split
  · exact put_lt hb
  · exact hb
theorem putS_none (b : List Nat) (n : Int) : putS b n [] = b := by
  unfold putS
  split
  · exact put_nil _ _
  · rfl
theorem putS_length_le (b : List Nat) (n : Int) (l : List Int) : (putS b n l).length ≤ b.length + 4 * l.length := by
  unfold putS
  split
  · rename_i h
    have h4 : n.toNat ≤ 4 := by simp [wide] at h; omega
    rw [put_length]
    have := Nat.mul_le_mul_right l.length h4
    omega
  · omega
theorem take1 (x : Nat) (b : List Nat) : takeN (x :: b) 1 = x := by
  simp [takeN, can, wide, dec]
  intro h; omega

end Go.Proofs.Ytcojpbckeebohaa.PlainBits
