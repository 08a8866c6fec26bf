/- 
  Plain facts on the sum that the document's chapter 2 sets: a bit's step, a byte's step, a text's fold, over plain numbers. -/
namespace PlainCrc

def P : Nat := 0x82F63B78

/-- One bit's step. -/
def bit (c : Nat) : Nat := if c % 2 = 1 then (c / 2) ^^^ P else c / 2

def bits : Nat → Nat → Nat
  | 0, c => c
  | n + 1, c => bits n (bit c)

/-- One byte's step. -/
def byte (c b : Nat) : Nat := bits 8 (c ^^^ b)

def fold (c : Nat) (l : List Nat) : Nat := l.foldl byte c

def sum (l : List Nat) : Nat := 4294967295 - fold 4294967295 l

theorem bit_lt (c : Nat) (h : c < 2 ^ 32) : bit c < 2 ^ 32 := by
  unfold bit
  split
  · exact Nat.xor_lt_two_pow (by omega) (by decide)
  · omega

theorem bits_lt (n : Nat) : ∀ c, c < 2 ^ 32 → bits n c < 2 ^ 32 := by
  induction n with
  | zero => intro c h; exact h
  | succ n ih => intro c h; exact ih _ (bit_lt c h)

theorem byte_lt (c b : Nat) (h : c < 2 ^ 32) (hb : b < 256) : byte c b < 2 ^ 32 :=
  bits_lt 8 _ (Nat.xor_lt_two_pow h (by omega))

theorem fold_lt (l : List Nat) : ∀ c, c < 2 ^ 32 → (∀ b ∈ l, b < 256) → fold c l < 2 ^ 32 := by
  induction l with
  | nil => intro c h _; exact h
  | cons b l ih =>
    intro c h hl
    exact ih (byte c b) (byte_lt c b h (hl b (by simp))) (fun x hx => hl x (by simp [hx]))

theorem bit_xor (a b : Nat) : bit (a ^^^ b) = bit a ^^^ bit b := by
  unfold bit
  have h1 : (a ^^^ b) / 2 = a / 2 ^^^ b / 2 := Nat.xor_div_two
  have h2 : (a ^^^ b) % 2 = (a + b) % 2 := by
    have := @Nat.xor_mod_two_eq_one a b
    omega
  rw [h1, h2]
  rcases Nat.mod_two_eq_zero_or_one a with ha | ha <;> rcases Nat.mod_two_eq_zero_or_one b with hb | hb
  · have : (a + b) % 2 = 0 := by omega
    simp [ha, hb, this]
  · have : (a + b) % 2 = 1 := by omega
    simp [ha, hb, this, Nat.xor_assoc]
  · have : (a + b) % 2 = 1 := by omega
    simp only [ha, hb, this, if_true]
    simp [Nat.xor_assoc, Nat.xor_comm P]
  · have : (a + b) % 2 = 0 := by omega
    simp only [ha, hb, this, if_true]
    have e : (a / 2 ^^^ P) ^^^ (b / 2 ^^^ P) = a / 2 ^^^ b / 2 := by
      rw [Nat.xor_assoc, Nat.xor_comm P (b / 2 ^^^ P), Nat.xor_assoc (b / 2), Nat.xor_self, Nat.xor_zero]
    simp [e]

theorem bits_xor (n : Nat) : ∀ a b, bits n (a ^^^ b) = bits n a ^^^ bits n b := by
  induction n with
  | zero => intro a b; rfl
  | succ n ih => intro a b; simp only [bits, bit_xor, ih]

theorem bits_add (m : Nat) : ∀ n c, bits (m + n) c = bits n (bits m c) := by
  induction m with
  | zero => intro n c; simp [bits]
  | succ m ih => intro n c; rw [Nat.succ_add]; exact ih n (bit c)

theorem byte_xor (c d a b : Nat) : byte (c ^^^ d) (a ^^^ b) = byte c a ^^^ byte d b := by
  unfold byte
  rw [← bits_xor]
  congr 1
  rw [Nat.xor_assoc, Nat.xor_assoc, ← Nat.xor_assoc d, Nat.xor_comm d a, Nat.xor_assoc a]

/-- Two folds over texts that are as long go together. -/
theorem fold_xor (l : List Nat) : ∀ (m : List Nat) (c d : Nat), l.length = m.length → fold (c ^^^ d) (List.zipWith (· ^^^ ·) l m) = fold c l ^^^ fold d m := by
  induction l with
  | nil =>
    intro m c d h
    cases m with
    | nil => rfl
    | cons _ _ => simp at h
  | cons a l ih =>
    intro m c d h
    cases m with
    | nil => simp at h
    | cons b m =>
      simp only [List.length_cons, Nat.add_right_cancel_iff] at h
      have := ih m (byte c a) (byte d b) h
      simp only [fold, List.zipWith_cons_cons, List.foldl_cons, byte_xor] at this ⊢
      exact this

theorem bit_ne (c : Nat) (h : c < 2 ^ 32) (n : c ≠ 0) : bit c ≠ 0 := by
  unfold bit
  split
  · intro e
    have e2 : c / 2 = P := by
      have := congrArg (· ^^^ P) e
      simpa [Nat.xor_assoc] using this
    have : P = 2197175160 := by decide
    omega
  · omega

theorem bits_ne (n : Nat) : ∀ c, c < 2 ^ 32 → c ≠ 0 → bits n c ≠ 0 := by
  induction n with
  | zero => intro c _ n; exact n
  | succ n ih => intro c h k; exact ih _ (bit_lt c h) (bit_ne c h k)

/-- Noughts behind it don't hide a difference. -/
theorem fold_ne (k : Nat) : ∀ c, c < 2 ^ 32 → c ≠ 0 → fold c (List.replicate k 0) ≠ 0 := by
  induction k with
  | zero => intro c _ n; exact n
  | succ k ih =>
    intro c h n
    rw [List.replicate_succ]
    refine ih (byte c 0) (byte_lt c 0 h (by decide)) ?_
    simpa [byte] using bits_ne 8 c h n

theorem fold_nought (k : Nat) : fold 0 (List.replicate k 0) = 0 := by
  induction k with
  | zero => rfl
  | succ k ih =>
    rw [List.replicate_succ]
    have e : byte 0 0 = 0 := by decide
    show fold (byte 0 0) _ = 0
    rw [e]; exact ih

theorem fold_append (c : Nat) (l m : List Nat) : fold c (l ++ m) = fold (fold c l) m := by
  simp [fold]

theorem bit_two (c : Nat) : bit (2 * c) = c := by
  unfold bit
  have : 2 * c % 2 = 0 := by omega
  simp [this]

theorem bits_shift (s : Nat) : ∀ c, bits s (c * 2 ^ s) = c := by
  induction s with
  | zero => intro c; simp [bits]
  | succ s ih =>
    intro c
    have e : c * 2 ^ (s + 1) = 2 * (c * 2 ^ s) := by rw [Nat.pow_succ]; ac_rfl
    rw [bits, e, bit_two, ih]

/-- A number's s bits at its foot, then the rest: as its bits in their row. -/
theorem bits_low (s v : Nat) : bits s v = bits s (v % 2 ^ s) ^^^ v / 2 ^ s := by
  have e : v = v % 2 ^ s ^^^ (v / 2 ^ s * 2 ^ s) := by
    apply Nat.eq_of_testBit_eq
    intro i
    rw [Nat.testBit_xor]
    have h1 : (v % 2 ^ s).testBit i = (decide (i < s) && v.testBit i) := Nat.testBit_mod_two_pow v s i
    have h2 : (v / 2 ^ s * 2 ^ s).testBit i = (decide (s ≤ i) && (v / 2 ^ s).testBit (i - s)) := Nat.testBit_mul_two_pow (v / 2 ^ s) i s
    have h3 : (v / 2 ^ s).testBit (i - s) = v.testBit (s + (i - s)) := by
      have := Nat.testBit_div_two_pow (n := s) v (i - s)
      simpa [Nat.add_comm] using this
    rw [h1, h2, h3]
    by_cases h : i < s
    · have k : ¬ s ≤ i := by omega
      simp [h, k]
    · have : s + (i - s) = i := by omega
      rw [this]; simp [h]; omega
  have := bits_xor s (v % 2 ^ s) (v / 2 ^ s * 2 ^ s)
  rw [← e, bits_shift s] at this
  exact this

theorem bits_foot (v : Nat) : bits 8 v = bits 8 (v % 256) ^^^ v / 256 := bits_low 8 v

/-- The table: what four steps make of four bits. -/
def tab : List Nat := [0, 274646895, 549293790, 820201905, 1098587580, 1361435347, 1640403810, 1905808397, 2197175160, 2460548119, 2722870694, 2987750089, 3280807620, 3553878443, 3811616794, 4084100981]
theorem tab_at (i : Nat) (h : i < 16) : tab.getD i 0 = bits 4 i := by
  have : ∀ i : Fin 16, tab.getD i.val 0 = bits 4 i.val := by decide
  exact this ⟨i, h⟩
theorem tab_lt (i : Nat) : tab.getD i 0 < 2 ^ 32 := by
  rcases Nat.lt_or_ge i 16 with h | h
  · rw [tab_at i h]; exact bits_lt 4 i (by omega)
  · rw [List.getD_eq_getElem?_getD, List.getElem?_eq_none (by simpa [tab] using h)]; decide
/-- Four bits at a time. -/
def tabAt (i : Nat) : Nat := tab.getD i 0
def nib (c : Nat) : Nat := c / 16 ^^^ tabAt (c % 16)
theorem nib_eq (c : Nat) : nib c = bits 4 c := by
  rw [bits_low 4 c, nib, tabAt, tab_at _ (Nat.mod_lt _ (by decide)), Nat.xor_comm]
theorem byte_nib (c b : Nat) : nib (nib (c ^^^ b)) = byte c b := by
  rw [nib_eq, nib_eq, byte, show (8 : Nat) = 4 + 4 from rfl, bits_add]
theorem nib_lt (c : Nat) (h : c < 2 ^ 32) : nib c < 2 ^ 32 := by rw [nib_eq]; exact bits_lt 4 c h

theorem bits_go (c u : Nat) : bits 8 (c ^^^ u) = byte c (u % 256) ^^^ u / 256 := by
  rw [bits_xor, bits_foot u, ← Nat.xor_assoc, ← bits_xor]; rfl

/-- The five bytes of a number, at its foot first, from nought: as its forty bits in their row. -/
theorem fold_five (v : Nat) (h : v < 2 ^ 40) : fold 0 [v % 256, v / 256 % 256, v / 65536 % 256, v / 16777216 % 256, v / 4294967296 % 256] = bits 40 v := by
  have z : v / 4294967296 / 256 = 0 := by omega
  have d1 : v / 256 / 256 = v / 65536 := by omega
  have d2 : v / 65536 / 256 = v / 16777216 := by omega
  have d3 : v / 16777216 / 256 = v / 4294967296 := by omega
  have e : bits 40 v = bits 8 (bits 8 (bits 8 (bits 8 (bits 8 (0 ^^^ v))))) := by
    rw [Nat.zero_xor, show (40 : Nat) = 8 + (8 + (8 + (8 + 8))) from rfl, bits_add, bits_add, bits_add, bits_add]
  rw [e, bits_go, bits_go, d1, bits_go, d2, bits_go, d3, bits_go, z, Nat.xor_zero]
  rfl

/-- Some bits within 32, turned anywhere in five bytes, never come to nought. -/
theorem turned_ne (x s : Nat) (hx : x < 2 ^ 32) (n : x ≠ 0) (hs : s < 8) : bits 40 (x * 2 ^ s) ≠ 0 := by
  rw [show (40 : Nat) = s + (40 - s) by omega, bits_add, bits_shift]
  exact bits_ne _ x hx n

/-- Text, five bytes turned by a number's five bytes, text: another fold. -/
theorem fold_turned (c : Nat) (p q : List Nat) (b0 b1 b2 b3 b4 x s : Nat) (hx : x < 2 ^ 32) (n : x ≠ 0) (hs : s < 8) :
    fold c (p ++ [b0 ^^^ x * 2 ^ s % 256, b1 ^^^ x * 2 ^ s / 256 % 256, b2 ^^^ x * 2 ^ s / 65536 % 256, b3 ^^^ x * 2 ^ s / 16777216 % 256, b4 ^^^ x * 2 ^ s / 4294967296 % 256] ++ q)
      ≠ fold c (p ++ [b0, b1, b2, b3, b4] ++ q) := by
  have hv : x * 2 ^ s < 2 ^ 40 := by
    have : 2 ^ s ≤ 2 ^ 7 := Nat.pow_le_pow_right (by decide) (by omega)
    calc x * 2 ^ s ≤ x * 2 ^ 7 := Nat.mul_le_mul_left x this
      _ < 2 ^ 40 := by omega
  have t := turned_ne x s hx n hs
  generalize x * 2 ^ s = v at hv t ⊢
  rw [← fold_five v hv] at t
  have lt5 : fold 0 [v % 256, v / 256 % 256, v / 65536 % 256, v / 16777216 % 256, v / 4294967296 % 256] < 2 ^ 32 := by
    apply fold_lt _ _ (by decide)
    intro b hb
    simp only [List.mem_cons, List.not_mem_nil, or_false] at hb
    omega
  have last := fold_ne q.length _ lt5 t
  have z : List.zipWith (· ^^^ ·) q (List.replicate q.length 0) = q := by
    clear last
    induction q with
    | nil => rfl
    | cons a q ih => simp [List.replicate_succ, ih]
  have m := fold_xor [b0, b1, b2, b3, b4] [v % 256, v / 256 % 256, v / 65536 % 256, v / 16777216 % 256, v / 4294967296 % 256] (fold c p) 0 rfl
  have r := fold_xor q (List.replicate q.length 0) (fold (fold c p) [b0, b1, b2, b3, b4]) (fold 0 [v % 256, v / 256 % 256, v / 65536 % 256, v / 16777216 % 256, v / 4294967296 % 256]) (by simp)
  rw [z, ← m] at r
  simp only [Nat.xor_zero, List.zipWith_cons_cons, List.zipWith_nil_left] at r
  rw [fold_append, fold_append, fold_append, fold_append, r]
  intro e
  apply last
  have := congrArg (fold (fold (fold c p) [b0, b1, b2, b3, b4]) q ^^^ ·) e
  simpa [← Nat.xor_assoc] using this

theorem flip (a : Nat) (h : a < 2 ^ 32) : a ^^^ 4294967295 = 4294967295 - a := by
  have e : a ^^^ 4294967295 = (BitVec.ofNat 32 a ^^^ BitVec.allOnes 32).toNat := by
    rw [BitVec.toNat_xor, BitVec.toNat_ofNat, BitVec.toNat_allOnes, Nat.mod_eq_of_lt h]
  rw [e, BitVec.xor_allOnes, BitVec.toNat_not, BitVec.toNat_ofNat, Nat.mod_eq_of_lt h]

/-- Sums of three that are as long go together. -/
theorem sum_join (a b c : List Nat) (hab : a.length = b.length) (hbc : b.length = c.length) (ha : ∀ x ∈ a, x < 256) (hb : ∀ x ∈ b, x < 256) (hc : ∀ x ∈ c, x < 256) :
    sum (List.zipWith (· ^^^ ·) (List.zipWith (· ^^^ ·) a b) c) = sum a ^^^ sum b ^^^ sum c := by
  have h1 := fold_xor a b 4294967295 4294967295 hab
  have h2 := fold_xor (List.zipWith (· ^^^ ·) a b) c (4294967295 ^^^ 4294967295) 4294967295 (by simp; omega)
  rw [h1, Nat.xor_self, Nat.zero_xor] at h2
  have la := fold_lt a 4294967295 (by decide) ha
  have lb := fold_lt b 4294967295 (by decide) hb
  have lc := fold_lt c 4294967295 (by decide) hc
  unfold sum
  rw [h2]
  rw [← flip _ (Nat.xor_lt_two_pow (Nat.xor_lt_two_pow la lb) lc), ← flip _ la, ← flip _ lb, ← flip _ lc]
  generalize fold 4294967295 a = x
  generalize fold 4294967295 b = y
  generalize fold 4294967295 c = z
  have k : (4294967295 : Nat) ^^^ 4294967295 = 0 := by decide
  generalize (4294967295 : Nat) = o at k ⊢
  calc x ^^^ y ^^^ z ^^^ o = x ^^^ y ^^^ (o ^^^ o) ^^^ z ^^^ o := by rw [k, Nat.xor_zero]
    _ = x ^^^ o ^^^ (y ^^^ o) ^^^ (z ^^^ o) := by ac_rfl

end PlainCrc
