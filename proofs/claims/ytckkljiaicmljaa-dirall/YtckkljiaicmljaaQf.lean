/-
  Plain facts, on: bytes cut into entries; a name put in its place, taken out, found; that they rise. No program in this text.
-/
import Derived.Test.YtckkljiaicmljaaQb
namespace Go.Proofs.Ytckkljiaicmljaa
open Go

namespace PD
/-- Whether all may be and rise, above a. -/
def srt : ByteArray → List E → Bool
  | _, [] => true
  | a, e :: r => (may e && lt a e.1) && srt e.1 r
theorem srt_fold : ∀ (m : List E) (a : Bool × ByteArray), (m.foldl step a).1 = (a.1 && srt a.2 m)
  | [], a => by simp [srt]
  | e :: r, a => by
    rw [List.foldl_cons, srt_fold r]
    simp [step, srt, Bool.and_assoc]
theorem rise_srt (l : List E) : rise l = srt { data := #[] } l := by
  rw [rise, rs, srt_fold]; simp
theorem srt_cons {a : ByteArray} {e : E} {r : List E} (h : srt a (e :: r) = true) : may e = true ∧ lt a e.1 = true ∧ srt e.1 r = true := by
  simp only [srt, Bool.and_eq_true] at h
  exact ⟨h.1.1, h.1.2, h.2⟩
theorem srt_mk {a : ByteArray} {e : E} {r : List E} (h1 : may e = true) (h2 : lt a e.1 = true) (h3 : srt e.1 r = true) : srt a (e :: r) = true := by
  simp [srt, h1, h2, h3]
theorem srt_lower : ∀ {l : List E} {a b : ByteArray}, srt b l = true → lt a b = true → srt a l = true
  | [], _, _, _, _ => rfl
  | e :: r, a, b, h, k => by
    obtain ⟨h1, h2, h3⟩ := srt_cons h
    exact srt_mk h1 (lt_trans k h2) h3
theorem srt_above : ∀ {l : List E} {a : ByteArray}, srt a l = true → ∀ e ∈ l, lt a e.1 = true
  | [], _, _ => by simp
  | x :: r, a, h => by
    obtain ⟨_, h2, h3⟩ := srt_cons h
    intro e he
    rcases List.mem_cons.1 he with rfl | he
    · exact h2
    · exact srt_above (srt_lower h3 h2) e he

/-- Bytes cut into entries. -/
def ents : List Nat → Option (List E)
  | [] => some []
  | n :: r => if n + 1 ≤ r.length then (ents (r.drop (n + 1))).map fun l => (str (r.take n), ((r.getD n 0 : Nat) : Int)) :: l else none
termination_by l => l.length
decreasing_by simp; omega
theorem ents_nil : ents [] = some [] := by rw [ents]
theorem ents_no {n : Nat} {r : List Nat} (h : ¬ n + 1 ≤ r.length) : ents (n :: r) = none := by rw [ents, if_neg h]
theorem ents_yes {n : Nat} {r : List Nat} (h : n + 1 ≤ r.length) : ents (n :: r) = (ents (r.drop (n + 1))).map fun l => (str (r.take n), ((r.getD n 0 : Nat) : Int)) :: l := by rw [ents, if_pos h]
theorem str_size (l : List Nat) : (str l).size = l.length := by
  have : (str l).data.size = l.length := by simp [str, strOfNums]
  exact this
theorem ents_ent (e : E) (m : List Nat) (h0 : 0 ≤ e.2) : ents (ent e ++ m) = (ents m).map (e :: ·) := by
  have hc : ent e ++ m = e.1.size :: (nums e.1 ++ ([e.2.toNat] ++ m)) := by simp [ent]
  have hl := nums_length e.1
  rw [hc, ents_yes (by simp; omega)]
  congr 1
  · funext l
    congr 1
    have h1 : (nums e.1 ++ ([e.2.toNat] ++ m)).take e.1.size = nums e.1 := by
      rw [← hl, List.take_left']
      rfl
    have h2 : (nums e.1 ++ ([e.2.toNat] ++ m)).getD e.1.size 0 = e.2.toNat := by
      rw [List.getD_eq_getElem?_getD, List.getElem?_append_right (by omega), hl]; simp
    rw [h1, h2, str_nums]
    apply Prod.ext
    · rfl
    · simp; omega
  · have : (nums e.1 ++ ([e.2.toNat] ++ m)).drop (e.1.size + 1) = m := by
      rw [← List.append_assoc, List.drop_left']
      simp [hl]
    rw [this]
theorem ents_bytes : ∀ {l : List E}, (∀ e ∈ l, may e = true) → ents (bytes l) = some l
  | [], _ => by rw [show bytes [] = [] from rfl, ents_nil]
  | e :: r, h => by
    have := may_size (h e (by simp))
    rw [show bytes (e :: r) = ent e ++ bytes r from rfl, ents_ent e _ (by omega), ents_bytes fun x hx => h x (by simp [hx])]
    rfl
theorem bytes_ents : ∀ (n : Nat) {bs : List Nat} {l : List E}, bs.length ≤ n → (∀ b ∈ bs, b < 256) → ents bs = some l → bytes l = bs
  | _, [], l, _, _, h => by
    rw [ents_nil] at h
    injection h with h
    subst h
    rfl
  | 0, n :: r, l, hn, _, _ => by simp at hn
  | k + 1, n :: r, l, hn, hb, h => by
    by_cases hl : n + 1 ≤ r.length
    · rw [ents_yes hl] at h
      obtain ⟨m, hm, rfl⟩ := Option.map_eq_some_iff.1 h
      have ih := bytes_ents k (by simp at hn ⊢; omega) (fun b hb' => hb b (by simp [List.mem_of_mem_drop hb'])) hm
      have hg : r.getD n 0 = r[n]'(by omega) := by
        rw [List.getD_eq_getElem?_getD, List.getElem?_eq_getElem (by omega)]; rfl
      rw [show bytes ((str (r.take n), ((r.getD n 0 : Nat) : Int)) :: m) = ent (str (r.take n), ((r.getD n 0 : Nat) : Int)) ++ bytes m from rfl, ih, ent]
      simp only [str_size, List.length_take]
      rw [nums_str _ fun b hb' => hb b (by simp [List.mem_of_mem_take hb']), hg]
      rw [show min n r.length = n by omega]
      simp
    · rw [ents_no hl] at h
      cases h

/-- What Take tells. -/
def took (s : ByteArray) : Option (List E) := if s.size ≤ 120 then (ents (nums s)).filter rise else none
def tk (s : ByteArray) : Bool := (took s).isSome
def tl (s : ByteArray) : List E := (took s).getD []
theorem took_none {s : ByteArray} (h : took s = none) : tk s = false ∧ tl s = [] := by simp [tk, tl, h]
theorem took_some {s : ByteArray} {l : List E} (h : took s = some l) : tk s = true ∧ tl s = l := by simp [tk, tl, h]
theorem took_long {s : ByteArray} (h : ¬ s.size ≤ 120) : took s = none := by rw [took, if_neg h]
theorem took_cut {s : ByteArray} (h : s.size ≤ 120) (k : ents (nums s) = none) : took s = none := by rw [took, if_pos h, k]; rfl
theorem took_is {s : ByteArray} {l : List E} (h : s.size ≤ 120) (k : ents (nums s) = some l) : took s = if rise l = true then some l else none := by
  rw [took, if_pos h, k]
  cases hr : rise l <;> simp [Option.filter, hr]
theorem ents_length {bs : List Nat} {l : List E} : ∀ {n : Nat}, bs.length ≤ n → ents bs = some l → l.length ≤ bs.length := by
  intro n
  induction n generalizing bs l with
  | zero =>
    intro hn h
    cases bs with
    | nil => rw [ents_nil] at h; injection h with h; subst h; simp
    | cons _ _ => simp at hn
  | succ k ih =>
    intro hn h
    cases bs with
    | nil => rw [ents_nil] at h; injection h with h; subst h; simp
    | cons n r =>
      by_cases hl : n + 1 ≤ r.length
      · rw [ents_yes hl] at h
        obtain ⟨m, hm, rfl⟩ := Option.map_eq_some_iff.1 h
        have := ih (by simp at hn ⊢; omega) hm
        simp at this ⊢
        omega
      · rw [ents_no hl] at h
        cases h
theorem put_size (l : List E) : (put l).size ≤ 120 := by
  unfold put
  split
  · rename_i h
    simp only [ok, Bool.and_eq_true, decide_eq_true_eq] at h
    rw [str_size]; exact h.2
  · decide
theorem ok_rise {l : List E} (h : ok l = true) : rise l = true := by
  simp only [ok, Bool.and_eq_true] at h
  exact h.1
theorem put_nums {l : List E} (h : ok l = true) : nums (put l) = bytes l := by
  rw [put, if_pos h, nums_str _ (bytes_lt (rise_may (ok_rise h)))]
/-- What is put is taken. -/
theorem took_put {l : List E} (h : ok l = true) : took (put l) = some l := by
  have hr := ok_rise h
  rw [took_is (put_size l) (by rw [put_nums h, ents_bytes (rise_may hr)]), if_pos hr]
theorem tk_size {s : ByteArray} (h : tk s = true) : s.size ≤ 120 := by
  rcases Nat.lt_or_ge 120 s.size with k | k
  · rw [(took_none (took_long (by omega))).1] at h; cases h
  · exact k

/-- e in its place; the name taken out; found. -/
def wth (l : List E) (e : E) : List E := if isAt l e.1 = true then l else l.take (place l e.1) ++ e :: l.drop (place l e.1)
def less (l : List E) (n : ByteArray) : List E := if isAt l n = true then l.take (place l n) ++ l.drop (place l n + 1) else l
def find (l : List E) (n : ByteArray) : Int := if isAt l n = true then inoAt l n else 0
theorem take_place (l : List E) (n : ByteArray) : l.take (place l n) = l.takeWhile fun e => lt e.1 n := by
  rw [place]
  induction l with
  | nil => rfl
  | cons x r ih =>
    by_cases hx : lt x.1 n = true
    · simp [hx, ih]
    · simp [hx]
theorem while_low (l : List E) (n : ByteArray) : ∀ e ∈ l.takeWhile (fun e => lt e.1 n), lt e.1 n = true := by
  induction l with
  | nil => simp
  | cons x r ih =>
    by_cases hx : lt x.1 n = true
    · rw [List.takeWhile_cons, if_pos hx]
      intro e he
      rcases List.mem_cons.1 he with rfl | he
      · exact hx
      · exact ih e he
    · rw [List.takeWhile_cons, if_neg hx]
      simp
theorem place_low (l : List E) (n : ByteArray) : ∀ e ∈ l.take (place l n), lt e.1 n = true := by
  rw [take_place]
  exact while_low l n
theorem isAt_of {l : List E} {n : ByteArray} {e : E} (h : l[place l n]? = some e) : isAt l n = (e.1.toList == n.toList) := by rw [isAt, h]
theorem isAt_cons_lt {x : E} {r : List E} {n : ByteArray} (h : lt x.1 n = true) : place (x :: r) n = place r n + 1 ∧ isAt (x :: r) n = isAt r n ∧ inoAt (x :: r) n = inoAt r n := by
  have hp : place (x :: r) n = place r n + 1 := by simp [place, h]
  refine ⟨hp, ?_, ?_⟩
  · rw [isAt, hp, List.getElem?_cons_succ, ← isAt]
  · rw [inoAt, hp, List.getElem?_cons_succ, ← inoAt]
theorem isAt_cons_ge {x : E} {r : List E} {n : ByteArray} (h : lt x.1 n = false) : place (x :: r) n = 0 ∧ isAt (x :: r) n = (x.1.toList == n.toList) ∧ inoAt (x :: r) n = x.2 := by
  have hp : place (x :: r) n = 0 := by simp [place, h]
  refine ⟨hp, ?_, ?_⟩
  · rw [isAt, hp]; rfl
  · rw [inoAt, hp]; rfl
theorem beq_yes {a b : ByteArray} (h : (a.toList == b.toList) = true) : a = b := toList_inj (by simpa using h)
theorem beq_eq (a b : ByteArray) : (a.toList == b.toList) = decide (a = b) := by
  by_cases h : a = b
  · subst h; simp
  · rw [decide_eq_false h]
    cases k : a.toList == b.toList with
    | false => rfl
    | true => exact absurd (beq_yes k) h

/-- The document's find, on rows that rise. -/
def has (l : List E) (n : ByteArray) : Bool := l.any fun e => decide (e.1 = n)
def rfind (l : List E) (n : ByteArray) : Int := match l.find? fun e => decide (e.1 = n) with
  | some e => e.2
  | none => 0
theorem ne_above {l : List E} {a n : ByteArray} (h : srt a l = true) (k : n = a ∨ lt n a = true) : has l n = false ∧ l.find? (fun e => decide (e.1 = n)) = none := by
  have hall : ∀ e ∈ l, ¬ e.1 = n := fun e he hen => by
    have h1 := srt_above h e he
    rw [hen] at h1
    rcases k with rfl | k
    · rw [lt_irrefl] at h1; cases h1
    · rw [lt_asymm k] at h1; cases h1
  constructor
  · rw [has, List.any_eq_false]
    intro e he
    simpa using hall e he
  · rw [List.find?_eq_none]
    intro e he
    simpa using hall e he
theorem find_same : ∀ {l : List E} {a : ByteArray} (n : ByteArray), srt a l = true → isAt l n = has l n ∧ find l n = rfind l n
  | [], a, n, _ => ⟨rfl, rfl⟩
  | x :: r, a, n, h => by
    obtain ⟨h1, h2, h3⟩ := srt_cons h
    cases hl : lt x.1 n with
    | true =>
      obtain ⟨p1, p2, p3⟩ := isAt_cons_lt (r := r) hl
      obtain ⟨i1, i2⟩ := find_same n h3
      have hne : ¬ x.1 = n := fun e => by rw [e, lt_irrefl] at hl; cases hl
      refine ⟨?_, ?_⟩
      · rw [p2, i1]; simp [has, hne]
      · rw [find, p2, p3, ← find, i2]; simp [rfind, hne]
    | false =>
      obtain ⟨p1, p2, p3⟩ := isAt_cons_ge (r := r) hl
      by_cases hen : x.1 = n
      · refine ⟨?_, ?_⟩
        · rw [p2, beq_eq]; simp [has, hen]
        · rw [find, p2, p3, beq_eq]; simp [rfind, hen]
      · obtain ⟨k1, k2⟩ := ne_above (n := n) h3 (.inr (lt_total hl hen))
        refine ⟨?_, ?_⟩
        · rw [p2, beq_eq]; simp [has, hen] at k1 ⊢; exact k1
        · rw [find, p2, beq_eq]; simp [rfind, hen, k2]

/-- The document's With, of any row: ahead of the first name that is greater. -/
def gat (l : List E) (n : ByteArray) : Nat := (l.takeWhile fun e => !lt n e.1).length
def rwth (l : List E) (e : E) : List E := if has l e.1 = true then l else l.take (gat l e.1) ++ e :: l.drop (gat l e.1)
theorem gat_same : ∀ {l : List E} {a : ByteArray} (n : ByteArray), srt a l = true → has l n = false → gat l n = place l n
  | [], _, _, _, _ => rfl
  | x :: r, a, n, h, k => by
    obtain ⟨h1, h2, h3⟩ := srt_cons h
    have hk : ¬ x.1 = n ∧ has r n = false := by simpa [has] using k
    cases hl : lt x.1 n with
    | true =>
      have := gat_same n h3 hk.2
      rw [(isAt_cons_lt (r := r) hl).1, ← this]
      simp [gat, lt_asymm hl]
    | false =>
      rw [(isAt_cons_ge (r := r) hl).1]
      simp [gat, lt_total hl hk.1]
theorem with_same {l : List E} {a : ByteArray} (e : E) (h : srt a l = true) : wth l e = rwth l e := by
  have hs := (find_same e.1 h).1
  rw [wth, rwth, hs]
  cases hh : has l e.1 with
  | true => rfl
  | false => rw [gat_same e.1 h hh]
/-- The document's Less. -/
def rless (l : List E) (n : ByteArray) : List E := if has l n = true then l.filter (fun e => !decide (e.1 = n)) else l
theorem filter_above {l : List E} {a n : ByteArray} (h : srt a l = true) (k : n = a ∨ lt n a = true) : l.filter (fun e => !decide (e.1 = n)) = l := by
  rw [List.filter_eq_self]
  intro e he
  have := (ne_above h k).1
  rw [has, List.any_eq_false] at this
  simpa using this e he
theorem cut_same : ∀ {l : List E} {a : ByteArray} (n : ByteArray), srt a l = true → isAt l n = true → l.take (place l n) ++ l.drop (place l n + 1) = l.filter (fun e => !decide (e.1 = n))
  | [], _, _, _, k => by cases k
  | x :: r, a, n, h, k => by
    obtain ⟨h1, h2, h3⟩ := srt_cons h
    cases hl : lt x.1 n with
    | true =>
      obtain ⟨p1, p2, p3⟩ := isAt_cons_lt (r := r) hl
      rw [p2] at k
      have hne : ¬ x.1 = n := fun e => by rw [e, lt_irrefl] at hl; cases hl
      rw [p1, List.take_succ_cons, List.drop_succ_cons, List.cons_append, cut_same n h3 k]
      simp [hne]
    | false =>
      obtain ⟨p1, p2, p3⟩ := isAt_cons_ge (r := r) hl
      rw [p2] at k
      have hen := beq_yes k
      rw [p1, ← hen, List.filter_cons]
      simp
      rw [eq_comm, List.filter_eq_self]
      intro e he
      have := (ne_above (n := x.1) h3 (.inl rfl)).1
      rw [has, List.any_eq_false] at this
      simpa using this e he
theorem less_same {l : List E} {a : ByteArray} (n : ByteArray) (h : srt a l = true) : less l n = rless l n := by
  have hs := (find_same n h).1
  rw [less, rless, ← hs]
  cases hh : isAt l n with
  | true => rw [if_pos rfl, if_pos rfl, cut_same n h hh]
  | false => rfl
theorem srt_put : ∀ {l : List E} {a : ByteArray} {e : E}, srt a l = true → may e = true → lt a e.1 = true → isAt l e.1 = false → srt a (l.take (place l e.1) ++ e :: l.drop (place l e.1)) = true
  | [], a, e, _, k, m, _ => srt_mk k m rfl
  | x :: r, a, e, h, k, m, i => by
    obtain ⟨h1, h2, h3⟩ := srt_cons h
    cases hl : lt x.1 e.1 with
    | true =>
      obtain ⟨p1, p2, p3⟩ := isAt_cons_lt (r := r) hl
      rw [p2] at i
      rw [p1, List.take_succ_cons, List.drop_succ_cons, List.cons_append]
      exact srt_mk h1 h2 (srt_put h3 k hl i)
    | false =>
      obtain ⟨p1, p2, p3⟩ := isAt_cons_ge (r := r) hl
      rw [p2, beq_eq, decide_eq_false_iff_not] at i
      rw [p1, List.take_zero, List.drop_zero, List.nil_append]
      exact srt_mk k m (srt_mk h1 (lt_total hl i) h3)
theorem srt_wth {l : List E} {a : ByteArray} {e : E} (h : srt a l = true) (k : may e = true) (m : lt a e.1 = true) : srt a (wth l e) = true := by
  rw [wth]
  cases hi : isAt l e.1 with
  | true => exact h
  | false => exact srt_put h k m hi
theorem wth_place {l : List E} {e : E} (h : isAt l e.1 = false) : place (wth l e) e.1 = place l e.1 ∧ (wth l e)[place l e.1]? = some e := by
  have hw : wth l e = l.take (place l e.1) ++ e :: l.drop (place l e.1) := by rw [wth, h]; rfl
  have hp := place_le l e.1
  have hlen : (l.take (place l e.1)).length = place l e.1 := by rw [List.length_take]; omega
  have hat : (wth l e)[place l e.1]? = some e := by
    rw [hw, List.getElem?_append_right (by omega), hlen]; simp
  refine ⟨low_place _ _ _ e ?_ hat (lt_irrefl _), hat⟩
  intro x hx
  rw [hw, List.take_append_of_le_length (by omega), List.take_take, Nat.min_self] at hx
  exact place_low l e.1 x hx
theorem wth_isAt {l : List E} {e : E} (h : isAt l e.1 = false) : isAt (wth l e) e.1 = true ∧ find (wth l e) e.1 = e.2 ∧ less (wth l e) e.1 = l := by
  obtain ⟨h1, h2⟩ := wth_place h
  have hw : wth l e = l.take (place l e.1) ++ e :: l.drop (place l e.1) := by rw [wth, h]; rfl
  have hlen : (l.take (place l e.1)).length = place l e.1 := by rw [List.length_take]; have := place_le l e.1; omega
  have hi : isAt (wth l e) e.1 = true := by rw [isAt, h1, h2]; simp
  refine ⟨hi, ?_, ?_⟩
  · rw [find, hi, if_pos rfl, inoAt, h1, h2]
  · rw [less, hi, if_pos rfl, h1, hw, List.take_append_of_le_length (by omega), List.take_take, Nat.min_self, ← List.drop_drop, List.drop_left' hlen]
    simp
theorem wth_length (l : List E) (e : E) : (wth l e).length ≤ l.length + 1 := by
  rw [wth]
  split
  · omega
  · simp; omega
theorem srt_lt : ∀ {l : List E} {a : ByteArray} {i : Nat} {x y : E}, srt a l = true → l[i]? = some x → l[i + 1]? = some y → lt x.1 y.1 = true
  | [], _, _, _, _, _, h, _ => by simp at h
  | z :: r, a, 0, x, y, h, h1, h2 => by
    simp at h1 h2
    subst h1
    exact srt_above (srt_cons h).2.2 y (List.mem_of_getElem? h2)
  | z :: r, a, i + 1, x, y, h, h1, h2 => srt_lt (srt_cons h).2.2 (by simpa using h1) (by simpa using h2)
end PD
end Go.Proofs.Ytckkljiaicmljaa
