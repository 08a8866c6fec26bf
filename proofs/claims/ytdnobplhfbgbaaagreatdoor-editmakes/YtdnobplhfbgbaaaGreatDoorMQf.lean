/-
  Plain facts, on: bytes cut into entries; a name put in its place, taken out, found; that they rise. No program in this text.
  Contracts: dir.Put, dir.entries, dir.Take.
  Contracts: dir.Find, dir.With, dir.Less.
  An entry put behind a row of one's own. Contracts: the document's FindDir, SameEntries.
-/
import Derived.Test.YtdnobplhfbgbaaaGreatDoorMQa
namespace Go.Proofs.YtdnobplhfbgbaaaGreatDoor
open Go

namespace PD
/-- Whether all may be and rise, above a. -/
def srt : ByteArray → List E → Bool
  | _, [] => true
  | a, e :: r => (may e && lt a e.1) && srt e.1 r
theorem srt_fold : ∀ (m : List E) (a : Bool × ByteArray), (m.foldl step a).1 = (a.1 && srt a.2 m)
  | [], a => by simp [srt]
  | e :: r, a => by
    rw [List.foldl_cons, srt_fold r]
    simp [step, srt, Bool.and_assoc]
theorem rise_srt (l : List E) : rise l = srt { data := #[] } l := by
  rw [rise, rs, srt_fold]; simp
theorem srt_cons {a : ByteArray} {e : E} {r : List E} (h : srt a (e :: r) = true) : may e = true ∧ lt a e.1 = true ∧ srt e.1 r = true := by
  simp only [srt, Bool.and_eq_true] at h
  exact ⟨h.1.1, h.1.2, h.2⟩
theorem srt_mk {a : ByteArray} {e : E} {r : List E} (h1 : may e = true) (h2 : lt a e.1 = true) (h3 : srt e.1 r = true) : srt a (e :: r) = true := by
  simp [srt, h1, h2, h3]
theorem srt_lower : ∀ {l : List E} {a b : ByteArray}, srt b l = true → lt a b = true → srt a l = true
  | [], _, _, _, _ => rfl
  | e :: r, a, b, h, k => by
    obtain ⟨h1, h2, h3⟩ := srt_cons h
    exact srt_mk h1 (lt_trans k h2) h3
theorem srt_above : ∀ {l : List E} {a : ByteArray}, srt a l = true → ∀ e ∈ l, lt a e.1 = true
  | [], _, _ => by simp
  | x :: r, a, h => by
    obtain ⟨_, h2, h3⟩ := srt_cons h
    intro e he
    rcases List.mem_cons.1 he with rfl | he
    · exact h2
    · exact srt_above (srt_lower h3 h2) e he

/-- Bytes cut into entries. -/
def ents : List Nat → Option (List E)
  | [] => some []
  | n :: r => if n + 1 ≤ r.length then (ents (r.drop (n + 1))).map fun l => (str (r.take n), ((r.getD n 0 : Nat) : Int)) :: l else none
termination_by l => l.length
decreasing_by simp; omega
theorem ents_nil : ents [] = some [] := by rw [ents]
theorem ents_no {n : Nat} {r : List Nat} (h : ¬ n + 1 ≤ r.length) : ents (n :: r) = none := by rw [ents, if_neg h]
theorem ents_yes {n : Nat} {r : List Nat} (h : n + 1 ≤ r.length) : ents (n :: r) = (ents (r.drop (n + 1))).map fun l => (str (r.take n), ((r.getD n 0 : Nat) : Int)) :: l := by rw [ents, if_pos h]
theorem str_size (l : List Nat) : (str l).size = l.length := by
  have : (str l).data.size = l.length := by simp [str, strOfNums]
  exact this
theorem ents_ent (e : E) (m : List Nat) (h0 : 0 ≤ e.2) : ents (ent e ++ m) = (ents m).map (e :: ·) := by
  have hc : ent e ++ m = e.1.size :: (nums e.1 ++ ([e.2.toNat] ++ m)) := by simp [ent]
  have hl := nums_length e.1
  rw [hc, ents_yes (by simp; omega)]
  congr 1
  · funext l
    congr 1
    have h1 : (nums e.1 ++ ([e.2.toNat] ++ m)).take e.1.size = nums e.1 := by
      rw [← hl, List.take_left']
      rfl
    have h2 : (nums e.1 ++ ([e.2.toNat] ++ m)).getD e.1.size 0 = e.2.toNat := by
      rw [List.getD_eq_getElem?_getD, List.getElem?_append_right (by omega), hl]; simp
    rw [h1, h2, str_nums]
    apply Prod.ext
    · rfl
    · simp; omega
  · have : (nums e.1 ++ ([e.2.toNat] ++ m)).drop (e.1.size + 1) = m := by
      rw [← List.append_assoc, List.drop_left']
      simp [hl]
    rw [this]
theorem ents_bytes : ∀ {l : List E}, (∀ e ∈ l, may e = true) → ents (bytes l) = some l
  | [], _ => by rw [show bytes [] = [] from rfl, ents_nil]
  | e :: r, h => by
    have := may_size (h e (by simp))
    rw [show bytes (e :: r) = ent e ++ bytes r from rfl, ents_ent e _ (by omega), ents_bytes fun x hx => h x (by simp [hx])]
    rfl
theorem bytes_ents : ∀ (n : Nat) {bs : List Nat} {l : List E}, bs.length ≤ n → (∀ b ∈ bs, b < 256) → ents bs = some l → bytes l = bs
  | _, [], l, _, _, h => by
    rw [ents_nil] at h
    injection h with h
    subst h
    rfl
  | 0, n :: r, l, hn, _, _ => by simp at hn
  | k + 1, n :: r, l, hn, hb, h => by
    by_cases hl : n + 1 ≤ r.length
    · rw [ents_yes hl] at h
      obtain ⟨m, hm, rfl⟩ := Option.map_eq_some_iff.1 h
      have ih := bytes_ents k (by simp at hn ⊢; omega) (fun b hb' => hb b (by simp [List.mem_of_mem_drop hb'])) hm
      have hg : r.getD n 0 = r[n]'(by omega) := by
        rw [List.getD_eq_getElem?_getD, List.getElem?_eq_getElem (by omega)]; rfl
      rw [show bytes ((str (r.take n), ((r.getD n 0 : Nat) : Int)) :: m) = ent (str (r.take n), ((r.getD n 0 : Nat) : Int)) ++ bytes m from rfl, ih, ent]
      simp only [str_size, List.length_take]
      rw [nums_str _ fun b hb' => hb b (by simp [List.mem_of_mem_take hb']), hg]
      rw [show min n r.length = n by omega]
      simp
    · rw [ents_no hl] at h
      cases h

/-- What Take tells. -/
def took (s : ByteArray) : Option (List E) := if s.size ≤ 120 then (ents (nums s)).filter rise else none
def tk (s : ByteArray) : Bool := (took s).isSome
def tl (s : ByteArray) : List E := (took s).getD []
theorem took_none {s : ByteArray} (h : took s = none) : tk s = false ∧ tl s = [] := by simp [tk, tl, h]
theorem took_some {s : ByteArray} {l : List E} (h : took s = some l) : tk s = true ∧ tl s = l := by simp [tk, tl, h]
theorem took_long {s : ByteArray} (h : ¬ s.size ≤ 120) : took s = none := by rw [took, if_neg h]
theorem took_cut {s : ByteArray} (h : s.size ≤ 120) (k : ents (nums s) = none) : took s = none := by rw [took, if_pos h, k]; rfl
theorem took_is {s : ByteArray} {l : List E} (h : s.size ≤ 120) (k : ents (nums s) = some l) : took s = if rise l = true then some l else none := by
  rw [took, if_pos h, k]
  cases hr : rise l <;> simp [Option.filter, hr]
theorem ents_length {bs : List Nat} {l : List E} : ∀ {n : Nat}, bs.length ≤ n → ents bs = some l → l.length ≤ bs.length := by
  intro n
  induction n generalizing bs l with
  | zero =>
    intro hn h
    cases bs with
    | nil => rw [ents_nil] at h; injection h with h; subst h; simp
    | cons _ _ => simp at hn
  | succ k ih =>
    intro hn h
    cases bs with
    | nil => rw [ents_nil] at h; injection h with h; subst h; simp
    | cons n r =>
      by_cases hl : n + 1 ≤ r.length
      · rw [ents_yes hl] at h
        obtain ⟨m, hm, rfl⟩ := Option.map_eq_some_iff.1 h
        have := ih (by simp at hn ⊢; omega) hm
        simp at this ⊢
        omega
      · rw [ents_no hl] at h
        cases h
theorem put_size (l : List E) : (put l).size ≤ 120 := by
  unfold put
  split
  · rename_i h
    simp only [ok, Bool.and_eq_true, decide_eq_true_eq] at h
    rw [str_size]; exact h.2
  · decide
theorem ok_rise {l : List E} (h : ok l = true) : rise l = true := by
  simp only [ok, Bool.and_eq_true] at h
  exact h.1
theorem put_nums {l : List E} (h : ok l = true) : nums (put l) = bytes l := by
  rw [put, if_pos h, nums_str _ (bytes_lt (rise_may (ok_rise h)))]
/-- What is put is taken. -/
theorem took_put {l : List E} (h : ok l = true) : took (put l) = some l := by
  have hr := ok_rise h
  rw [took_is (put_size l) (by rw [put_nums h, ents_bytes (rise_may hr)]), if_pos hr]
theorem tk_size {s : ByteArray} (h : tk s = true) : s.size ≤ 120 := by
  rcases Nat.lt_or_ge 120 s.size with k | k
  · rw [(took_none (took_long (by omega))).1] at h; cases h
  · exact k

/-- e in its place; the name taken out; found. -/
def wth (l : List E) (e : E) : List E := if isAt l e.1 = true then l else l.take (place l e.1) ++ e :: l.drop (place l e.1)
def less (l : List E) (n : ByteArray) : List E := if isAt l n = true then l.take (place l n) ++ l.drop (place l n + 1) else l
def find (l : List E) (n : ByteArray) : Int := if isAt l n = true then inoAt l n else 0
theorem take_place (l : List E) (n : ByteArray) : l.take (place l n) = l.takeWhile fun e => lt e.1 n := by
  rw [place]
  induction l with
  | nil => rfl
  | cons x r ih =>
    by_cases hx : lt x.1 n = true
    · simp [hx, ih]
    · simp [hx]
theorem while_low (l : List E) (n : ByteArray) : ∀ e ∈ l.takeWhile (fun e => lt e.1 n), lt e.1 n = true := by
  induction l with
  | nil => simp
  | cons x r ih =>
    by_cases hx : lt x.1 n = true
    · rw [List.takeWhile_cons, if_pos hx]
      intro e he
      rcases List.mem_cons.1 he with rfl | he
      · exact hx
      · exact ih e he
    · rw [List.takeWhile_cons, if_neg hx]
      simp
theorem place_low (l : List E) (n : ByteArray) : ∀ e ∈ l.take (place l n), lt e.1 n = true := by
  rw [take_place]
  exact while_low l n
theorem isAt_of {l : List E} {n : ByteArray} {e : E} (h : l[place l n]? = some e) : isAt l n = (e.1.toList == n.toList) := by rw [isAt, h]
theorem isAt_cons_lt {x : E} {r : List E} {n : ByteArray} (h : lt x.1 n = true) : place (x :: r) n = place r n + 1 ∧ isAt (x :: r) n = isAt r n ∧ inoAt (x :: r) n = inoAt r n := by
  have hp : place (x :: r) n = place r n + 1 := by simp [place, h]
  refine ⟨hp, ?_, ?_⟩
  · rw [isAt, hp, List.getElem?_cons_succ, ← isAt]
  · rw [inoAt, hp, List.getElem?_cons_succ, ← inoAt]
theorem isAt_cons_ge {x : E} {r : List E} {n : ByteArray} (h : lt x.1 n = false) : place (x :: r) n = 0 ∧ isAt (x :: r) n = (x.1.toList == n.toList) ∧ inoAt (x :: r) n = x.2 := by
  have hp : place (x :: r) n = 0 := by simp [place, h]
  refine ⟨hp, ?_, ?_⟩
  · rw [isAt, hp]; rfl
  · rw [inoAt, hp]; rfl
theorem beq_yes {a b : ByteArray} (h : (a.toList == b.toList) = true) : a = b := toList_inj (by simpa using h)
theorem beq_eq (a b : ByteArray) : (a.toList == b.toList) = decide (a = b) := by
  by_cases h : a = b
  · subst h; simp
  · rw [decide_eq_false h]
    cases k : a.toList == b.toList with
    | false => rfl
    | true => exact absurd (beq_yes k) h

/-- The document's find, on rows that rise. -/
def has (l : List E) (n : ByteArray) : Bool := l.any fun e => decide (e.1 = n)
def rfind (l : List E) (n : ByteArray) : Int := match l.find? fun e => decide (e.1 = n) with
  | some e => e.2
  | none => 0
theorem ne_above {l : List E} {a n : ByteArray} (h : srt a l = true) (k : n = a ∨ lt n a = true) : has l n = false ∧ l.find? (fun e => decide (e.1 = n)) = none := by
  have hall : ∀ e ∈ l, ¬ e.1 = n := fun e he hen => by
    have h1 := srt_above h e he
    rw [hen] at h1
    rcases k with rfl | k
    · rw [lt_irrefl] at h1; cases h1
    · rw [lt_asymm k] at h1; cases h1
  constructor
  · rw [has, List.any_eq_false]
    intro e he
    simpa using hall e he
  · rw [List.find?_eq_none]
    intro e he
    simpa using hall e he
theorem find_same : ∀ {l : List E} {a : ByteArray} (n : ByteArray), srt a l = true → isAt l n = has l n ∧ find l n = rfind l n
  | [], a, n, _ => ⟨rfl, rfl⟩
  | x :: r, a, n, h => by
    obtain ⟨h1, h2, h3⟩ := srt_cons h
    cases hl : lt x.1 n with
    | true =>
      obtain ⟨p1, p2, p3⟩ := isAt_cons_lt (r := r) hl
      obtain ⟨i1, i2⟩ := find_same n h3
      have hne : ¬ x.1 = n := fun e => by rw [e, lt_irrefl] at hl; cases hl
      refine ⟨?_, ?_⟩
      · rw [p2, i1]; simp [has, hne]
      · rw [find, p2, p3, ← find, i2]; simp [rfind, hne]
    | false =>
      obtain ⟨p1, p2, p3⟩ := isAt_cons_ge (r := r) hl
      by_cases hen : x.1 = n
      · refine ⟨?_, ?_⟩
        · rw [p2, beq_eq]; simp [has, hen]
        · rw [find, p2, p3, beq_eq]; simp [rfind, hen]
      · obtain ⟨k1, k2⟩ := ne_above (n := n) h3 (.inr (lt_total hl hen))
        refine ⟨?_, ?_⟩
        · rw [p2, beq_eq]; simp [has, hen] at k1 ⊢; exact k1
        · rw [find, p2, beq_eq]; simp [rfind, hen, k2]

/-- The document's With, of any row: ahead of the first name that is greater. -/
def gat (l : List E) (n : ByteArray) : Nat := (l.takeWhile fun e => !lt n e.1).length
def rwth (l : List E) (e : E) : List E := if has l e.1 = true then l else l.take (gat l e.1) ++ e :: l.drop (gat l e.1)
theorem gat_same : ∀ {l : List E} {a : ByteArray} (n : ByteArray), srt a l = true → has l n = false → gat l n = place l n
  | [], _, _, _, _ => rfl
  | x :: r, a, n, h, k => by
    obtain ⟨h1, h2, h3⟩ := srt_cons h
    have hk : ¬ x.1 = n ∧ has r n = false := by simpa [has] using k
    cases hl : lt x.1 n with
    | true =>
      have := gat_same n h3 hk.2
      rw [(isAt_cons_lt (r := r) hl).1, ← this]
      simp [gat, lt_asymm hl]
    | false =>
      rw [(isAt_cons_ge (r := r) hl).1]
      simp [gat, lt_total hl hk.1]
theorem with_same {l : List E} {a : ByteArray} (e : E) (h : srt a l = true) : wth l e = rwth l e := by
  have hs := (find_same e.1 h).1
  rw [wth, rwth, hs]
  cases hh : has l e.1 with
  | true => rfl
  | false => rw [gat_same e.1 h hh]
/-- The document's Less. -/
def rless (l : List E) (n : ByteArray) : List E := if has l n = true then l.filter (fun e => !decide (e.1 = n)) else l
theorem filter_above {l : List E} {a n : ByteArray} (h : srt a l = true) (k : n = a ∨ lt n a = true) : l.filter (fun e => !decide (e.1 = n)) = l := by
  rw [List.filter_eq_self]
  intro e he
  have := (ne_above h k).1
  rw [has, List.any_eq_false] at this
  simpa using this e he
theorem cut_same : ∀ {l : List E} {a : ByteArray} (n : ByteArray), srt a l = true → isAt l n = true → l.take (place l n) ++ l.drop (place l n + 1) = l.filter (fun e => !decide (e.1 = n))
  | [], _, _, _, k => by cases k
  | x :: r, a, n, h, k => by
    obtain ⟨h1, h2, h3⟩ := srt_cons h
    cases hl : lt x.1 n with
    | true =>
      obtain ⟨p1, p2, p3⟩ := isAt_cons_lt (r := r) hl
      rw [p2] at k
      have hne : ¬ x.1 = n := fun e => by rw [e, lt_irrefl] at hl; cases hl
      rw [p1, List.take_succ_cons, List.drop_succ_cons, List.cons_append, cut_same n h3 k]
      simp [hne]
    | false =>
      obtain ⟨p1, p2, p3⟩ := isAt_cons_ge (r := r) hl
      rw [p2] at k
      have hen := beq_yes k
      rw [p1, ← hen, List.filter_cons]
      simp
      rw [eq_comm, List.filter_eq_self]
      intro e he
      have := (ne_above (n := x.1) h3 (.inl rfl)).1
      rw [has, List.any_eq_false] at this
      simpa using this e he
theorem less_same {l : List E} {a : ByteArray} (n : ByteArray) (h : srt a l = true) : less l n = rless l n := by
  have hs := (find_same n h).1
  rw [less, rless, ← hs]
  cases hh : isAt l n with
  | true => rw [if_pos rfl, if_pos rfl, cut_same n h hh]
  | false => rfl
theorem srt_put : ∀ {l : List E} {a : ByteArray} {e : E}, srt a l = true → may e = true → lt a e.1 = true → isAt l e.1 = false → srt a (l.take (place l e.1) ++ e :: l.drop (place l e.1)) = true
  | [], a, e, _, k, m, _ => srt_mk k m rfl
  | x :: r, a, e, h, k, m, i => by
    obtain ⟨h1, h2, h3⟩ := srt_cons h
    cases hl : lt x.1 e.1 with
    | true =>
      obtain ⟨p1, p2, p3⟩ := isAt_cons_lt (r := r) hl
      rw [p2] at i
      rw [p1, List.take_succ_cons, List.drop_succ_cons, List.cons_append]
      exact srt_mk h1 h2 (srt_put h3 k hl i)
    | false =>
      obtain ⟨p1, p2, p3⟩ := isAt_cons_ge (r := r) hl
      rw [p2, beq_eq, decide_eq_false_iff_not] at i
      rw [p1, List.take_zero, List.drop_zero, List.nil_append]
      exact srt_mk k m (srt_mk h1 (lt_total hl i) h3)
theorem srt_wth {l : List E} {a : ByteArray} {e : E} (h : srt a l = true) (k : may e = true) (m : lt a e.1 = true) : srt a (wth l e) = true := by
  rw [wth]
  cases hi : isAt l e.1 with
  | true => exact h
  | false => exact srt_put h k m hi
theorem wth_place {l : List E} {e : E} (h : isAt l e.1 = false) : place (wth l e) e.1 = place l e.1 ∧ (wth l e)[place l e.1]? = some e := by
  have hw : wth l e = l.take (place l e.1) ++ e :: l.drop (place l e.1) := by rw [wth, h]; rfl
  have hp := place_le l e.1
  have hlen : (l.take (place l e.1)).length = place l e.1 := by rw [List.length_take]; omega
  have hat : (wth l e)[place l e.1]? = some e := by
    rw [hw, List.getElem?_append_right (by omega), hlen]; simp
  refine ⟨low_place _ _ _ e ?_ hat (lt_irrefl _), hat⟩
  intro x hx
  rw [hw, List.take_append_of_le_length (by omega), List.take_take, Nat.min_self] at hx
  exact place_low l e.1 x hx
theorem wth_isAt {l : List E} {e : E} (h : isAt l e.1 = false) : isAt (wth l e) e.1 = true ∧ find (wth l e) e.1 = e.2 ∧ less (wth l e) e.1 = l := by
  obtain ⟨h1, h2⟩ := wth_place h
  have hw : wth l e = l.take (place l e.1) ++ e :: l.drop (place l e.1) := by rw [wth, h]; rfl
  have hlen : (l.take (place l e.1)).length = place l e.1 := by rw [List.length_take]; have := place_le l e.1; omega
  have hi : isAt (wth l e) e.1 = true := by rw [isAt, h1, h2]; simp
  refine ⟨hi, ?_, ?_⟩
  · rw [find, hi, if_pos rfl, inoAt, h1, h2]
  · rw [less, hi, if_pos rfl, h1, hw, List.take_append_of_le_length (by omega), List.take_take, Nat.min_self, ← List.drop_drop, List.drop_left' hlen]
    simp
theorem wth_length (l : List E) (e : E) : (wth l e).length ≤ l.length + 1 := by
  rw [wth]
  split
  · omega
  · simp; omega
theorem srt_lt : ∀ {l : List E} {a : ByteArray} {i : Nat} {x y : E}, srt a l = true → l[i]? = some x → l[i + 1]? = some y → lt x.1 y.1 = true
  | [], _, _, _, _, _, h, _ => by simp at h
  | z :: r, a, 0, x, y, h, h1, h2 => by
    simp at h1 h2
    subst h1
    exact srt_above (srt_cons h).2.2 y (List.mem_of_getElem? h2)
  | z :: r, a, i + 1, x, y, h, h1, h2 => srt_lt (srt_cons h).2.2 (by simpa using h1) (by simpa using h2)
end PD
end Go.Proofs.YtdnobplhfbgbaaaGreatDoor
namespace Go.Proofs.YtdnobplhfbgbaaaGreatDoor
open Go.RowKit Go.Joins
def strLen : Value → Nat
  | .string s => s.size
  | _ => 0
theorem nums_at (s : ByteArray) (k : Nat) (h : k < s.size) : ∃ b : UInt8, s[k] = b ∧ (nums s)[k]? = some b.toNat := by
  obtain ⟨b, h1, h2⟩ := ix_data s k h
  exact ⟨b, h2, by rw [nums, List.getElem?_map, h1]; rfl⟩
theorem nums_extract (s : ByteArray) (a b : Nat) : nums (s.extract a b) = ((nums s).take b).drop a := by
  simp only [nums, ByteArray.data_extract, Array.toList_extract, List.extract_eq_take_drop, List.map_take, List.map_drop]
  rw [List.drop_take]
theorem extract_str (s : ByteArray) (a b : Nat) : s.extract a b = str (((nums s).take b).drop a) := by
  rw [← nums_extract, str_nums]

set_option maxRecDepth 100000 in
set_option maxHeartbeats 8000000 in
theorem entries_any (s : ByteArray) (w : World) (hs : s.size ≤ 65536) : Calls Tryz.prog 162 #[.string s] w fun e w' => ∃ v L b, e = .returned (.tuple #[v, .bool b]) ∧ Eo w' w.heap.size v L ∧ Fit L ∧ PD.ents (nums s) = (if b = true then some L else none) ∧ Below w.heap.size w w' := by
  obtain ⟨i0, hi, hz0, hz1, hz2⟩ := info_parts Tryz.info75
  obtain ⟨N, hN⟩ : ∃ N, PD.ents (nums s) = N := ⟨_, rfl⟩
  rw [hN]
  obtain ⟨S, hS⟩ : ∃ S, s.size = S := ⟨_, rfl⟩
  rw [hS] at hs
  have HN := Lib.hid hN
  have HSS := Lib.hid hS
  clear hN hS
  go_enter Tryz.func162, Tryz.ntmps162
  go_wp2
  go_loopw [0, 4, 5, 6] (fun b o x5 x6 wr => ∃ (t : ByteArray) (L : List E), b = .string t ∧ Eo wr w.heap.size o L ∧ Below w.heap.size w wr ∧ N = (PD.ents (nums t)).map (L ++ ·) ∧ L.length + t.size ≤ S ∧ ∀ e ∈ L, e.1.size ≤ 1048576 ∧ I64 e.2) (fun b _ _ _ _ => strLen b)
  case atStart => exact ⟨s, [], rfl, World.ownsRow_nil _ _ _ _, Below.refl _ _, by rw [HN.out]; cases N <;> simp, by simp [HSS.out], by simp⟩
  case round =>
    obtain ⟨t, L, rfl, hO, hB, hn, hlt, hf⟩ := hrel
    by_cases h0 : t.size = 0
    · have ht : t = { data := #[] } := by
        apply ByteArray.ext
        exact Array.eq_empty_of_size_eq_zero h0
      subst ht
      rw [show nums { data := #[] } = [] from rfl, PD.ents_nil, Option.map_some, List.append_nil] at hn
      have hr : Fit L := ⟨hf, by omega⟩
      subst hn
      clear h0 hlt
      go_wp2
      go_ret2
      exact ⟨_, L, true, rfl, hO, hr, rfl, hB⟩
    · obtain ⟨b, hb, hbn⟩ := nums_at t 0 (by omega)
      obtain ⟨n, hbe⟩ : ∃ n, b.toNat = n := ⟨_, rfl⟩
      have hn256 : n < 256 := by rw [← hbe]; exact b.toNat_lt
      rw [hbe] at hbn
      obtain ⟨r, hr⟩ : ∃ r, nums t = n :: r := by
        cases hc : nums t with
        | nil => rw [hc] at hbn; simp at hbn
        | cons x r =>
          rw [hc] at hbn
          simp at hbn
          exact ⟨r, by rw [hbn]⟩
      have hrl : r.length + 1 = t.size := by rw [← nums_length, hr]; rfl
      have hemp : t.toList.isEmpty = false := by
        cases hc : t.toList with
        | nil =>
          exfalso
          have : t.data.toList = [] := by rw [← Lib.toList_data]; exact hc
          have : t.size = 0 := by rw [Lib.size_eq, this]; rfl
          omega
        | cons _ _ => rfl
      have hw0 : IntKind.i64.wrap (n : Int) = n := by rw [IntKind.wrap_i64]; omega
      have h0' : 0 < t.size := by omega
      by_cases h2 : n + 2 ≤ t.size
      · rw [hr, PD.ents_yes (by omega)] at hn
        have h2' : ¬ (t.size : Int) < (n : Int) + 2 := by omega
        have hw2 : IntKind.i64.wrap ((n : Int) + 2) = (n : Int) + 2 := by rw [IntKind.wrap_i64]; omega
        have hw1 : IntKind.i64.wrap (1 + (n : Int)) = 1 + (n : Int) := by rw [IntKind.wrap_i64]; omega
        obtain ⟨b2, hb2, hbn2⟩ := nums_at t (1 + n) (by omega)
        obtain ⟨z, hze⟩ : ∃ z, b2.toNat = z := ⟨_, rfl⟩
        have hz256 : z < 256 := by rw [← hze]; exact b2.toNat_lt
        have hwz : IntKind.i64.wrap (z : Int) = z := by rw [IntKind.wrap_i64]; omega
        rw [hze] at hbn2
        have e1 : t.extract 1 (1 + n) = str (r.take n) := by
          rw [extract_str, hr, show 1 + n = n + 1 by omega, List.take_succ_cons, List.drop_succ_cons, List.drop_zero]
        have e2 : r.getD n 0 = z := by
          rw [hr, show 1 + n = n + 1 by omega, List.getElem?_cons_succ] at hbn2
          rw [List.getD_eq_getElem?_getD, hbn2]; rfl
        have e3 : nums (t.extract (n + 2) t.size) = r.drop (n + 1) := by
          rw [nums_extract, hr, List.take_of_length_le (by simp; omega), List.drop_succ_cons]
        have e4 : (t.extract (n + 2) t.size).size = t.size - (n + 2) := by rw [← nums_length, e3, List.length_drop]; omega
        have e5 : (t.extract 1 (1 + n)).size = n := by rw [e1, PD.str_size, List.length_take]; omega
        rw [e2, ← e1, ← e3] at hn
        have hi1 : (1 : Int) + (n : Int) < (t.size : Int) := by omega
        obtain ⟨P, hP⟩ : ∃ P, t.extract 1 (1 + n) = P := ⟨_, rfl⟩
        rw [hP] at hn e5
        have hc := fun W => clone_any P W (by omega)
        have hnx : N = (PD.ents (nums (t.extract (n + 2) t.size))).map ((L ++ [(P, (z : Int))]) ++ ·) := by
          rw [hn, Option.map_map]
          congr 1
          funext x
          simp
        have hfx : ∀ e ∈ L ++ [(P, (z : Int))], e.1.size ≤ 1048576 ∧ I64 e.2 := by
          intro e he
          rcases List.mem_append.1 he with he | he
          · exact hf e he
          · simp at he
            subst he
            exact ⟨by simp; omega, by simp [I64]; omega⟩
        have HN := Lib.hid hnx
        have HF := Lib.hid hfx
        clear hn hnx hr hbn hbn2 e1 e2 e3 hf hfx e5
        go_wp2_with fail
        refine (hc _).mono ?_
        rintro e w1 ⟨rfl, hB1⟩
        have hO1 := hO.on hB1
        have hb1 := hB.trans (hB1.mono hB.size)
        have hz1' := hb1.size
        unfold Eo at hO1
        obtain ⟨ll, hll⟩ : ∃ ll, L.length = ll := ⟨_, rfl⟩
        rw [hll] at hO1 hlt
        have HLL := Lib.hid hll
        obtain ⟨lm, hlm⟩ : ∃ lm, cs L = lm := ⟨_, rfl⟩
        rw [hlm] at hO1
        have HLM := Lib.hid hlm
        clear hO hB hB1 hll hlm hc h2'
        go_wp2_with (at_builtin; refine wpList_append_sl rfl _ _ 69 rfl w.heap.size 75 i0 (.agg #[.string { data := #[] }, .int .i64 0]) 2 24 Tryz.underlying69 hi hz0 hz1 hz2 rfl (by decide) _ _ _ rfl (hO1.alloc _) _ 1 1 _ rfl (Sl.new2 w1 _ 75 _ 1 1 _ rfl rfl) ?q1 ?q2 ?q3 ?q4 ?_)
        case q1 => exact ⟨rfl, rfl⟩
        case q2 => unfold maxLen; omega
        case q3 => omega
        case q4 => simp; omega
        intro v5 w5 hown hgrow
        have hb5 : Below w.heap.size w w5 := (hb1.alloc hb1.size _).grown hgrow (by simp; omega) (fun k hk => own_ge hO1 hk)
        have hE := Eo.more (e := (P, (z : Int))) hown HLL.out HLM.out rfl
        have HE := Lib.hid hE
        clear hown hgrow hO1 hb1 hE
        go_wp2
        go_roundw
        case rel => exact ⟨_, L ++ [(P, (z : Int))], rfl, HE.out, hb5, HN.out, by rw [List.length_append, HLL.out, e4]; simp; omega, HF.out⟩
        case measure => simp [strLen, e4]; omega
      · rw [hr, PD.ents_no (by omega)] at hn
        have h2' : (t.size : Int) < (n : Int) + 2 := by omega
        have hw2 : IntKind.i64.wrap ((n : Int) + 2) = (n : Int) + 2 := by rw [IntKind.wrap_i64]; omega
        have HN := Lib.hid hn
        clear hn hr hrl h2 hlt hf hO hbn
        go_wp2
        go_ret2
        exact ⟨_, [], false, rfl, World.ownsRow_nil _ _ _ _, ⟨by simp, by decide⟩, HN.out, hB⟩

set_option maxRecDepth 100000 in
set_option maxHeartbeats 8000000 in
theorem take_any (s : ByteArray) (w : World) : Calls Tryz.prog 136 #[.string s] w fun e w' => ∃ v, e = .returned (.tuple #[v, .bool (PD.tk s)]) ∧ Eo w' w.heap.size v (PD.tl s) ∧ Fit (PD.tl s) ∧ Below w.heap.size w w' := by
  have hno : Fit [] := ⟨by simp, by decide⟩
  by_cases hs : s.size ≤ 120
  · have he := fun W => entries_any s W (by omega)
    have hs' : ¬ (120 : Int) < (s.size : Int) := by omega
    have hcut := PD.took_cut hs
    have his := fun l h => PD.took_is (l := l) hs h
    obtain ⟨T, hT⟩ : ∃ T, PD.tk s = T := ⟨_, rfl⟩
    obtain ⟨M, hM⟩ : ∃ M, PD.tl s = M := ⟨_, rfl⟩
    rw [hT, hM]
    have HT := Lib.hid hT
    have HM := Lib.hid hM
    have HC := Lib.hid hcut
    have HI := Lib.hid his
    have HNO := Lib.hid hno
    clear hcut his hT hM hno
    go_enter Tryz.func136, Tryz.ntmps136
    go_wp2_with fail
    refine (he _).mono ?_
    rintro e w1 ⟨v1, L, b, rfl, hO1, hF1, hE, hB1⟩
    clear he
    cases b with
    | false =>
      obtain ⟨e1, e2⟩ := PD.took_none (HC.out hE)
      rw [HT.out] at e1
      rw [HM.out] at e2
      subst e1 e2
      clear hE HT HM HC HI hO1 hF1
      go_wp2
      go_ret2
      exact ⟨_, rfl, World.ownsRow_nil _ _ _ _, HNO.out, hB1⟩
    | true =>
      have hk := HI.out L hE
      have hr := rise_any v1 L w1 (hO1.row hF1)
      cases hri : PD.rise L with
      | true =>
        rw [hri, if_pos rfl] at hk
        rw [hri] at hr
        obtain ⟨e1, e2⟩ := PD.took_some hk
        rw [HT.out] at e1
        rw [HM.out] at e2
        subst e1 e2
        have HO := Lib.hid hO1
        have HF := Lib.hid hF1
        clear hE HT HM HC HI hk hri hO1 hF1
        go_wp2_with (go_at_call 163; refine hr.mono ?_; rintro e w2 ⟨rfl, hB2⟩)
        go_ret2
        exact ⟨_, rfl, HO.out.on hB2, HF.out, hB1.trans (hB2.mono hB1.size)⟩
      | false =>
        rw [hri, if_neg (by decide)] at hk
        rw [hri] at hr
        obtain ⟨e1, e2⟩ := PD.took_none hk
        rw [HT.out] at e1
        rw [HM.out] at e2
        subst e1 e2
        clear hE HT HM HC HI hk hri hO1 hF1
        go_wp2_with (go_at_call 163; refine hr.mono ?_; rintro e w2 ⟨rfl, hB2⟩)
        go_ret2
        exact ⟨_, rfl, World.ownsRow_nil _ _ _ _, HNO.out, hB1.trans (hB2.mono hB1.size)⟩
  · obtain ⟨e1, e2⟩ := PD.took_none (PD.took_long hs)
    rw [e1, e2]
    have hs' : (120 : Int) < (s.size : Int) := by omega
    clear e1 e2
    go_enter Tryz.func136, Tryz.ntmps136
    go_wp2
    go_ret2
    exact ⟨_, rfl, World.ownsRow_nil _ _ _ _, hno, Below.refl _ _⟩
end Go.Proofs.YtdnobplhfbgbaaaGreatDoor
namespace Go.Proofs.YtdnobplhfbgbaaaGreatDoor
open Go.RowKit Go.Joins

theorem Eo.base {w : World} {a b : Nat} {v : Value} {l : List E} (h : Eo w b v l) (hab : a ≤ b) : Eo w a v l :=
  ⟨h.1, h.2.imp id fun ⟨g, cap, cur, a1, a2, a3⟩ => ⟨g, cap, cur, a1, Nat.le_trans hab a2, a3⟩⟩
theorem isAt_lt {l : List E} {n : ByteArray} (h : PD.isAt l n = true) : ∃ x, l[PD.place l n]? = some x ∧ PD.find l n = x.2 := by
  cases hx : l[PD.place l n]? with
  | none => rw [PD.isAt, hx] at h; cases h
  | some x => exact ⟨x, rfl, by rw [PD.find, h, if_pos rfl, PD.inoAt, hx]⟩

set_option maxHeartbeats 4000000 in
theorem find_any (v : Value) (l : List E) (n : ByteArray) (w : World) (h : Es w v l) : Calls Tryz.prog 109 #[v, .string n] w fun e w' => e = .returned (.tuple #[.int .i64 (PD.find l n), .bool (PD.isAt l n)]) ∧ Below w.heap.size w w' := by
  have hp := place_any v l n w h
  obtain ⟨A, c, rfl⟩ := h.form
  have hl := h.2.2
  generalize hL : l.length = L at *
  cases hi : PD.isAt l n with
  | false =>
    have hf : PD.find l n = 0 := by rw [PD.find, hi]; rfl
    rw [hi] at hp
    rw [hf]
    generalize PD.place l n = p at *
    clear hi hf h
    go_enter Tryz.func109, Tryz.ntmps109
    go_wp2_with (go_at_call 142; refine hp.mono ?_; rintro e w1 ⟨rfl, hB1⟩)
    go_ret2
    exact ⟨rfl, hB1⟩
  | true =>
    obtain ⟨x, hx, hf⟩ := isAt_lt hi
    rw [hi] at hp
    rw [hf]
    have hpl : PD.place l n < L := by rw [← hL]; exact (List.getElem?_eq_some_iff.1 hx).1
    generalize PD.place l n = p at *
    have H := Lib.hid h
    clear h hi hf
    go_enter Tryz.func109, Tryz.ntmps109
    go_wp2_with fail
    refine hp.mono ?_
    rintro e w1 ⟨rfl, hB1⟩
    obtain ⟨b0, o0, rfl, hb0, hcell⟩ := (H.out.below hB1).at (by omega)
    obtain ⟨g0, g1⟩ := hcell p x hx
    obtain ⟨s, z⟩ := x
    dsimp only at g0 g1 ⊢
    clear hcell hx hp H
    go_wp2
    go_ret2
    exact ⟨rfl, hB1⟩

end Go.Proofs.YtdnobplhfbgbaaaGreatDoor
namespace Go.Proofs.YtdnobplhfbgbaaaGreatDoor
open Go.RowKit Go.Joins

/-- One entry behind a row of one's own that has grown since w0. -/
theorem append_e {w0 w : World} {ops : Array Oper} {rest : List Oper} {o : Oper} {a : Act} {Q : Exit → Act → World → Prop} (hgd : Region.wanted o (yielded ops a.tmps) = true) (s x : Operand)
    (ho : o.op = .call { callee := .builtin .append, args := #[s, x], argTypes := #[69, 69] })
    (v : Value) (l : List E) (hs : a.eval s = v) (hown : Eo w w0.heap.size v l) (hb : Below w0.heap.size w0 w) (hl : l.length ≤ 65536)
    (e : E) (A : Option Addr) (c : Nat) (hx : a.eval x = .slice A 1 c) (hr : Sl w 2 (.slice A 1 c) 1 [.string e.1, .int .i64 e.2])
    (h : ∀ v' w', Eo w' w0.heap.size v' (l ++ [e]) → Below w0.heap.size w0 w' → wpList Tryz.prog ops Q rest (a.put o.dst v') w') : wpList Tryz.prog ops Q (o :: rest) a w := by
  obtain ⟨i0, hi, hz0, hz1, hz2⟩ := info_parts Tryz.info75
  refine wpList_append_sl hgd s x 69 ho w0.heap.size 75 i0 (.agg #[.string { data := #[] }, .int .i64 0]) 2 24 Tryz.underlying69 hi hz0 hz1 hz2 rfl (by decide) v l.length (cs l) hs hown A 1 c [.string e.1, .int .i64 e.2] hx hr ?_ ?_ ?_ hb.size ?_
  · intro u hu
    simp at hu
    rcases hu with rfl | rfl <;> rfl
  · unfold maxLen; omega
  · omega
  · intro v' w' hown' hgrow
    exact h v' w' (Eo.more hown' rfl rfl rfl) (hb.grown hgrow hb.size fun k hk => own_ge hown hk)

namespace PD
theorem has_find (l : List E) (n : ByteArray) : has l n = (l.find? fun e => decide (e.1 = n)).isSome := by
  induction l with
  | nil => rfl
  | cons x r ih =>
    by_cases h : x.1 = n
    · simp [has, h]
    · simp [has, h] at ih ⊢
      exact ih
theorem find_yes {l : List E} {n : ByteArray} {k : Nat} {e : E} (h : ∀ x ∈ l.take k, ¬ x.1 = n) (hk : l[k]? = some e) (he : e.1 = n) : has l n = true ∧ rfind l n = e.2 := by
  have hf : l.find? (fun e => decide (e.1 = n)) = some e := by
    obtain ⟨hlt, rfl⟩ := List.getElem?_eq_some_iff.1 hk
    have h0 : (l.take k).find? (fun e => decide (e.1 = n)) = none := by
      rw [List.find?_eq_none]
      intro x hx
      simpa using h x hx
    conv => lhs; rw [← List.take_append_drop k l]
    rw [List.find?_append, h0, List.drop_eq_getElem_cons hlt, List.find?_cons]
    simp [he]
  exact ⟨by rw [has_find, hf]; rfl, by rw [rfind, hf]⟩
theorem find_no {l : List E} {n : ByteArray} (h : ∀ x ∈ l, ¬ x.1 = n) : has l n = false ∧ rfind l n = 0 := by
  have hf : l.find? (fun e => decide (e.1 = n)) = none := by
    rw [List.find?_eq_none]
    intro x hx
    simpa using h x hx
  exact ⟨by rw [has_find, hf]; rfl, by rw [rfind, hf]⟩
end PD

set_option maxHeartbeats 4000000 in
theorem rfind_any (v : Value) (l : List E) (n : ByteArray) (w : World) (h : Es w v l) : Calls Tryz.prog 74 #[v, .string n] w fun e w' => e = .returned (.tuple #[.int .i64 (PD.rfind l n), .bool (PD.has l n)]) ∧ w' = w := by
  obtain ⟨A, c, rfl⟩ := h.form
  have hl := h.2.2
  obtain ⟨f, hf⟩ : ∃ f, PD.rfind l n = f := ⟨_, rfl⟩
  obtain ⟨b, hb⟩ : ∃ b, PD.has l n = b := ⟨_, rfl⟩
  rw [hf, hb]
  generalize hL : l.length = L at *
  have HF := Lib.hid hf
  have HB := Lib.hid hb
  have HS := Lib.hid h
  have HL := Lib.hid hL
  clear hf h hL hb
  go_enter Tryz.func74, Tryz.ntmps74
  go_wp2
  go_loop [6] (fun i => ∃ k : Nat, k ≤ L ∧ i = .int .i64 (k : Int) ∧ ∀ x ∈ l.take k, ¬ x.1 = n) (fun i => L - (intOf i).toNat)
  case atStart => exact ⟨0, Nat.zero_le _, rfl, fun e he => by simp at he⟩
  case round =>
    obtain ⟨k, hk, rfl, hno⟩ := hrel
    by_cases hlt : k < L
    · obtain ⟨b0, o0, rfl, hb0, hcell⟩ := HS.out.at (by rw [HL.out]; omega)
      obtain ⟨x, hx⟩ : ∃ x, l[k]? = some x := ⟨_, List.getElem?_eq_getElem (by rw [HL.out]; omega)⟩
      obtain ⟨g0, g1⟩ := hcell k x hx
      by_cases he : x.1 = n
      · obtain ⟨e1, e2⟩ := PD.find_yes hno hx he
        rw [HB.out] at e1
        rw [HF.out] at e2
        obtain ⟨s, z⟩ := x
        dsimp only at g0 g1 e2 he
        subst e1 e2 he
        have hq := seq_yes s
        clear hcell hx hno HF HB HS HL hb0
        go_wp2
        go_ret2
        exact ⟨rfl, rfl⟩
      · have hnx : ∀ y ∈ l.take (k + 1), ¬ y.1 = n := by
          intro y hy
          rw [List.take_add_one, hx] at hy
          simp at hy
          rcases hy with hy | rfl
          · exact hno y hy
          · exact he
        have HN := Lib.hid hnx
        obtain ⟨s, z⟩ := x
        dsimp only at g0 g1 he
        have hq := seq_no he
        clear hcell hx hno hnx hb0 he
        go_wp2
        go_round
        case rel => exact ⟨k + 1, by omega, by go_num, HN.out⟩
        case measure => simp [intOf]; omega
    · have hkn : k = L := by omega
      subst hkn
      rw [List.take_of_length_le (by rw [HL.out]; exact Nat.le_refl _)] at hno
      obtain ⟨e1, e2⟩ := PD.find_no hno
      rw [HB.out] at e1
      rw [HF.out] at e2
      subst e1 e2
      clear hno HF HB HS HL
      go_wp2
      go_ret2
      exact ⟨rfl, rfl⟩

end Go.Proofs.YtdnobplhfbgbaaaGreatDoor
