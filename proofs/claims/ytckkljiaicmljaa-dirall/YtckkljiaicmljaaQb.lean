/-
  Plain facts: which entries may be, that they rise, their bytes; where a name stands. No program in this text.
-/
import Derived.Test.YtckkljiaicmljaaQa
import Derived.Sort.Walk0
namespace Go.Proofs.Ytckkljiaicmljaa
open Go

namespace PD
/-- By bytes. -/
def lt (a b : ByteArray) : Bool := Op.bytesLess a.toList b.toList
theorem lt_eq (a b : ByteArray) : lt a b = decide (a.toList < b.toList) := bytesLess_eq _ _
theorem lt_irrefl (a : ByteArray) : lt a a = false := by rw [lt_eq]; simp
theorem lt_trans {a b c : ByteArray} (h : lt a b = true) (k : lt b c = true) : lt a c = true := by
  rw [lt_eq, decide_eq_true_eq] at *
  exact List.lt_trans h k
theorem lt_asymm {a b : ByteArray} (h : lt a b = true) : lt b a = false := by
  cases k : lt b a with
  | false => rfl
  | true => rw [lt_trans h k |>.symm.trans (lt_irrefl a)] at *
theorem toList_inj {a b : ByteArray} (h : a.toList = b.toList) : a = b := by
  rw [ByteArray.toList_eq, ByteArray.toList_eq] at h
  exact ByteArray.ext (Array.toList_inj.mp h)
theorem lt_total {a b : ByteArray} (h : lt a b = false) (k : a ≠ b) : lt b a = true := by
  rw [lt_eq, decide_eq_false_iff_not] at h
  rw [lt_eq, decide_eq_true_eq]
  rcases Std.lt_trichotomy a.toList b.toList with x | x | x
  · exact absurd x h
  · exact absurd (toList_inj x) k
  · exact x
def may (e : E) : Bool := PN.own e.1.data.toList && (decide (1 ≤ e.2) && decide (e.2 ≤ 9))
/-- Whether all of l may be and rise; the last name. -/
def step (a : Bool × ByteArray) (e : E) : Bool × ByteArray := (a.1 && (may e && lt a.2 e.1), e.1)
def rs (l : List E) : Bool × ByteArray := l.foldl step (true, { data := #[] })
def rise (l : List E) : Bool := (rs l).1
def ent (e : E) : List Nat := e.1.size :: (nums e.1 ++ [e.2.toNat])
def bytes (l : List E) : List Nat := l.flatMap ent
def ok (l : List E) : Bool := rise l && decide ((bytes l).length ≤ 120)
def put (l : List E) : ByteArray := if ok l = true then str (bytes l) else { data := #[] }

theorem rs_snoc (l : List E) (e : E) : rs (l ++ [e]) = step (rs l) e := by simp [rs]
theorem rs_false : ∀ (m : List E) (a : Bool × ByteArray), a.1 = false → (m.foldl step a).1 = false
  | [], _, h => h
  | e :: r, a, h => rs_false r _ (by simp [step, h])
theorem rise_front {l : List E} {k : Nat} (h : rise (l.take k) = false) : rise l = false := by
  rw [← List.take_append_drop k l, rise, rs, List.foldl_append]
  exact rs_false _ _ h
theorem bytes_snoc (l : List E) (e : E) : bytes (l ++ [e]) = bytes l ++ ent e := by simp [bytes]
theorem ent_length (e : E) : (ent e).length = e.1.size + 2 := by simp [ent, nums_length]
theorem may_size {e : E} (h : may e = true) : 1 ≤ e.1.size ∧ e.1.size ≤ 6 ∧ 1 ≤ e.2 ∧ e.2 ≤ 9 := by
  simp only [may, Bool.and_eq_true, decide_eq_true_eq] at h
  have := PN.own_pos h.1
  rw [← Lib.size_eq] at this
  exact ⟨this.1, this.2, h.2⟩
theorem rs_may : ∀ (m : List E) (a : Bool × ByteArray), (m.foldl step a).1 = true → ∀ e ∈ m, may e = true
  | [], _, _ => by simp
  | x :: r, a, h => by
    intro e he
    rcases List.mem_cons.1 he with rfl | he
    · cases hm : may e with
      | true => rfl
      | false => rw [List.foldl_cons, rs_false r _ (by simp [step, hm])] at h; cases h
    · exact rs_may r _ h e he
theorem rise_may {l : List E} (h : rise l = true) : ∀ e ∈ l, may e = true := rs_may l _ h
theorem bytes_le {l : List E} (h : ∀ e ∈ l, may e = true) : (bytes l).length ≤ 8 * l.length := by
  induction l with
  | nil => simp [bytes]
  | cons e r ih =>
    have h1 := may_size (h e (by simp))
    have h2 := ih fun x hx => h x (by simp [hx])
    have h3 : (bytes (e :: r)).length = (e.1.size + 2) + (bytes r).length := by
      rw [bytes, List.flatMap_cons, List.length_append, ent_length]; rfl
    rw [h3, List.length_cons]
    omega
theorem bytes_lt {l : List E} (h : ∀ e ∈ l, may e = true) : ∀ b ∈ bytes l, b < 256 := by
  intro b hb
  obtain ⟨e, he, hb⟩ := List.mem_flatMap.1 hb
  have := may_size (h e he)
  simp only [ent, List.mem_cons, List.mem_append, List.not_mem_nil, or_false] at hb
  rcases hb with rfl | hb | rfl
  · omega
  · exact nums_lt _ _ hb
  · omega

/-- Where a name stands, or would stand. -/
def place (l : List E) (n : ByteArray) : Nat := (l.takeWhile fun e => lt e.1 n).length
def isAt (l : List E) (n : ByteArray) : Bool := match l[place l n]? with
  | some e => e.1.toList == n.toList
  | none => false
def inoAt (l : List E) (n : ByteArray) : Int := match l[place l n]? with
  | some e => e.2
  | none => 0
theorem place_le (l : List E) (n : ByteArray) : place l n ≤ l.length := (List.takeWhile_sublist _).length_le
/-- Of the first k all are below n. -/
def low (l : List E) (n : ByteArray) (k : Nat) : Prop := ∀ e ∈ l.take k, lt e.1 n = true
theorem low_place : ∀ (l : List E) (n : ByteArray) (k : Nat) (e : E), low l n k → l[k]? = some e → lt e.1 n = false → place l n = k
  | [], n, k, e, _, hk, _ => by simp at hk
  | x :: r, n, 0, e, _, hk, hl => by
    simp at hk
    subst hk
    simp [place, hl]
  | x :: r, n, k + 1, e, h, hk, hl => by
    have hx : lt x.1 n = true := h x (by simp)
    have := low_place r n k e (fun y hy => h y (by simp [hy])) (by simpa using hk) hl
    rw [place] at this ⊢
    simp [hx, this]
theorem low_end {l : List E} {n : ByteArray} (h : low l n l.length) : place l n = l.length := by
  rw [low, List.take_length] at h
  rw [place]
  congr 1
  have : l.takeWhile (fun e => lt e.1 n) = l := by
    induction l with
    | nil => rfl
    | cons e r ih => rw [List.takeWhile_cons, if_pos (h e (by simp)), ih fun x hx => h x (by simp [hx])]
  exact this
theorem low_succ {l : List E} {n : ByteArray} {k : Nat} {e : E} (h : low l n k) (hk : l[k]? = some e) (hl : lt e.1 n = true) : low l n (k + 1) := by
  intro x hx
  rw [List.take_add_one, hk] at hx
  simp at hx
  rcases hx with hx | rfl
  · exact h x hx
  · exact hl
end PD
end Go.Proofs.Ytckkljiaicmljaa
