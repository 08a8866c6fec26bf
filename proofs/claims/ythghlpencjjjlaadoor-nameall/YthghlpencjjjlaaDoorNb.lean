/-
  Plain facts: names, ways, their parts; what is cut at "/" and joined by it. No program in this text.
-/
import Derived.Lib.Split
import Derived.Lib.Join
namespace Go.Proofs.YthghlpencjjjlaaDoor
open Go

namespace PN
/-- A text as a string. -/
def mk (l : List UInt8) : ByteArray := ⟨l.toArray⟩
theorem mk_data (l : List UInt8) : (mk l).data.toList = l := rfl
theorem data_mk (s : ByteArray) : mk s.data.toList = s := Lib.mk_data s
theorem mk_inj {a b : List UInt8} (h : mk a = mk b) : a = b := by
  rw [← mk_data a, h, mk_data]
theorem map_data_mk (l : List (List UInt8)) : (l.map mk).map (·.data.toList) = l := by
  rw [List.map_map]
  conv => rhs; rw [← List.map_id l]
  exact List.map_congr_left fun _ _ => rfl
theorem map_mk_data (l : List ByteArray) : (l.map (·.data.toList)).map mk = l := by
  rw [List.map_map]
  conv => rhs; rw [← List.map_id l]
  exact List.map_congr_left fun x _ => data_mk x

def fit (b : UInt8) : Bool := decide (33 ≤ b.toNat) && (decide (b.toNat ≤ 126) && !decide (b.toNat = 47))
/-- What the document asks of names: one's own, anybody's. -/
def own (s : List UInt8) : Bool := decide (1 ≤ s.length) && (decide (s.length ≤ 6) && s.all fit)
def may (s : List UInt8) : Bool := own s && !Lib.hasPrefix s [126]
def ok (o : Bool) (s : List UInt8) : Bool := if o then own s else may s

/-- The pieces of a text between "/". -/
def sp : List UInt8 → List (List UInt8)
  | [] => [[]]
  | b :: r => if b = 47 then [] :: sp r else (b :: (sp r).headD []) :: (sp r).tail

/-- The parts of a way. -/
def parts (o : Bool) : List UInt8 → Option (List (List UInt8))
  | [] => none
  | b :: r => if b = 47 then (if r = [] then some [] else if (sp r).length ≤ 8 ∧ (sp r).all (ok o) = true then some (sp r) else none) else none

def is (o : Bool) (s : ByteArray) : Bool := (parts o s.data.toList).isSome
def pt (o : Bool) (s : ByteArray) : List ByteArray := ((parts o s.data.toList).getD []).map mk
/-- The way of names. -/
def path (l : List ByteArray) : ByteArray := mk (47 :: Lib.join (l.map (·.data.toList)) [47])

theorem ok_own {o : Bool} {s : List UInt8} (h : ok o s = true) : own s = true := by
  unfold ok at h
  cases o
  · simp [may] at h; exact h.1
  · simpa using h
theorem may_own {s : List UInt8} (h : may s = true) : own s = true := ok_own (o := false) (by simpa [ok] using h)
theorem own_no {s : List UInt8} (h : own s = true) : (47 : UInt8) ∉ s := by
  intro hm
  simp only [own, Bool.and_eq_true, decide_eq_true_eq, List.all_eq_true] at h
  have := h.2.2 47 hm
  exact absurd this (by decide)
theorem own_pos {s : List UInt8} (h : own s = true) : 1 ≤ s.length ∧ s.length ≤ 6 := by
  simp only [own, Bool.and_eq_true, decide_eq_true_eq] at h
  exact ⟨h.1, h.2.1⟩

theorem sp_ne : ∀ s, sp s ≠ []
  | [] => by simp [sp]
  | b :: r => by unfold sp; split <;> simp
theorem sp_form (s : List UInt8) : ∃ p l, sp s = p :: l := by
  cases h : sp s with
  | nil => exact absurd h (sp_ne s)
  | cons p l => exact ⟨p, l, rfl⟩
theorem sp_slash (r : List UInt8) : sp (47 :: r) = [] :: sp r := by rw [sp, if_pos rfl]
theorem sp_other {b : UInt8} {r : List UInt8} (h : b ≠ 47) {p : List UInt8} {l : List (List UInt8)} (hr : sp r = p :: l) : sp (b :: r) = (b :: p) :: l := by
  rw [sp, if_neg h, hr]; rfl
theorem sp_length_le : ∀ s, (sp s).length ≤ s.length + 1
  | [] => by simp [sp]
  | b :: r => by
    have ih := sp_length_le r
    by_cases h : b = 47
    · subst h; rw [sp_slash]; simp; omega
    · obtain ⟨p, l, hp⟩ := sp_form r
      rw [sp_other h hp]; rw [hp] at ih; simp at ih ⊢; omega

theorem index_miss_cons {b : UInt8} {l : List UInt8} (h : b ≠ 47) (hm : Lib.index l [47] = -1) : Lib.index (b :: l) [47] = -1 := by
  have hp : ([47] : List UInt8).isPrefixOf (b :: l) = false := by simp [List.isPrefixOf, Ne.symm h]
  rw [Lib.index, hp, hm]; simp
theorem index_hit_cons {b : UInt8} {l : List UInt8} (h : b ≠ 47) {j : Nat} (hm : Lib.index l [47] = j) : Lib.index (b :: l) [47] = ((j + 1 : Nat) : Int) := by
  have hp : ([47] : List UInt8).isPrefixOf (b :: l) = false := by simp [List.isPrefixOf, Ne.symm h]
  have : ¬ (((j : Int) == -1) = true) := by simp
  rw [Lib.index, hp, hm, if_neg (by decide), if_neg this]; omega
theorem index_slash (l : List UInt8) : Lib.index (47 :: l) [47] = 0 := by
  rw [Lib.index]; simp [List.isPrefixOf]
theorem splitK_slash (k : Nat) (r : List UInt8) : Lib.splitK [47] 0 (k + 1) (47 :: r) = [] :: Lib.splitK [47] 0 k r := by
  rw [Lib.splitK, index_slash]; simp
theorem splitK_nil (k : Nat) : Lib.splitK [47] 0 k [] = [[]] := by
  cases k with
  | zero => rfl
  | succ k => rw [Lib.splitK]; simp [Lib.index]
theorem splitK_other {b : UInt8} {r : List UInt8} (h : b ≠ 47) (k : Nat) {p : List UInt8} {l : List (List UInt8)} (hr : Lib.splitK [47] 0 (k + 1) r = p :: l) : Lib.splitK [47] 0 (k + 1) (b :: r) = (b :: p) :: l := by
  have hge := Lib.index_ge r [47]
  by_cases hm : Lib.index r [47] = -1
  · rw [Lib.splitK, hm] at hr
    rw [Lib.splitK, index_miss_cons h hm]
    simp at hr ⊢
    exact ⟨hr.1, hr.2⟩
  · obtain ⟨j, hj⟩ : ∃ j : Nat, Lib.index r [47] = j := ⟨(Lib.index r [47]).toNat, by omega⟩
    have n1 : ¬ (((j : Int) == -1) = true) := by simp
    have n2 : ¬ ((((j + 1 : Nat) : Int) == -1) = true) := by simp; omega
    rw [Lib.splitK, hj, if_neg n1] at hr
    rw [Lib.splitK, index_hit_cons h hj, if_neg n2]
    simp at hr ⊢
    exact ⟨hr.1, hr.2⟩
theorem splitK_form (k : Nat) (r : List UInt8) : ∃ p l, Lib.splitK [47] 0 k r = p :: l := by
  cases k with
  | zero => exact ⟨_, _, rfl⟩
  | succ k => rw [Lib.splitK]; split <;> exact ⟨_, _, rfl⟩

theorem sp_one : ∀ s, (sp s).length = 1 → sp s = [s]
  | [], _ => rfl
  | b :: r, h => by
    by_cases hb : b = 47
    · subst hb
      rw [sp_slash] at h
      exact absurd (List.eq_nil_of_length_eq_zero (by simpa using h)) (sp_ne r)
    · obtain ⟨p, l, hp⟩ := sp_form r
      rw [sp_other hb hp] at h
      have := sp_one r (by rw [hp]; simpa using h)
      rw [sp_other hb hp]
      rw [hp] at this
      simp at this
      rw [this.1, this.2]

theorem cut_length : ∀ (s : List UInt8) (k : Nat), (Lib.splitK [47] 0 k s).length = min (k + 1) (sp s).length
  | s, 0 => by
    obtain ⟨p, l, hp⟩ := sp_form s
    rw [hp]; simp [Lib.splitK]
  | [], k + 1 => by rw [splitK_nil]; simp [sp]
  | b :: r, k + 1 => by
    by_cases hb : b = 47
    · subst hb
      rw [splitK_slash, sp_slash, List.length_cons, List.length_cons, cut_length r k]; omega
    · obtain ⟨p, l, hp⟩ := sp_form r
      obtain ⟨p', l', hp'⟩ := splitK_form (k + 1) r
      have ih := cut_length r (k + 1)
      rw [splitK_other hb k hp', sp_other hb hp]
      rw [hp, hp'] at ih
      simpa using ih
theorem cut_whole : ∀ (s : List UInt8) (k : Nat), (sp s).length ≤ k + 1 → Lib.splitK [47] 0 k s = sp s
  | s, 0, h => by
    obtain ⟨p, l, hp⟩ := sp_form s
    rw [sp_one s (by rw [hp] at h ⊢; simp at h ⊢; exact h)]; rfl
  | [], k + 1, _ => by rw [splitK_nil]; rfl
  | b :: r, k + 1, h => by
    by_cases hb : b = 47
    · subst hb
      rw [sp_slash] at h
      rw [splitK_slash, sp_slash, cut_whole r k (by simpa using h)]
    · obtain ⟨p, l, hp⟩ := sp_form r
      rw [sp_other hb hp] at h
      have ih := cut_whole r (k + 1) (by rw [hp]; simpa using h)
      rw [hp] at ih
      rw [splitK_other hb k ih, sp_other hb hp]

/-- Nine pieces at most are enough to tell. -/
theorem nine_many (s : ByteArray) (h : 8 < (sp s.data.toList).length) : 8 < (Lib.splitB ⟨#[47]⟩ 0 (min 9 (s.size + 1) - 1) s).length := by
  have e := congrArg List.length (Lib.splitB_data ⟨#[47]⟩ 0 (min 9 (s.size + 1) - 1) s)
  rw [List.length_map, show (⟨#[47]⟩ : ByteArray).data.toList = [47] from rfl, cut_length] at e
  have hl := sp_length_le s.data.toList
  rw [← Lib.size_eq] at hl
  omega
theorem nine_few (s : ByteArray) (h : (sp s.data.toList).length ≤ 8) : Lib.splitB ⟨#[47]⟩ 0 (min 9 (s.size + 1) - 1) s = (sp s.data.toList).map mk := by
  have e := Lib.splitB_data ⟨#[47]⟩ 0 (min 9 (s.size + 1) - 1) s
  have hl := sp_length_le s.data.toList
  rw [← Lib.size_eq] at hl
  rw [show (⟨#[47]⟩ : ByteArray).data.toList = [47] from rfl, cut_whole _ _ (by omega)] at e
  rw [← e, map_mk_data]

/-- Joined again. -/
theorem join_cons_cons (x y : List UInt8) (l : List (List UInt8)) : Lib.join (x :: y :: l) [47] = x ++ 47 :: Lib.join (y :: l) [47] := by
  rw [Lib.join_cons, Lib.join_cons]; simp [Lib.joinTail]
theorem join_head (b : UInt8) (p : List UInt8) (l : List (List UInt8)) : Lib.join ((b :: p) :: l) [47] = b :: Lib.join (p :: l) [47] := by
  rw [Lib.join_cons, Lib.join_cons]; rfl
theorem join_sp : ∀ s, Lib.join (sp s) [47] = s
  | [] => by rw [sp, Lib.join_one]
  | b :: r => by
    obtain ⟨p, l, hp⟩ := sp_form r
    have ih := join_sp r
    rw [hp] at ih
    by_cases hb : b = 47
    · subst hb
      rw [sp_slash, hp, join_cons_cons, ih]; rfl
    · rw [sp_other hb hp, join_head, ih]
theorem sp_plain : ∀ x : List UInt8, (47 : UInt8) ∉ x → sp x = [x]
  | [], _ => rfl
  | b :: r, h => by
    have hb : b ≠ 47 := fun e => h (by simp [e])
    rw [sp_other hb (sp_plain r fun hm => h (by simp [hm]))]
theorem sp_front : ∀ (x r : List UInt8), (47 : UInt8) ∉ x → sp (x ++ 47 :: r) = x :: sp r
  | [], r, _ => by rw [List.nil_append, sp_slash]
  | b :: x, r, h => by
    have hb : b ≠ 47 := fun e => h (by simp [e])
    rw [List.cons_append, sp_other hb (sp_front x r fun hm => h (by simp [hm]))]
theorem sp_join : ∀ (l : List (List UInt8)), l ≠ [] → (∀ x ∈ l, (47 : UInt8) ∉ x) → sp (Lib.join l [47]) = l
  | [], h, _ => absurd rfl h
  | [x], _, h => by rw [Lib.join_one]; exact sp_plain x (h x (by simp))
  | x :: y :: l, _, h => by
    rw [join_cons_cons, sp_front x _ (h x (by simp)), sp_join (y :: l) (by simp) fun z hz => h z (by simp at hz ⊢; right; exact hz)]

theorem parts_some {o : Bool} {s : List UInt8} {l : List (List UInt8)} (h : parts o s = some l) : s = 47 :: Lib.join l [47] ∧ l.length ≤ 8 ∧ ∀ x ∈ l, ok o x = true := by
  unfold parts at h
  split at h
  · cases h
  · rename_i b r
    split at h
    · rename_i hb
      subst hb
      split at h
      · rename_i hr
        subst hr
        cases h
        exact ⟨rfl, by decide, by simp⟩
      · split at h
        · rename_i hc
          cases h
          exact ⟨by rw [join_sp], hc.1, List.all_eq_true.1 hc.2⟩
        · cases h
    · cases h
/-- The parts of the way of names that may be. -/
theorem parts_path {o : Bool} (l : List (List UInt8)) (h : ∀ x ∈ l, ok o x = true) : parts o (47 :: Lib.join l [47]) = if l.length ≤ 8 then some l else none := by
  rw [parts, if_pos rfl]
  cases l with
  | nil => rfl
  | cons x r =>
    have hne : Lib.join (x :: r) [47] ≠ [] := by
      rw [Lib.join_cons]
      have := (own_pos (ok_own (h x (by simp)))).1
      intro e
      have e2 := congrArg List.length e
      rw [List.length_append, List.length_nil] at e2
      omega
    rw [if_neg hne, sp_join _ (by simp) fun z hz => own_no (ok_own (h z hz))]
    by_cases hl : (x :: r).length ≤ 8
    · rw [if_pos ⟨hl, List.all_eq_true.2 h⟩, if_pos hl]
    · rw [if_neg (fun e => hl e.1), if_neg hl]

/-- Of strings. -/
theorem is_path {o : Bool} (l : List ByteArray) (h : ∀ x ∈ l, ok o x.data.toList = true) : is o (path l) = decide (l.length ≤ 8) := by
  have hm : ∀ x ∈ l.map (·.data.toList), ok o x = true := by
    intro x hx
    obtain ⟨y, hy, rfl⟩ := List.mem_map.1 hx
    exact h y hy
  unfold is path
  rw [mk_data, parts_path _ hm, List.length_map]
  split <;> simp [*]
theorem pt_path {o : Bool} (l : List ByteArray) (h : ∀ x ∈ l, ok o x.data.toList = true) (hl : l.length ≤ 8) : pt o (path l) = l := by
  have hm : ∀ x ∈ l.map (·.data.toList), ok o x = true := by
    intro x hx
    obtain ⟨y, hy, rfl⟩ := List.mem_map.1 hx
    exact h y hy
  unfold pt path
  rw [mk_data, parts_path _ hm, List.length_map, if_pos hl, Option.getD_some, map_mk_data]
theorem is_some {o : Bool} {s : ByteArray} (h : is o s = true) : path (pt o s) = s ∧ (pt o s).length ≤ 8 ∧ ∀ x ∈ pt o s, ok o x.data.toList = true := by
  unfold is at h
  obtain ⟨l, hl⟩ := Option.isSome_iff_exists.1 h
  obtain ⟨h1, h2, h3⟩ := parts_some hl
  unfold path pt
  rw [hl, Option.getD_some, map_data_mk, ← h1, data_mk]
  refine ⟨rfl, by simpa using h2, fun x hx => ?_⟩
  obtain ⟨y, hy, rfl⟩ := List.mem_map.1 hx
  exact h3 y hy
theorem pt_none {o : Bool} {s : ByteArray} (h : is o s = false) : pt o s = [] := by
  unfold is at h
  unfold pt
  cases hp : parts o s.data.toList with
  | none => rfl
  | some l => rw [hp] at h; cases h
theorem pt_le (o : Bool) (s : ByteArray) : (pt o s).length ≤ 8 ∧ ∀ x ∈ pt o s, x.size ≤ 6 := by
  cases h : is o s with
  | false => rw [pt_none h]; simp
  | true =>
    obtain ⟨_, h2, h3⟩ := is_some h
    refine ⟨h2, fun x hx => ?_⟩
    have := own_pos (ok_own (h3 x hx))
    rw [Lib.size_eq]; exact this.2
/-- Anybody's way is one's own. -/
theorem is_own {s : ByteArray} (h : is false s = true) : is true s = true := by
  obtain ⟨h1, h2, h3⟩ := is_some h
  have := is_path (o := true) (pt false s) fun x hx => by simpa [ok] using ok_own (h3 x hx)
  rw [h1] at this
  rw [this]; simpa using h2

/-- The document's own road: letter by letter. -/
def go (o : Bool) : List (List UInt8) → List UInt8 → List UInt8 → Option (List (List UInt8))
  | out, nm, [] => if ok o nm = true ∧ out.length < 8 then some (out ++ [nm]) else none
  | out, nm, b :: r => if b ≠ 47 then go o out (nm ++ [b]) r else if ok o nm = true ∧ out.length < 8 then go o (out ++ [nm]) [] r else none
theorem go_eq (o : Bool) : ∀ (r : List UInt8) (out : List (List UInt8)) (nm p : List UInt8) (l : List (List UInt8)), sp r = p :: l → go o out nm r = if out.length + (l.length + 1) ≤ 8 ∧ ((nm ++ p) :: l).all (ok o) = true then some (out ++ (nm ++ p) :: l) else none
  | [], out, nm, p, l, h => by
    simp [sp] at h
    obtain ⟨rfl, rfl⟩ := h
    unfold go
    simp
    by_cases h1 : ok o nm = true
    · by_cases h2 : out.length < 8
      · rw [if_pos ⟨h1, h2⟩, if_pos ⟨by omega, h1⟩]
      · rw [if_neg (fun e => h2 e.2), if_neg (fun e => h2 (by have := e.1; omega))]
    · rw [if_neg (fun e => h1 e.1), if_neg (fun e => h1 e.2)]
  | b :: r, out, nm, p, l, h => by
    obtain ⟨p', l', hp⟩ := sp_form r
    unfold go
    by_cases hb : b = 47
    · subst hb
      rw [sp_slash, hp] at h
      simp at h
      obtain ⟨rfl, rfl⟩ := h
      rw [if_neg (by simp)]
      by_cases h1 : ok o nm = true
      · by_cases h2 : out.length < 8
        · rw [if_pos ⟨h1, h2⟩, go_eq o r (out ++ [nm]) [] p' l' hp]
          simp [h1, Nat.add_assoc, Nat.add_comm 1]
        · rw [if_neg (fun e => h2 e.2), if_neg (fun e => h2 (by have := e.1; omega))]
      · rw [if_neg (fun e => h1 e.1), if_neg (fun e => h1 (by simpa using (List.all_eq_true.1 e.2) nm (by simp)))]
    · rw [sp_other hb hp] at h
      simp at h
      obtain ⟨rfl, rfl⟩ := h
      rw [if_pos hb, go_eq o r out (nm ++ [b]) p' l' hp]
      simp
theorem go_parts (o : Bool) (r : List UInt8) (h : r ≠ []) : go o [] [] r = parts o (47 :: r) := by
  obtain ⟨p, l, hp⟩ := sp_form r
  rw [go_eq o r [] [] p l hp, parts, if_pos rfl, if_neg h, hp]
  simp
end PN
end Go.Proofs.YthghlpencjjjlaaDoor
