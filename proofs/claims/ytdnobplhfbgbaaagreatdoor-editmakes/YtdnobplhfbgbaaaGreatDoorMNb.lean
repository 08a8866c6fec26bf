/-
  Plain facts: names, ways, their parts; what is cut at "/" and joined by it. No program in this text.
  Contracts: name.fits, name.Own, name.May.
  Contracts: name.all, strings.Clone, name.copied, name.Path.
  Contracts: name.copied, name.Path.
  Contract: name.Parts.
  Words for memory, on: rows of strings of one's own; the draws; a string compared; the texts of two rows; a text's cells.
-/
import Derived.Lib.Split
import Derived.Lib.Join
import Derived.Test.YtdnobplhfbgbaaaGreatDoorNa
namespace Go.Proofs.YtdnobplhfbgbaaaGreatDoor
open Go

namespace PN
/-- A text as a string. -/
def mk (l : List UInt8) : ByteArray := ⟨l.toArray⟩
theorem mk_data (l : List UInt8) : (mk l).data.toList = l := rfl
theorem data_mk (s : ByteArray) : mk s.data.toList = s := Lib.mk_data s
theorem mk_inj {a b : List UInt8} (h : mk a = mk b) : a = b := by
  rw [← mk_data a, h, mk_data]
theorem map_data_mk (l : List (List UInt8)) : (l.map mk).map (·.data.toList) = l := by
  rw [List.map_map]
  conv => rhs; rw [← List.map_id l]
  exact List.map_congr_left fun _ _ => rfl
theorem map_mk_data (l : List ByteArray) : (l.map (·.data.toList)).map mk = l := by
  rw [List.map_map]
  conv => rhs; rw [← List.map_id l]
  exact List.map_congr_left fun x _ => data_mk x

def fit (b : UInt8) : Bool := decide (33 ≤ b.toNat) && (decide (b.toNat ≤ 126) && !decide (b.toNat = 47))
/-- What the document asks of names: one's own, anybody's. -/
def own (s : List UInt8) : Bool := decide (1 ≤ s.length) && (decide (s.length ≤ 6) && s.all fit)
def may (s : List UInt8) : Bool := own s && !Lib.hasPrefix s [126]
def ok (o : Bool) (s : List UInt8) : Bool := if o then own s else may s

/-- The pieces of a text between "/". -/
def sp : List UInt8 → List (List UInt8)
  | [] => [[]]
  | b :: r => if b = 47 then [] :: sp r else (b :: (sp r).headD []) :: (sp r).tail

/-- The parts of a way. -/
def parts (o : Bool) : List UInt8 → Option (List (List UInt8))
  | [] => none
  | b :: r => if b = 47 then (if r = [] then some [] else if (sp r).length ≤ 8 ∧ (sp r).all (ok o) = true then some (sp r) else none) else none

def is (o : Bool) (s : ByteArray) : Bool := (parts o s.data.toList).isSome
def pt (o : Bool) (s : ByteArray) : List ByteArray := ((parts o s.data.toList).getD []).map mk
/-- The way of names. -/
def path (l : List ByteArray) : ByteArray := mk (47 :: Lib.join (l.map (·.data.toList)) [47])

theorem ok_own {o : Bool} {s : List UInt8} (h : ok o s = true) : own s = true := by
  unfold ok at h
  cases o
  · simp [may] at h; exact h.1
  · simpa using h
theorem may_own {s : List UInt8} (h : may s = true) : own s = true := ok_own (o := false) (by simpa [ok] using h)
theorem own_no {s : List UInt8} (h : own s = true) : (47 : UInt8) ∉ s := by
  intro hm
  simp only [own, Bool.and_eq_true, decide_eq_true_eq, List.all_eq_true] at h
  have := h.2.2 47 hm
  exact absurd this (by decide)
theorem own_pos {s : List UInt8} (h : own s = true) : 1 ≤ s.length ∧ s.length ≤ 6 := by
  simp only [own, Bool.and_eq_true, decide_eq_true_eq] at h
  exact ⟨h.1, h.2.1⟩

theorem sp_ne : ∀ s, sp s ≠ []
  | [] => by simp [sp]
  | b :: r => by unfold sp; split <;> simp
theorem sp_form (s : List UInt8) : ∃ p l, sp s = p :: l := by
  cases h : sp s with
  | nil => exact absurd h (sp_ne s)
  | cons p l => exact ⟨p, l, rfl⟩
theorem sp_slash (r : List UInt8) : sp (47 :: r) = [] :: sp r := by rw [sp, if_pos rfl]
theorem sp_other {b : UInt8} {r : List UInt8} (h : b ≠ 47) {p : List UInt8} {l : List (List UInt8)} (hr : sp r = p :: l) : sp (b :: r) = (b :: p) :: l := by
  rw [sp, if_neg h, hr]; rfl
theorem sp_length_le : ∀ s, (sp s).length ≤ s.length + 1
  | [] => by simp [sp]
  | b :: r => by
    have ih := sp_length_le r
    by_cases h : b = 47
    · subst h; rw [sp_slash]; simp; omega
    · obtain ⟨p, l, hp⟩ := sp_form r
      rw [sp_other h hp]; rw [hp] at ih; simp at ih ⊢; omega

theorem index_miss_cons {b : UInt8} {l : List UInt8} (h : b ≠ 47) (hm : Lib.index l [47] = -1) : Lib.index (b :: l) [47] = -1 := by
  have hp : ([47] : List UInt8).isPrefixOf (b :: l) = false := by simp [List.isPrefixOf, Ne.symm h]
  rw [Lib.index, hp, hm]; simp
theorem index_hit_cons {b : UInt8} {l : List UInt8} (h : b ≠ 47) {j : Nat} (hm : Lib.index l [47] = j) : Lib.index (b :: l) [47] = ((j + 1 : Nat) : Int) := by
  have hp : ([47] : List UInt8).isPrefixOf (b :: l) = false := by simp [List.isPrefixOf, Ne.symm h]
  have : ¬ (((j : Int) == -1) = true) := by simp
  rw [Lib.index, hp, hm, if_neg (by decide), if_neg this]; omega
theorem index_slash (l : List UInt8) : Lib.index (47 :: l) [47] = 0 := by
  rw [Lib.index]; simp [List.isPrefixOf]
theorem splitK_slash (k : Nat) (r : List UInt8) : Lib.splitK [47] 0 (k + 1) (47 :: r) = [] :: Lib.splitK [47] 0 k r := by
  rw [Lib.splitK, index_slash]; simp
theorem splitK_nil (k : Nat) : Lib.splitK [47] 0 k [] = [[]] := by
  cases k with
  | zero => rfl
  | succ k => rw [Lib.splitK]; simp [Lib.index]
theorem splitK_other {b : UInt8} {r : List UInt8} (h : b ≠ 47) (k : Nat) {p : List UInt8} {l : List (List UInt8)} (hr : Lib.splitK [47] 0 (k + 1) r = p :: l) : Lib.splitK [47] 0 (k + 1) (b :: r) = (b :: p) :: l := by
  have hge := Lib.index_ge r [47]
  by_cases hm : Lib.index r [47] = -1
  · rw [Lib.splitK, hm] at hr
    rw [Lib.splitK, index_miss_cons h hm]
    simp at hr ⊢
    exact ⟨hr.1, hr.2⟩
  · obtain ⟨j, hj⟩ : ∃ j : Nat, Lib.index r [47] = j := ⟨(Lib.index r [47]).toNat, by omega⟩
    have n1 : ¬ (((j : Int) == -1) = true) := by simp
    have n2 : ¬ ((((j + 1 : Nat) : Int) == -1) = true) := by simp; omega
    rw [Lib.splitK, hj, if_neg n1] at hr
    rw [Lib.splitK, index_hit_cons h hj, if_neg n2]
    simp at hr ⊢
    exact ⟨hr.1, hr.2⟩
theorem splitK_form (k : Nat) (r : List UInt8) : ∃ p l, Lib.splitK [47] 0 k r = p :: l := by
  cases k with
  | zero => exact ⟨_, _, rfl⟩
  | succ k => rw [Lib.splitK]; split <;> exact ⟨_, _, rfl⟩

theorem sp_one : ∀ s, (sp s).length = 1 → sp s = [s]
  | [], _ => rfl
  | b :: r, h => by
    by_cases hb : b = 47
    · subst hb
      rw [sp_slash] at h
      exact absurd (List.eq_nil_of_length_eq_zero (by simpa using h)) (sp_ne r)
    · obtain ⟨p, l, hp⟩ := sp_form r
      rw [sp_other hb hp] at h
      have := sp_one r (by rw [hp]; simpa using h)
      rw [sp_other hb hp]
      rw [hp] at this
      simp at this
      rw [this.1, this.2]

theorem cut_length : ∀ (s : List UInt8) (k : Nat), (Lib.splitK [47] 0 k s).length = min (k + 1) (sp s).length
  | s, 0 => by
    obtain ⟨p, l, hp⟩ := sp_form s
    rw [hp]; simp [Lib.splitK]
  | [], k + 1 => by rw [splitK_nil]; simp [sp]
  | b :: r, k + 1 => by
    by_cases hb : b = 47
    · subst hb
      rw [splitK_slash, sp_slash, List.length_cons, List.length_cons, cut_length r k]; omega
    · obtain ⟨p, l, hp⟩ := sp_form r
      obtain ⟨p', l', hp'⟩ := splitK_form (k + 1) r
      have ih := cut_length r (k + 1)
      rw [splitK_other hb k hp', sp_other hb hp]
      rw [hp, hp'] at ih
      simpa using ih
theorem cut_whole : ∀ (s : List UInt8) (k : Nat), (sp s).length ≤ k + 1 → Lib.splitK [47] 0 k s = sp s
  | s, 0, h => by
    obtain ⟨p, l, hp⟩ := sp_form s
    rw [sp_one s (by rw [hp] at h ⊢; simp at h ⊢; exact h)]; rfl
  | [], k + 1, _ => by rw [splitK_nil]; rfl
  | b :: r, k + 1, h => by
    by_cases hb : b = 47
    · subst hb
      rw [sp_slash] at h
      rw [splitK_slash, sp_slash, cut_whole r k (by simpa using h)]
    · obtain ⟨p, l, hp⟩ := sp_form r
      rw [sp_other hb hp] at h
      have ih := cut_whole r (k + 1) (by rw [hp]; simpa using h)
      rw [hp] at ih
      rw [splitK_other hb k ih, sp_other hb hp]

/-- Nine pieces at most are enough to tell. -/
theorem nine_many (s : ByteArray) (h : 8 < (sp s.data.toList).length) : 8 < (Lib.splitB ⟨#[47]⟩ 0 (min 9 (s.size + 1) - 1) s).length := by
  have e := congrArg List.length (Lib.splitB_data ⟨#[47]⟩ 0 (min 9 (s.size + 1) - 1) s)
  rw [List.length_map, show (⟨#[47]⟩ : ByteArray).data.toList = [47] from rfl, cut_length] at e
  have hl := sp_length_le s.data.toList
  rw [← Lib.size_eq] at hl
  omega
theorem nine_few (s : ByteArray) (h : (sp s.data.toList).length ≤ 8) : Lib.splitB ⟨#[47]⟩ 0 (min 9 (s.size + 1) - 1) s = (sp s.data.toList).map mk := by
  have e := Lib.splitB_data ⟨#[47]⟩ 0 (min 9 (s.size + 1) - 1) s
  have hl := sp_length_le s.data.toList
  rw [← Lib.size_eq] at hl
  rw [show (⟨#[47]⟩ : ByteArray).data.toList = [47] from rfl, cut_whole _ _ (by omega)] at e
  rw [← e, map_mk_data]

/-- Joined again. -/
theorem join_cons_cons (x y : List UInt8) (l : List (List UInt8)) : Lib.join (x :: y :: l) [47] = x ++ 47 :: Lib.join (y :: l) [47] := by
  rw [Lib.join_cons, Lib.join_cons]; simp [Lib.joinTail]
theorem join_head (b : UInt8) (p : List UInt8) (l : List (List UInt8)) : Lib.join ((b :: p) :: l) [47] = b :: Lib.join (p :: l) [47] := by
  rw [Lib.join_cons, Lib.join_cons]; rfl
theorem join_sp : ∀ s, Lib.join (sp s) [47] = s
  | [] => by rw [sp, Lib.join_one]
  | b :: r => by
    obtain ⟨p, l, hp⟩ := sp_form r
    have ih := join_sp r
    rw [hp] at ih
    by_cases hb : b = 47
    · subst hb
      rw [sp_slash, hp, join_cons_cons, ih]; rfl
    · rw [sp_other hb hp, join_head, ih]
theorem sp_plain : ∀ x : List UInt8, (47 : UInt8) ∉ x → sp x = [x]
  | [], _ => rfl
  | b :: r, h => by
    have hb : b ≠ 47 := fun e => h (by simp [e])
    rw [sp_other hb (sp_plain r fun hm => h (by simp [hm]))]
theorem sp_front : ∀ (x r : List UInt8), (47 : UInt8) ∉ x → sp (x ++ 47 :: r) = x :: sp r
  | [], r, _ => by rw [List.nil_append, sp_slash]
  | b :: x, r, h => by
    have hb : b ≠ 47 := fun e => h (by simp [e])
    rw [List.cons_append, sp_other hb (sp_front x r fun hm => h (by simp [hm]))]
theorem sp_join : ∀ (l : List (List UInt8)), l ≠ [] → (∀ x ∈ l, (47 : UInt8) ∉ x) → sp (Lib.join l [47]) = l
  | [], h, _ => absurd rfl h
  | [x], _, h => by rw [Lib.join_one]; exact sp_plain x (h x (by simp))
  | x :: y :: l, _, h => by
    rw [join_cons_cons, sp_front x _ (h x (by simp)), sp_join (y :: l) (by simp) fun z hz => h z (by simp at hz ⊢; right; exact hz)]

theorem parts_some {o : Bool} {s : List UInt8} {l : List (List UInt8)} (h : parts o s = some l) : s = 47 :: Lib.join l [47] ∧ l.length ≤ 8 ∧ ∀ x ∈ l, ok o x = true := by
  unfold parts at h
  split at h
  · cases h
  · rename_i b r
    split at h
    · rename_i hb
      subst hb
      split at h
      · rename_i hr
        subst hr
        cases h
        exact ⟨rfl, by decide, by simp⟩
      · split at h
        · rename_i hc
          cases h
          exact ⟨by rw [join_sp], hc.1, List.all_eq_true.1 hc.2⟩
        · cases h
    · cases h
/-- The parts of the way of names that may be. -/
theorem parts_path {o : Bool} (l : List (List UInt8)) (h : ∀ x ∈ l, ok o x = true) : parts o (47 :: Lib.join l [47]) = if l.length ≤ 8 then some l else none := by
  rw [parts, if_pos rfl]
  cases l with
  | nil => rfl
  | cons x r =>
    have hne : Lib.join (x :: r) [47] ≠ [] := by
      rw [Lib.join_cons]
      have := (own_pos (ok_own (h x (by simp)))).1
      intro e
      have e2 := congrArg List.length e
      rw [List.length_append, List.length_nil] at e2
      omega
    rw [if_neg hne, sp_join _ (by simp) fun z hz => own_no (ok_own (h z hz))]
    by_cases hl : (x :: r).length ≤ 8
    · rw [if_pos ⟨hl, List.all_eq_true.2 h⟩, if_pos hl]
    · rw [if_neg (fun e => hl e.1), if_neg hl]

/-- Of strings. -/
theorem is_path {o : Bool} (l : List ByteArray) (h : ∀ x ∈ l, ok o x.data.toList = true) : is o (path l) = decide (l.length ≤ 8) := by
  have hm : ∀ x ∈ l.map (·.data.toList), ok o x = true := by
    intro x hx
    obtain ⟨y, hy, rfl⟩ := List.mem_map.1 hx
    exact h y hy
  unfold is path
  rw [mk_data, parts_path _ hm, List.length_map]
  split <;> simp [*]
theorem pt_path {o : Bool} (l : List ByteArray) (h : ∀ x ∈ l, ok o x.data.toList = true) (hl : l.length ≤ 8) : pt o (path l) = l := by
  have hm : ∀ x ∈ l.map (·.data.toList), ok o x = true := by
    intro x hx
    obtain ⟨y, hy, rfl⟩ := List.mem_map.1 hx
    exact h y hy
  unfold pt path
  rw [mk_data, parts_path _ hm, List.length_map, if_pos hl, Option.getD_some, map_mk_data]
theorem is_some {o : Bool} {s : ByteArray} (h : is o s = true) : path (pt o s) = s ∧ (pt o s).length ≤ 8 ∧ ∀ x ∈ pt o s, ok o x.data.toList = true := by
  unfold is at h
  obtain ⟨l, hl⟩ := Option.isSome_iff_exists.1 h
  obtain ⟨h1, h2, h3⟩ := parts_some hl
  unfold path pt
  rw [hl, Option.getD_some, map_data_mk, ← h1, data_mk]
  refine ⟨rfl, by simpa using h2, fun x hx => ?_⟩
  obtain ⟨y, hy, rfl⟩ := List.mem_map.1 hx
  exact h3 y hy
theorem pt_none {o : Bool} {s : ByteArray} (h : is o s = false) : pt o s = [] := by
  unfold is at h
  unfold pt
  cases hp : parts o s.data.toList with
  | none => rfl
  | some l => rw [hp] at h; cases h
theorem pt_le (o : Bool) (s : ByteArray) : (pt o s).length ≤ 8 ∧ ∀ x ∈ pt o s, x.size ≤ 6 := by
  cases h : is o s with
  | false => rw [pt_none h]; simp
  | true =>
    obtain ⟨_, h2, h3⟩ := is_some h
    refine ⟨h2, fun x hx => ?_⟩
    have := own_pos (ok_own (h3 x hx))
    rw [Lib.size_eq]; exact this.2
/-- Anybody's way is one's own. -/
theorem is_own {s : ByteArray} (h : is false s = true) : is true s = true := by
  obtain ⟨h1, h2, h3⟩ := is_some h
  have := is_path (o := true) (pt false s) fun x hx => by simpa [ok] using ok_own (h3 x hx)
  rw [h1] at this
  rw [this]; simpa using h2

/-- The document's own road: letter by letter. -/
def go (o : Bool) : List (List UInt8) → List UInt8 → List UInt8 → Option (List (List UInt8))
  | out, nm, [] => if ok o nm = true ∧ out.length < 8 then some (out ++ [nm]) else none
  | out, nm, b :: r => if b ≠ 47 then go o out (nm ++ [b]) r else if ok o nm = true ∧ out.length < 8 then go o (out ++ [nm]) [] r else none
theorem go_eq (o : Bool) : ∀ (r : List UInt8) (out : List (List UInt8)) (nm p : List UInt8) (l : List (List UInt8)), sp r = p :: l → go o out nm r = if out.length + (l.length + 1) ≤ 8 ∧ ((nm ++ p) :: l).all (ok o) = true then some (out ++ (nm ++ p) :: l) else none
  | [], out, nm, p, l, h => by
    simp [sp] at h
    obtain ⟨rfl, rfl⟩ := h
    unfold go
    simp
    by_cases h1 : ok o nm = true
    · by_cases h2 : out.length < 8
      · rw [if_pos ⟨h1, h2⟩, if_pos ⟨by omega, h1⟩]
      · rw [if_neg (fun e => h2 e.2), if_neg (fun e => h2 (by have := e.1; omega))]
    · rw [if_neg (fun e => h1 e.1), if_neg (fun e => h1 e.2)]
  | b :: r, out, nm, p, l, h => by
    obtain ⟨p', l', hp⟩ := sp_form r
    unfold go
    by_cases hb : b = 47
    · subst hb
      rw [sp_slash, hp] at h
      simp at h
      obtain ⟨rfl, rfl⟩ := h
      rw [if_neg (by simp)]
      by_cases h1 : ok o nm = true
      · by_cases h2 : out.length < 8
        · rw [if_pos ⟨h1, h2⟩, go_eq o r (out ++ [nm]) [] p' l' hp]
          simp [h1, Nat.add_assoc, Nat.add_comm 1]
        · rw [if_neg (fun e => h2 e.2), if_neg (fun e => h2 (by have := e.1; omega))]
      · rw [if_neg (fun e => h1 e.1), if_neg (fun e => h1 (by simpa using (List.all_eq_true.1 e.2) nm (by simp)))]
    · rw [sp_other hb hp] at h
      simp at h
      obtain ⟨rfl, rfl⟩ := h
      rw [if_pos hb, go_eq o r out (nm ++ [b]) p' l' hp]
      simp
theorem go_parts (o : Bool) (r : List UInt8) (h : r ≠ []) : go o [] [] r = parts o (47 :: r) := by
  obtain ⟨p, l, hp⟩ := sp_form r
  rw [go_eq o r [] [] p l hp, parts, if_pos rfl, if_neg h, hp]
  simp
end PN
end Go.Proofs.YtdnobplhfbgbaaaGreatDoor
namespace Go.Proofs.YtdnobplhfbgbaaaGreatDoor
open Go.RowKit Go.Joins

set_option maxHeartbeats 2000000 in
theorem fits_any (b : UInt8) (w : World) : Calls Tryz.prog 168 #[.int .u8 (b.toNat : Int)] w fun e w' => e = .returned (.bool (PN.fit b)) ∧ w' = w := by
  have hf : PN.fit b = (decide (33 ≤ b.toNat) && (decide (b.toNat ≤ 126) && !decide (b.toNat = 47))) := rfl
  generalize b.toNat = n at *
  generalize PN.fit b = f at *
  have HF := Lib.hid hf
  clear hf
  by_cases h1 : 33 ≤ n
  · by_cases h2 : n ≤ 126
    · by_cases h3 : n = 47
      · have hr : f = false := by rw [HF.out]; simp [h3]
        subst hr h3
        clear HF
        go_enter Tryz.func168, Tryz.ntmps168
        go_wp2
        go_ret
        exact ⟨rfl, rfl⟩
      · have hr : f = true := by rw [HF.out]; simp [h1, h2, h3]
        subst hr
        have h1' : (33 : Int) ≤ (n : Int) := by omega
        have h2' : (n : Int) ≤ 126 := by omega
        clear HF
        go_enter Tryz.func168, Tryz.ntmps168
        go_wp2
        go_ret
        refine ⟨?_, rfl⟩
        simp
        exact fun e => h3 (Int.ofNat.inj e)
    · have hr : f = false := by rw [HF.out]; simp [h2]
      subst hr
      have h1' : (33 : Int) ≤ (n : Int) := by omega
      have h2' : ¬ (n : Int) ≤ 126 := by omega
      clear HF
      go_enter Tryz.func168, Tryz.ntmps168
      go_wp2
      go_ret
      exact ⟨rfl, rfl⟩
  · have hr : f = false := by rw [HF.out]; simp [h1]
    subst hr
    have h1' : ¬ (33 : Int) ≤ (n : Int) := by omega
    clear HF
    go_enter Tryz.func168, Tryz.ntmps168
    go_wp2
    go_ret
    exact ⟨rfl, rfl⟩

theorem ix_data (s : ByteArray) (k : Nat) (h : k < s.size) : ∃ b, s.data.toList[k]? = some b ∧ s[k] = b := by
  have h' : k < s.data.toList.length := by rw [← Lib.size_eq]; exact h
  exact ⟨_, List.getElem?_eq_getElem h', by simp [ByteArray.getElem_eq_getElem_data]⟩

set_option maxHeartbeats 4000000 in
theorem own_any (s : ByteArray) (w : World) : Calls Tryz.prog 140 #[.string s] w fun e w' => e = .returned (.bool (PN.own s.data.toList)) ∧ w' = w := by
  have hf : PN.own s.data.toList = (decide (1 ≤ s.size) && (decide (s.size ≤ 6) && s.data.toList.all PN.fit)) := by rw [Lib.size_eq]; rfl
  obtain ⟨f, hfe⟩ : ∃ f, PN.own s.data.toList = f := ⟨_, rfl⟩
  rw [hfe] at hf ⊢
  obtain ⟨n, hn⟩ : ∃ n, s.size = n := ⟨_, rfl⟩
  rw [hn] at hf
  have HF := Lib.hid hf
  clear hf hfe
  by_cases h1 : 1 ≤ n
  · by_cases h2 : n ≤ 6
    · have h1' : ¬ (s.size : Int) < 1 := by omega
      have h2' : ¬ (6 : Int) < (s.size : Int) := by omega
      go_enter Tryz.func140, Tryz.ntmps140
      go_wp2
      go_loop [14] (fun i => ∃ k : Nat, k ≤ n ∧ i = .int .i64 (k : Int) ∧ (s.data.toList.take k).all PN.fit = true) (fun i => n - (intOf i).toNat)
      case atStart => exact ⟨0, Nat.zero_le _, rfl, rfl⟩
      case round =>
        obtain ⟨k, hk, rfl, ha⟩ := hrel
        by_cases hlt : k < n
        · obtain ⟨b, hb, hb'⟩ := ix_data s k (by omega)
          have hft := fits_any b
          have hnx : (s.data.toList.take (k + 1)).all PN.fit = PN.fit b := by
            rw [List.take_add_one, hb, List.all_append, ha]; simp
          have hno : PN.fit b = false → f = false := fun e => by
            rw [HF.out]
            have : s.data.toList.all PN.fit = false := List.all_eq_false.2 ⟨b, List.mem_of_getElem? hb, by simp [e]⟩
            rw [this]; simp
          have HN := Lib.hid hnx
          have HNO := Lib.hid hno
          clear hb hnx hno ha
          generalize PN.fit b = fb at *
          cases fb with
          | true =>
            go_wp2_with (go_at_call 168; refine (hft _).mono ?_; rintro e w1 ⟨rfl, rfl⟩)
            go_round
            case rel => exact ⟨k + 1, by omega, by go_num, HN.out⟩
            case measure => simp [intOf]; omega
          | false =>
            go_wp2_with (go_at_call 168; refine (hft _).mono ?_; rintro e w1 ⟨rfl, rfl⟩)
            go_ret
            rw [HNO.out (by trivial)]
            exact ⟨rfl, rfl⟩
        · have hkn : k = n := by omega
          subst hkn
          have hr : f = true := by
            rw [HF.out]
            rw [List.take_of_length_le (by rw [← Lib.size_eq]; omega)] at ha
            simp [h1, h2, ha]
          subst hr
          clear HF ha
          go_wp2
          go_ret
          exact ⟨rfl, rfl⟩
    · have hr : f = false := by rw [HF.out]; simp [h2]
      subst hr
      have h1' : ¬ (s.size : Int) < 1 := by omega
      have h2' : (6 : Int) < (s.size : Int) := by omega
      clear HF
      go_enter Tryz.func140, Tryz.ntmps140
      go_wp2
      go_ret
      exact ⟨rfl, rfl⟩
  · have hr : f = false := by rw [HF.out]; simp [h1]
    subst hr
    have h1' : (s.size : Int) < 1 := by omega
    clear HF
    go_enter Tryz.func140, Tryz.ntmps140
    go_wp2
    go_ret
    exact ⟨rfl, rfl⟩

set_option maxHeartbeats 2000000 in
theorem may_any (s : ByteArray) (w : World) : Calls Tryz.prog 141 #[.string s] w fun e w' => e = .returned (.bool (PN.may s.data.toList)) ∧ w' = w := by
  have hf : PN.may s.data.toList = (PN.own s.data.toList && !Lib.hasPrefix s.data.toList [126]) := rfl
  rw [hf]
  have ho := own_any s
  have hp := Tryz.strings_HasPrefix s { data := #[126] }
  rw [show (({ data := #[126] } : ByteArray).data.toList) = [126] from rfl] at hp
  generalize PN.own s.data.toList = o at *
  generalize Lib.hasPrefix s.data.toList [126] = p at *
  clear hf
  cases o
  · go_enter Tryz.func141, Tryz.ntmps141
    go_wp2_with (first | (go_at_call 140; refine (ho _).mono ?_; rintro e w1 ⟨rfl, rfl⟩) | (go_at_call 169; refine (hp _).mono ?_; rintro e w1 ⟨rfl, rfl⟩))
    go_ret
    exact ⟨rfl, rfl⟩
  · go_enter Tryz.func141, Tryz.ntmps141
    go_wp2_with (first | (go_at_call 140; refine (ho _).mono ?_; rintro e w1 ⟨rfl, rfl⟩) | (go_at_call 169; refine (hp _).mono ?_; rintro e w1 ⟨rfl, rfl⟩))
    go_ret
    exact ⟨by simp, rfl⟩
end Go.Proofs.YtdnobplhfbgbaaaGreatDoor
namespace Go.Proofs.YtdnobplhfbgbaaaGreatDoor
open Go.RowKit Go.Joins

/-- A row of strings at a place. -/
theorem Ss.at {w : World} {A : Option Addr} {n c : Nat} {ss : List ByteArray} (h : Ss w (.slice A n c) ss) (h0 : 0 < ss.length) : ∃ b o, A = some ⟨b, o, none⟩ ∧ b < w.heap.size ∧ ∀ j x, ss[j]? = some x → w.cell? ⟨b, o + j, none⟩ = some (.string x) := by
  obtain ⟨A', c', hv, hl, hA⟩ := h.1
  injection hv with e1 e2 e3
  subst e1
  obtain ⟨b, o, e, hb, hc⟩ := hA h0
  refine ⟨b, o, e, hb, fun j x hj => ?_⟩
  have hlt : j < ss.length := (List.getElem?_eq_some_iff.1 hj).1
  rw [hc j (by omega), List.getElem?_map, hj, Option.map_some]

set_option maxHeartbeats 4000000 in
theorem all_any (o : Bool) (v : Value) (ss : List ByteArray) (w : World) (h : Ss w v ss) : Calls Tryz.prog 107 #[.bool o, v] w fun e w' => e = .returned (.bool (ss.all fun x => PN.ok o x.data.toList)) ∧ w' = w := by
  obtain ⟨A, c, rfl⟩ := h.form
  have hl := h.2.2
  obtain ⟨f, hf⟩ : ∃ f, (ss.all fun x => PN.ok o x.data.toList) = f := ⟨_, rfl⟩
  rw [hf]
  generalize hL : ss.length = L at *
  have HF := Lib.hid hf
  have HS := Lib.hid h
  have HL := Lib.hid hL
  clear hf h hL
  go_enter Tryz.func107, Tryz.ntmps107
  go_wp2
  go_loop [9] (fun i => ∃ k : Nat, k ≤ L ∧ i = .int .i64 (k : Int) ∧ ((ss.take k).all fun x => PN.ok o x.data.toList) = true) (fun i => L - (intOf i).toNat)
  case atStart => exact ⟨0, Nat.zero_le _, rfl, rfl⟩
  case round =>
    obtain ⟨k, hk, rfl, ha⟩ := hrel
    by_cases hlt : k < L
    · obtain ⟨b0, o0, rfl, _, hcell⟩ := HS.out.at (by rw [HL.out]; omega)
      obtain ⟨x, hx⟩ : ∃ x, ss[k]? = some x := ⟨_, List.getElem?_eq_getElem (by rw [HL.out]; omega)⟩
      have hg := hcell k x hx
      have ho := own_any x
      have hm := may_any x
      have hnx : ((ss.take (k + 1)).all fun x => PN.ok o x.data.toList) = PN.ok o x.data.toList := by
        rw [List.take_add_one, hx, List.all_append, ha]; simp
      have hno : PN.ok o x.data.toList = false → f = false := fun e => by
        rw [← HF.out]
        exact List.all_eq_false.2 ⟨x, List.mem_of_getElem? hx, by simp [e]⟩
      have HN := Lib.hid hnx
      have HNO := Lib.hid hno
      clear hcell hx hnx hno ha
      cases o with
      | true =>
        have e1 : PN.ok true x.data.toList = PN.own x.data.toList := rfl
        rw [e1] at HN HNO
        clear e1
        generalize PN.own x.data.toList = fb at *
        cases fb with
        | true =>
          go_wp2_with (first | (go_at_call 140; refine (ho _).mono ?_; rintro e w1 ⟨rfl, rfl⟩) | (go_at_call 141; refine (hm _).mono ?_; rintro e w1 ⟨rfl, rfl⟩))
          go_round
          case rel => exact ⟨k + 1, by omega, by go_num, HN.out⟩
          case measure => simp [intOf]; omega
        | false =>
          go_wp2_with (first | (go_at_call 140; refine (ho _).mono ?_; rintro e w1 ⟨rfl, rfl⟩) | (go_at_call 141; refine (hm _).mono ?_; rintro e w1 ⟨rfl, rfl⟩))
          go_ret
          rw [HNO.out (by trivial)]
          exact ⟨rfl, rfl⟩
      | false =>
        have e1 : PN.ok false x.data.toList = PN.may x.data.toList := rfl
        rw [e1] at HN HNO
        clear e1
        generalize PN.may x.data.toList = fb at *
        cases fb with
        | true =>
          go_wp2_with (first | (go_at_call 140; refine (ho _).mono ?_; rintro e w1 ⟨rfl, rfl⟩) | (go_at_call 141; refine (hm _).mono ?_; rintro e w1 ⟨rfl, rfl⟩))
          go_round
          case rel => exact ⟨k + 1, by omega, by go_num, HN.out⟩
          case measure => simp [intOf]; omega
        | false =>
          go_wp2_with (first | (go_at_call 140; refine (ho _).mono ?_; rintro e w1 ⟨rfl, rfl⟩) | (go_at_call 141; refine (hm _).mono ?_; rintro e w1 ⟨rfl, rfl⟩))
          go_ret
          rw [HNO.out (by trivial)]
          exact ⟨rfl, rfl⟩
    · have hkn : k = L := by omega
      subst hkn
      have hr : f = true := by
        rw [← HF.out]
        rwa [List.take_of_length_le (by rw [HL.out]; exact Nat.le_refl _)] at ha
      subst hr
      clear HF ha HS HL
      go_wp2
      go_ret
      exact ⟨rfl, rfl⟩

theorem clone_any (s : ByteArray) (w : World) (hs : s.size ≤ 1048576) : Calls Tryz.prog 92 #[.string s] w fun e w' => e = .returned (.string s) ∧ Below w.heap.size w w' := by
  have hc := Tryz.stringslite_Clone s w (by omega)
  go_enter Tryz.func92, Tryz.ntmps92
  go_wp2_with (go_at_call 133; refine hc.mono ?_; rintro e w1 ⟨rfl, hB⟩)
  go_ret
  exact ⟨rfl, hB⟩
end Go.Proofs.YtdnobplhfbgbaaaGreatDoor
namespace Go.Proofs.YtdnobplhfbgbaaaGreatDoor
open Go.RowKit Go.Joins

set_option maxHeartbeats 4000000 in
theorem copied_any (v : Value) (ss : List ByteArray) (w : World) (h : Ss w v ss) : Calls Tryz.prog 108 #[v] w fun e w' => ∃ v', e = .returned v' ∧ Ro w' w.heap.size v' ss ∧ Below w.heap.size w w' := by
  obtain ⟨i0, hi, hz0, hz1, hz2⟩ := info_parts Tryz.info9
  obtain ⟨A, c, rfl⟩ := h.form
  have hl := h.2.2
  have hsz := h.2.1
  generalize hL : ss.length = L at *
  have HS := Lib.hid h
  have HL := Lib.hid hL
  have HZ := Lib.hid hsz
  clear h hL hsz
  go_enter Tryz.func108, Tryz.ntmps108
  go_wp2
  go_loopw [3, 8] (fun o i wr => ∃ k : Nat, k ≤ L ∧ i = .int .i64 (k : Int) ∧ Ro wr w.heap.size o (ss.take k) ∧ Below w.heap.size w wr) (fun _ i _ => L - (intOf i).toNat)
  case atStart => exact ⟨0, Nat.zero_le _, rfl, World.ownsRow_nil _ _ _ _, Below.refl _ _⟩
  case round =>
    obtain ⟨k, hk, rfl, hO, hB⟩ := hrel
    by_cases hlt : k < L
    · have hS := HS.out.below hB
      obtain ⟨b0, o0, rfl, _, hcell⟩ := hS.at (by rw [HL.out]; omega)
      obtain ⟨x, hx⟩ : ∃ x, ss[k]? = some x := ⟨_, List.getElem?_eq_getElem (by rw [HL.out]; omega)⟩
      have hg := hcell k x hx
      have hcl := clone_any x wr (HZ.out x (List.mem_of_getElem? hx))
      have hnx : ss.take (k + 1) = ss.take k ++ [x] := by rw [List.take_add_one, hx]; rfl
      have hkl : (ss.take k).length = k := by rw [List.length_take, HL.out]; omega
      have HN := Lib.hid hnx
      have HKL := Lib.hid hkl
      have HO := Lib.hid hO
      clear hcell hx hnx hkl hO hS
      go_wp2_with fail
      refine hcl.mono ?_
      rintro e w1 ⟨rfl, hB1⟩
      have hb1 := hB.trans (hB1.mono hB.size)
      have hO1 := HO.out.on hB1
      have zW := hb1.size
      obtain ⟨Ao, co, rfl⟩ := own_form hO1
      have hO2 := hO1
      unfold Ro at hO2
      rw [HKL.out] at hO2 ⊢
      generalize hXS : (ss.take k).map Value.string = XS at hO2
      have HXS := Lib.hid hXS
      have hkb : k ≤ 65536 := by omega
      clear hXS hO1 HO hcl hg hB1
      go_wp2_with (at_builtin; refine wpList_append_sl rfl _ _ 35 rfl w.heap.size 9 i0 (.string { data := #[] }) 1 16 Tryz.underlying35 hi hz0 hz1 hz2 rfl (by decide) _ _ _ rfl (hO2.alloc _) _ 1 1 _ rfl (Sl.new w1 _ 9 _ 1 1 _ rfl rfl) ?q1 ?q2 ?q3 ?q4 ?_)
      case q1 => first | rfl | (intro u hu; simp at hu; subst hu; rfl)
      case q2 => unfold maxLen; omega
      case q3 => omega
      case q4 => first | omega | (simp; omega)
      intro v' w2 hown hgrow
      have hb2 : Below w.heap.size w w2 := (hb1.alloc zW _).grown hgrow (by simp; omega) (fun k hk => own_ge hO2 hk)
      have hown' : Ro w2 w.heap.size v' (ss.take (k + 1)) := by
        rw [HN.out]
        unfold Ro
        rw [List.length_append, HKL.out, List.map_append, HXS.out]
        exact hown
      have HW := Lib.hid hown'
      clear hown hown' hgrow hO2
      go_wp2
      go_roundw
      case rel => exact ⟨k + 1, by omega, by go_num, HW.out, hb2⟩
      case measure => simp [intOf]; omega
    · have hkn : k = L := by omega
      subst hkn
      rw [List.take_of_length_le (by rw [HL.out]; exact Nat.le_refl _)] at hO
      have HO := Lib.hid hO
      clear hO HS HZ HL
      go_wp2
      go_ret
      exact ⟨_, rfl, HO.out, hB⟩

theorem join_le (ss : List ByteArray) (hz : ∀ s ∈ ss, s.size ≤ 1048576) (hl : ss.length ≤ 65536) : (Lib.join (ss.map (·.data.toList)) [47]).length ≤ 140737488355328 := by
  cases ss with
  | nil => simp [Lib.join]
  | cons x r =>
    rw [List.map_cons, Lib.join_length]
    have hs : ∀ l : List ByteArray, (∀ s ∈ l, s.size ≤ 1048576) → Lib.lens (l.map (·.data.toList)) ≤ l.length * 1048576 := by
      intro l
      induction l with
      | nil => intro _; simp [Lib.lens]
      | cons y t ih =>
        intro h
        have h1 := h y (by simp)
        have h2 := ih fun s hs => h s (by simp [hs])
        rw [Lib.size_eq] at h1
        simp only [Lib.lens, List.map_cons, List.sum_cons, List.length_cons] at h2 ⊢
        omega
    have := hs (x :: r) hz
    simp only [List.map_cons, List.length_cons, List.length_map, List.length_nil] at this hl ⊢
    omega

theorem add_mk (l : List UInt8) : ({ data := #[47] } : ByteArray) ++ PN.mk l = PN.mk (47 :: l) := by
  apply ByteArray.ext
  simp [PN.mk, ByteArray.data_append]

set_option maxHeartbeats 2000000 in
theorem path_any (v : Value) (ss : List ByteArray) (w : World) (h : Ss w v ss) (hcp : ∀ A n c, v = .slice A n c → n ≤ c) : Calls Tryz.prog 111 #[v] w fun e w' => e = .returned (.string (PN.path ss)) ∧ Below w.heap.size w w' := by
  obtain ⟨A, c, rfl⟩ := h.form
  have hnc := hcp _ _ _ rfl
  have hj : Calls Tryz.prog 143 #[.slice A ss.length c, .string { data := #[47] }] w fun e w' => e = .returned (.string (PN.mk (Lib.join (ss.map (·.data.toList)) [47]))) ∧ Below w.heap.size w w' := by
    rcases Nat.eq_zero_or_pos ss.length with h0 | h0
    · have : ss = [] := List.eq_nil_of_length_eq_zero h0
      subst this
      refine (Tryz.strings_Join_none A c _ w).mono ?_
      rintro e w' ⟨rfl, rfl⟩
      exact ⟨rfl, Below.refl _ _⟩
    · obtain ⟨b, o, rfl, hb, hc⟩ := h.at h0
      exact Tryz.strings_Join b o c ss { data := #[47] } w hc hb (by have := h.2.2; omega) hnc (join_le ss h.2.1 h.2.2)
  have hp : PN.path ss = ({ data := #[47] } : ByteArray) ++ PN.mk (Lib.join (ss.map (·.data.toList)) [47]) := (add_mk _).symm
  rw [hp]
  have hJ : ¬ 9223372036854775807 < 1 + (PN.mk (Lib.join (ss.map (·.data.toList)) [47])).size := by
    have := join_le ss h.2.1 h.2.2
    rw [Lib.size_eq, PN.mk_data]; omega
  generalize PN.mk (Lib.join (ss.map (·.data.toList)) [47]) = J at *
  clear h hcp hp hnc
  go_enter Tryz.func111, Tryz.ntmps111
  go_wp2_with (go_at_call 143; refine hj.mono ?_; rintro e w1 ⟨rfl, hB⟩)
  go_ret
  exact ⟨rfl, hB⟩
end Go.Proofs.YtdnobplhfbgbaaaGreatDoor
namespace Go.Proofs.YtdnobplhfbgbaaaGreatDoor
open Go.RowKit Go.Joins

namespace PN
theorem parts_no {o : Bool} {s : ByteArray} (h : Lib.hasPrefix s.data.toList [47] = false) : is o s = false ∧ pt o s = [] := by
  have hi : is o s = false := by
    unfold is
    cases hd : s.data.toList with
    | nil => rfl
    | cons b r =>
      rw [hd] at h
      have hb : b ≠ 47 := fun e => by subst e; simp [Lib.hasPrefix, List.isPrefixOf] at h
      rw [parts, if_neg hb]; rfl
  exact ⟨hi, pt_none hi⟩
theorem parts_root {o : Bool} {s : ByteArray} (h : s.data.toList = [47]) : is o s = true ∧ pt o s = [] := by
  unfold is pt
  rw [h, parts, if_pos rfl, if_pos rfl]
  exact ⟨rfl, rfl⟩
theorem parts_way {o : Bool} {s : ByteArray} {r : List UInt8} (h : s.data.toList = 47 :: r) (hr : r ≠ []) (hl : (sp r).length ≤ 8) (ha : ((sp r).map mk).all (fun x => ok o x.data.toList) = true) : is o s = true ∧ pt o s = (sp r).map mk := by
  have ha' : (sp r).all (ok o) = true := by
    rw [List.all_map] at ha
    exact ha
  unfold is pt
  rw [h, parts, if_pos rfl, if_neg hr, if_pos ⟨hl, ha'⟩]
  exact ⟨rfl, rfl⟩
theorem parts_bad {o : Bool} {s : ByteArray} {r : List UInt8} (h : s.data.toList = 47 :: r) (hr : r ≠ []) (hl : ¬ ((sp r).length ≤ 8 ∧ ((sp r).map mk).all (fun x => ok o x.data.toList) = true)) : is o s = false ∧ pt o s = [] := by
  have hi : is o s = false := by
    unfold is
    rw [h, parts, if_pos rfl, if_neg hr, if_neg]
    · rfl
    · rw [List.all_map] at hl
      exact hl
  exact ⟨hi, pt_none hi⟩
theorem sp_size {r : List UInt8} {n : Nat} (h : r.length ≤ n) : ∀ x ∈ sp r, x.length ≤ n := by
  induction r generalizing n with
  | nil => intro x hx; simp [sp] at hx; subst hx; simp
  | cons b r ih =>
    intro x hx
    simp at h
    by_cases hb : b = 47
    · subst hb
      rw [sp_slash] at hx
      rcases List.mem_cons.1 hx with rfl | hx
      · simp
      · have := ih (n := n - 1) (by omega) x hx; omega
    · obtain ⟨p, l, hp⟩ := sp_form r
      rw [sp_other hb hp] at hx
      rcases List.mem_cons.1 hx with rfl | hx
      · have := ih (n := n - 1) (by omega) p (by rw [hp]; simp)
        simp; omega
      · have := ih (n := n - 1) (by omega) x (by rw [hp]; simp [hx]); omega
theorem pieces_size {r : List UInt8} (h : r.length ≤ 65535) : ∀ x ∈ (sp r).map mk, x.size ≤ 1048576 := by
  intro x hx
  obtain ⟨y, hy, rfl⟩ := List.mem_map.1 hx
  have := sp_size h y hy
  rw [Lib.size_eq, mk_data]; omega
end PN

theorem Ss.split (w : World) (xs : List ByteArray) (N g : Nat) (hg : g = w.heap.size) (hz : ∀ s ∈ xs, s.size ≤ 1048576) (hm : xs.length ≤ 65536) : Ss (w.alloc (.cells (Lib.cellsOf xs N) 9)) (.slice (some ⟨g, 0, none⟩) xs.length N) xs := by
  subst hg
  refine ⟨⟨_, _, rfl, by simp, fun _ => ⟨_, 0, rfl, by simp, fun j hj => ?_⟩⟩, hz, hm⟩
  rw [Nat.zero_add, cell_alloc_mark_at w _ 9 _ _ j rfl]
  have hj' : j < (xs.map Value.string).length := by simpa using hj
  rw [Lib.cellsOf, List.getElem?_toArray, List.getElem?_append_left hj']

set_option maxHeartbeats 4000000 in
theorem parts_any (s : ByteArray) (o : Bool) (w : World) (hw : Ml w) (hs : s.size ≤ 65535) : Calls Tryz.prog 62 #[.string s, .bool o] w fun e w' => ∃ v, e = .returned (.tuple #[v, .bool (PN.is o s)]) ∧ Ro w' w.heap.size v (PN.pt o s) ∧ Below w.heap.size w w' := by
  have hc := Tryz.strings_CutPrefix s { data := #[47] } w
  rw [show (({ data := #[47] } : ByteArray).data.toList) = [47] from rfl] at hc
  cases hp : Lib.hasPrefix s.data.toList [47] with
  | false =>
    obtain ⟨e1, e2⟩ := PN.parts_no (o := o) hp
    rw [e1, e2]
    rw [hp] at hc
    generalize ({ data := (Lib.trimPrefix s.data.toList [47]).toArray } : ByteArray) = R at *
    clear e1 e2 hp hw
    go_enter Tryz.func62, Tryz.ntmps62
    go_wp2_with (go_at_call 105; refine hc.mono ?_; rintro e w1 ⟨rfl, rfl⟩)
    go_ret2
    exact ⟨_, rfl, World.ownsRow_nil _ _ _ _, Below.refl _ _⟩
  | true =>
    obtain ⟨r, hr⟩ : ∃ r, s.data.toList = 47 :: r := by
      cases hd : s.data.toList with
      | nil => rw [hd] at hp; simp [Lib.hasPrefix, List.isPrefixOf] at hp
      | cons b r =>
        rw [hd] at hp
        simp [Lib.hasPrefix, List.isPrefixOf] at hp
        subst hp
        exact ⟨r, rfl⟩
    have ht : Lib.trimPrefix s.data.toList [47] = r := by
      unfold Lib.trimPrefix
      rw [hp, hr]; rfl
    have hrl : r.length ≤ 65534 := by
      rw [Lib.size_eq, hr] at hs; simp at hs; exact hs
    rw [hp, ht] at hc
    by_cases hn : r = []
    · obtain ⟨e1, e2⟩ := PN.parts_root (o := o) (s := s) (by rw [hr, hn])
      rw [e1, e2]
      subst hn
      rw [show ({ data := ([] : List UInt8).toArray } : ByteArray) = { data := #[] } from rfl] at hc
      clear e1 e2 hp hr ht hw
      go_enter Tryz.func62, Tryz.ntmps62
      go_wp2_with (go_at_call 105; refine hc.mono ?_; rintro e w1 ⟨rfl, rfl⟩)
      go_ret2
      exact ⟨_, rfl, World.ownsRow_nil _ _ _ _, Below.refl _ _⟩
    · obtain ⟨R, hR⟩ : ∃ R, PN.mk r = R := ⟨_, rfl⟩
      have hRd : R.data.toList = r := by rw [← hR]; rfl
      have hRs : R.size ≤ 65534 := by rw [Lib.size_eq, hRd]; exact hrl
      rw [show ({ data := r.toArray } : ByteArray) = R from hR] at hc
      have hne : R.toList.isEmpty = false := by rw [Lib.toList_data, hRd]; cases r with | nil => exact absurd rfl hn | cons _ _ => rfl
      obtain ⟨m, hm⟩ := hw
      have hsp := Tryz.strings_SplitN R { data := #[47] } 9 m w (by omega) hm (by decide) (by decide) (by decide)
      rw [show ((9 : Nat) : Int) = 9 from rfl] at hsp
      by_cases hmany : 8 < (PN.sp r).length
      · have hlb := PN.nine_many R (by rw [hRd]; exact hmany)
        obtain ⟨e1, e2⟩ := PN.parts_bad (o := o) hr hn (fun e => by omega)
        rw [e1, e2]
        generalize Lib.cellsOf (Lib.splitB { data := #[47] } 0 (min 9 (R.size + 1) - 1) R) (min 9 (R.size + 1)) = C at *
        generalize (Lib.splitB { data := #[47] } 0 (min 9 (R.size + 1) - 1) R).length = L at *
        generalize min 9 (R.size + 1) = M at *
        have h8 : (8 : Int) < (L : Int) := by omega
        clear e1 e2 hp hr ht hm hR hRd hmany hlb
        go_enter Tryz.func62, Tryz.ntmps62
        go_wp2_with (first | (go_at_call 105; refine hc.mono ?_; rintro e w1 ⟨rfl, hw1⟩; rw [hw1]) | (go_at_call 106; refine hsp.mono ?_; rintro e w1 ⟨rfl, hw2⟩; rw [hw2]))
        go_ret2
        exact ⟨_, rfl, World.ownsRow_nil _ _ _ _, al _ _⟩
      · have hfew : (PN.sp r).length ≤ 8 := by omega
        have hlb := PN.nine_few R (by rw [hRd]; exact hfew)
        rw [hRd] at hlb
        rw [hlb] at hsp
        generalize min 9 (R.size + 1) = M at *
        have hz := PN.pieces_size (r := r) (by omega)
        have hxl : ((PN.sp r).map PN.mk).length ≤ 8 := by simpa using hfew
        have hyes := fun ha => PN.parts_way (o := o) hr hn hfew ha
        have hbad := fun (ha : ((PN.sp r).map PN.mk).all (fun x => PN.ok o x.data.toList) = false) => PN.parts_bad (o := o) (s := s) hr hn (fun e => by rw [ha] at e; exact absurd e.2 (by decide))
        generalize (PN.sp r).map PN.mk = xs at *
        have hS := Ss.split w xs M _ rfl hz (by omega)
        have hal := all_any o _ xs _ hS
        have hcp := copied_any _ xs _ hS
        have hB := al w (.cells (Lib.cellsOf xs M) 9)
        generalize hL : xs.length = L at *
        generalize w.alloc (.cells (Lib.cellsOf xs M) 9) = w2 at *
        have h8 : ¬ (8 : Int) < (L : Int) := by omega
        clear hxl
        cases ha : xs.all (fun x => PN.ok o x.data.toList) with
        | true =>
          obtain ⟨e1, e2⟩ := hyes ha
          rw [e1, e2]
          rw [ha] at hal
          clear e1 e2 hyes hbad ha hp hr ht hm hR hRd hlb hS hz hL
          go_enter Tryz.func62, Tryz.ntmps62
          go_wp2_with (first | (go_at_call 105; refine hc.mono ?_; rintro e w1 ⟨rfl, hw1⟩; rw [hw1]) | (go_at_call 106; refine hsp.mono ?_; rintro e w1 ⟨rfl, hw2⟩; rw [hw2]) | (go_at_call 107; refine hal.mono ?_; rintro e w1 ⟨rfl, hw3⟩; rw [hw3]) | (go_at_call 108; refine hcp.mono ?_; rintro e w1 ⟨v', rfl, hO, hB1⟩))
          go_ret2
          refine ⟨_, rfl, ?_, hB.trans (hB1.mono hB.size)⟩
          exact ⟨hO.1, hO.2.imp id fun ⟨g, cap, cur, a1, a2, a3⟩ => ⟨g, cap, cur, a1, Nat.le_trans hB.size a2, a3⟩⟩
        | false =>
          obtain ⟨e1, e2⟩ := hbad ha
          rw [e1, e2]
          rw [ha] at hal
          clear e1 e2 hyes hbad ha hp hr ht hm hR hRd hlb hS hz hL hcp
          go_enter Tryz.func62, Tryz.ntmps62
          go_wp2_with (first | (go_at_call 105; refine hc.mono ?_; rintro e w1 ⟨rfl, hw1⟩; rw [hw1]) | (go_at_call 106; refine hsp.mono ?_; rintro e w1 ⟨rfl, hw2⟩; rw [hw2]) | (go_at_call 107; refine hal.mono ?_; rintro e w1 ⟨rfl, hw3⟩; rw [hw3]))
          go_ret2
          exact ⟨_, rfl, World.ownsRow_nil _ _ _ _, hB⟩
end Go.Proofs.YtdnobplhfbgbaaaGreatDoor
namespace Go.Proofs.YtdnobplhfbgbaaaGreatDoor
open Go.RowKit Go.Joins


theorem Ro.form {w : World} {base : Nat} {v : Value} {ss : List ByteArray} (h : Ro w base v ss) : ∃ A c, v = .slice A ss.length c ∧ ss.length ≤ c := own_cap h
theorem Ro.small {w : World} {base : Nat} {v : Value} {o : Bool} {s : ByteArray} (h : Ro w base v (PN.pt o s)) : Ss w v (PN.pt o s) :=
  h.row (fun x hx => by have := (PN.pt_le o s).2 x hx; omega) (by have := (PN.pt_le o s).1; omega)
theorem Ss.alloc {w : World} {v : Value} {ss : List ByteArray} (h : Ss w v ss) (o : Obj) : Ss (w.alloc o) v ss := h.below (al _ _)
theorem Ml.alloc {w : World} (h : Ml w) (o : Obj) : Ml (w.alloc o) := h.below (al _ _)

theorem seq_dec (a b : ByteArray) : (a.toList == b.data.toList) = decide (a = b) := by
  rw [← ByteArray.toList_eq b]
  by_cases h : a = b
  · subst h; rw [seq_yes, decide_eq_true rfl]
  · rw [seq_no h, decide_eq_false h]
theorem Ss.cellAt {w : World} {g n c : Nat} {ss : List ByteArray} (h : Ss w (.slice (some ⟨g, 0, none⟩) n c) ss) {j : Nat} {x : ByteArray} (hj : ss[j]? = some x) : w.cell? ⟨g, j, none⟩ = some (.string x) := by
  obtain ⟨b, o, e, _, hc⟩ := h.at (by have := (List.getElem?_eq_some_iff.1 hj).1; omega)
  injection e with e
  injection e with e1 e2 e3
  subst e1 e2
  have := hc j x hj
  rwa [Nat.zero_add] at this

theorem drewN_below {B : Nat} {w0 w : World} (h : Below B w0 w) : ∀ k, Below B w0 (World.drewN w k)
  | 0 => h
  | k + 1 => (drewN_below h k).drew

theorem Tx.at {w : World} {A : Option Addr} {n c : Nat} {bs : List Nat} (h : Tx w (.slice A n c) bs) (h0 : 0 < bs.length) : ∃ b o, A = some ⟨b, o, none⟩ ∧ b < w.heap.size ∧ ∀ (j x : Nat), bs[j]? = some x → w.cell? ⟨b, o + j, none⟩ = some (.int .u8 (x : Int)) := by
  obtain ⟨A', c', hv, hl, hA⟩ := h.1
  injection hv with e1 e2 e3
  subst e1
  obtain ⟨b, o, e, hb, hc⟩ := hA h0
  refine ⟨b, o, e, hb, fun j x hj => ?_⟩
  have hlt : j < bs.length := (List.getElem?_eq_some_iff.1 hj).1
  rw [hc j (by omega), List.getElem?_map, hj, Option.map_some]
  rfl
end Go.Proofs.YtdnobplhfbgbaaaGreatDoor
