/-
  Plain facts on trees: where each way has names of one letter, no folder gets a longer one. No program in this text.
  Plain facts on trees: a node made under a name that no folder bears. No program in this text.
-/
import Derived.Test.YtdnobplhfbgbaaaGreatDoorMTa
import Derived.Test.YtdnobplhfbgbaaaGreatDoorMXb
namespace Go.Proofs.YtdnobplhfbgbaaaGreatDoor
open Go

namespace PT
/-- All names have one letter. -/
def One (t : List N) : Prop := ∀ n ∈ t, ∀ e ∈ ents n, e.1.size = 1
def Ones (p : Option (List ByteArray)) : Prop := ∀ l, p = some l → ∀ x ∈ l, x.size = 1
theorem one_set {t : List N} (h : One t) {k : Nat} {n : N} (hn : ∀ e ∈ ents n, e.1.size = 1) : One (t.set k n) := by
  intro m hm
  rcases List.mem_or_eq_of_mem_set hm with h1 | rfl
  · exact h m h1
  · exact hn
theorem put_one {t x : List N} (h : One t) {d : Nat} {e : E} (he : e.1.size = 1) (hp : put t d e = some x) : One x := by
  unfold put at hp
  split at hp
  · cases hp
  · rename_i n hn
    split at hp
    · injection hp with hp
      subst hp
      refine one_set h fun y hy => ?_
      rcases rwth_mem (ents_with _ _ y hy) with rfl | hy
      · exact he
      · exact h n (List.mem_of_getElem? hn) y hy
    · cases hp
theorem take_one {t : List N} (h : One t) (d : Nat) (s : ByteArray) : One (take t d s) := by
  unfold take
  split
  · exact h
  · rename_i n hn
    exact one_set h fun y hy => h n (List.mem_of_getElem? hn) y (rless_mem (ents_with _ _ y hy))
theorem last_one {l : List ByteArray} (h : ∀ x ∈ l, x.size = 1) (hne : l ≠ []) : (last l).size = 1 := by
  apply h
  rw [last, List.getLast?_eq_some_getLast hne]
  exact List.getLast_mem hne
theorem make_one {t : List N} (h : One t) {p : Option (List ByteArray)} (hp : Ones p) (kind mode ino : Int) : One (make t p kind mode ino).1 := by
  unfold make
  split
  · exact h
  · rename_i l
    split
    · exact h
    · unfold make2
      split
      · exact h
      · rename_i hne
        split
        · exact h
        split
        · exact h
        split
        · exact h
        split
        · exact h
        · unfold make3
          split
          · exact h
          · rename_i x hx
            refine one_set (put_one h ?_ hx) fun e he => ?_
            · exact last_one (hp l rfl) hne
            · rw [ents_empty] at he
              cases he
theorem link_one {t : List N} (h : One t) (p : Option (List ByteArray)) {q : Option (List ByteArray)} (hq : Ones q) : One (link t p q).1 := by
  unfold link
  split
  · rename_i f l
    unfold link2
    split
    · exact h
    split
    · exact h
    split
    · exact h
    rename_i hne
    split
    · exact h
    split
    · exact h
    unfold link3
    split
    · exact h
    · rename_i x hx
      exact put_one h (last_one (hq l rfl) hne) hx
  · exact h
theorem drop_one {t : List N} (h : One t) (p : Option (List ByteArray)) : One (drop t p).1 := by
  unfold drop
  split
  · exact h
  · unfold drop2
    split
    · exact h
    split
    · exact h
    split
    · exact h
    split
    · exact one_set (take_one h _ _) fun e he => by rw [zero, ents_empty] at he; cases he
    · exact take_one h _ _
theorem move_one {t : List N} (h : One t) (p : Option (List ByteArray)) {q : Option (List ByteArray)} (hq : Ones q) : One (move t p q).1 := by
  unfold move
  split
  · rename_i f l
    unfold move2
    split
    · exact h
    split
    · exact h
    split
    · exact h
    rename_i hne
    split
    · exact h
    split
    · exact h
    split
    · exact h
    split
    · exact h
    unfold link3
    split
    · exact h
    · rename_i x hx
      exact put_one (take_one h _ _) (last_one (hq l rfl) hne) hx
  · exact h
theorem write_one {t : List N} (h : One t) (p : Option (List ByteArray)) (off : Int) (x : ByteArray) : One (write t p off x).1 := by
  unfold write
  split
  · exact h
  · split
    · exact h
    split
    · exact h
    rename_i hk
    split
    · exact h
    split
    · exact h
    split
    · exact h
    split
    · exact h
    · rename_i n hn
      rw [kindAt_at hn] at hk
      exact one_set h fun e he => by rw [ents, if_neg hk] at he; cases he
theorem cut_one {t : List N} (h : One t) (p : Option (List ByteArray)) (size : Int) : One (cut t p size).1 := by
  unfold cut
  split
  · exact h
  · split
    · exact h
    split
    · exact h
    rename_i hk
    split
    · exact h
    split
    · exact h
    split
    · exact h
    · rename_i n hn
      rw [kindAt_at hn] at hk
      exact one_set h fun e he => by rw [ents, if_neg hk] at he; cases he
theorem mode_one {t : List N} (h : One t) (p : Option (List ByteArray)) (m : Int) : One (mode t p m).1 := by
  unfold mode
  split
  · exact h
  · split
    · exact h
    split
    · exact h
    split
    · exact h
    · rename_i n hn
      exact one_set h (h n (List.mem_of_getElem? hn))
theorem new_one : One new := by
  intro n hn e he
  simp only [new, List.mem_cons, List.mem_replicate] at hn
  rcases hn with rfl | ⟨_, rfl⟩
  · rw [ents_empty] at he; cases he
  · rw [zero, ents_empty] at he; cases he
/-- A way that is short, and whose names, where there are any, have one letter. -/
def pq (s : ByteArray) : Bool := decide (s.size ≤ 8) && (match pp false s with | none => true | some l => l.all fun x => decide (x.size = 1))
structure Pq (s : ByteArray) : Prop where
  is : pq s = true
theorem Pq.le {s : ByteArray} (h : Pq s) : s.size ≤ 8 := by
  have h := h.is
  unfold pq at h
  rw [Bool.and_eq_true, decide_eq_true_iff] at h
  exact h.1
theorem Pq.ones {s : ByteArray} (h : Pq s) : Ones (pp false s) := by
  intro l hl x hx
  have h := h.is
  unfold pq at h
  rw [hl, Bool.and_eq_true] at h
  exact of_decide_eq_true (List.all_eq_true.1 h.2 x hx)
theorem Pq.nil : Pq { data := #[] } := ⟨by decide +kernel⟩
/-- A good tree of such names. -/
structure Lone (t : List N) : Prop where
  good : Good t
  one : One t
theorem new_lone : Lone new := ⟨new_good, new_one⟩
end PT
end Go.Proofs.YtdnobplhfbgbaaaGreatDoor
namespace Go.Proofs.YtdnobplhfbgbaaaGreatDoor
open Go

namespace PT
/-- No folder has a name that is not one letter. -/
theorem One.has {t : List N} (h : One t) {k : Nat} {s : ByteArray} (hs : s.size ≠ 1) : PD.has (names t k) s = false := by
  unfold PD.has
  rw [List.any_eq_false]
  intro e he
  obtain ⟨m, hm, he2⟩ := names_some he
  have := h m (List.mem_of_getElem? hm) e (he2 ▸ he)
  simp only [decide_eq_true_eq]
  intro e2
  rw [e2] at this
  exact hs this
theorem Fine.rootkind {t : List N} (g : Fine t) : kindAt t 0 = 2 := by
  obtain ⟨r, hr, hr2⟩ := g.root
  rw [kindAt_at hr, hr2]
/-- What becomes of a name that is new, at the root. -/
theorem make_one_new {t : List N} (g : Lone t) {s : ByteArray} (hs : s.size ≠ 1) {kind mode ino : Int} (hb : badMake kind mode ino = false) :
    make t (some [s]) kind mode ino = (t, 8) ∨ (0 < ino ∧ kindAt t (px ino) ≠ 0 ∧ make t (some [s]) kind mode ino = (t, 3)) ∨ ∃ (j : Nat) (x : List N), j < 9 ∧ 0 < j ∧ numOf t ino = (j : Int) + 1 ∧ kindAt t j = 0 ∧ make t (some [s]) kind mode ino = (x, 0) ∧ x.length = 9 ∧ x[j]? = some ⟨kind, mode, { data := #[] }⟩ ∧ find x (some [s]) = ((j : Int) + 1, 0) := by
  have hbn := hb
  unfold badMake at hbn
  simp only [Bool.or_eq_false_iff, Bool.not_eq_false', Bool.or_eq_true, decide_eq_true_eq, decide_eq_false_iff_not] at hbn
  obtain ⟨hk, hm1, hm2, hi1, hi2⟩ := hbn
  have hg := g.good.fine
  have hr := hg.rootkind
  obtain ⟨r, hr0, hr2⟩ := hg.root
  have hpl : place t [s] = (((0 + 1 : Nat) : Int), 0) := by
    unfold place
    simp only [List.dropLast_singleton]
    rw [show walk t 0 [] = (((0 + 1 : Nat) : Int), 0) from rfl]
    simp only [px_succ, hr, if_true]
  have hla : last [s] = s := rfl
  have hfine := make_fine hg (some [s]) kind mode ino
  have hmk : make t (some [s]) kind mode ino = make2 t [s] kind mode ino := by
    show (if badMake kind mode ino = true then _ else _) = _
    rw [hb]
    rfl
  rw [hmk] at hfine ⊢
  unfold make2 at hfine ⊢
  rw [if_neg (by simp), hpl, if_neg (by simp), hla] at hfine ⊢
  simp only [px_succ] at hfine ⊢
  rw [if_neg (by rw [g.one.has hs]; simp)] at hfine ⊢
  by_cases h3 : 0 < ino ∧ kindAt t (px ino) ≠ 0
  · rw [if_pos h3]
    exact .inr (.inl ⟨h3.1, h3.2, rfl⟩)
  rw [if_neg h3] at hfine ⊢
  by_cases h0 : numOf t ino = 0
  · rw [if_pos h0]
    exact .inl rfl
  rw [if_neg h0] at hfine ⊢
  cases hp : put t 0 (s, numOf t ino) with
  | none => exact .inl rfl
  | some x =>
    right; right
    rw [hp] at hfine
    have hx0 : Fine (x.set (px (numOf t ino)) ⟨kind, mode, { data := #[] }⟩) := hfine
    obtain ⟨j, hj, hj9, hjk⟩ : ∃ j : Nat, numOf t ino = (j : Int) + 1 ∧ j < 9 ∧ kindAt t j = 0 := by
      unfold numOf at h0 ⊢
      split
      · rename_i hz
        rw [if_pos hz] at h0
        obtain ⟨j, m, h1, h2, h4, h5⟩ := free_yes h0
        exact ⟨j, by rw [h1]; omega, by rw [← hg.len]; exact h5, by rw [kindAt_at h2, h4]⟩
      · rename_i hz
        refine ⟨px ino, by unfold px; omega, by unfold px; omega, ?_⟩
        rcases Classical.em (kindAt t (px ino) = 0) with h6 | h6
        · exact h6
        · exact absurd ⟨by omega, h6⟩ h3
    have hpj : px (numOf t ino) = j := by rw [hj]; unfold px; omega
    have hj0 : 0 < j := by
      rcases Nat.eq_zero_or_pos j with h6 | h6
      · rw [h6, hr] at hjk; cases hjk
      · exact h6
    have hno : PD.has (ents r) s = false := by
      have := g.one.has hs (k := 0)
      rw [names_at hr0] at this
      exact this
    obtain ⟨n', hx, hm⟩ := put_some (e := (s, numOf t ino)) hg hr0 hr2 hno hp
    have hnew : ((s, numOf t ino) : E) ∈ names x 0 := by rw [hx]; exact (names_more hr0 hm 0 _).2 (.inl ⟨rfl, rfl⟩)
    rw [hpj] at hx0
    have hlx : x.length = 9 := by rw [hx, List.length_set]; exact hg.len
    refine ⟨j, _, hj9, hj0, hj, hjk, rfl, ?_, ?_, ?_⟩
    · rw [hpj, List.length_set]; exact hlx
    · rw [hpj, List.getElem?_set_self (by omega)]
    · rw [hpj]
      show walk _ 0 [s] = _
      have h7 : ((s, numOf t ino) : E) ∈ names (x.set j ⟨kind, mode, { data := #[] }⟩) 0 := by
        have h8 : (x.set j ⟨kind, mode, { data := #[] }⟩)[0]? = x[0]? := List.getElem?_set_ne (by omega)
        unfold names at hnew ⊢
        rw [h8]
        exact hnew
      have := walk_one h7
      simp only at this
      rw [this]
      have hix : ix ((s, numOf t ino) : E) = j := by unfold ix; simp only [hj]; omega
      rw [hix]
      simp
end PT
end Go.Proofs.YtdnobplhfbgbaaaGreatDoor
