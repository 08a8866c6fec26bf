/-
  Plain facts on trees, for what stands on folders: which trees are good; that it stays so where a node is another one. No program in this text.
  Plain facts on trees, on: an entry taken out of a folder, put into one; what is made, linked, dropped, moved leaves a tree that is good. No program in this text.
  Plain facts on trees, on: nine sweeps over nine nodes find all that is reached. No program in this text.
  Plain facts on trees, on: a folder has one folder that it lies in, none lies in itself; ways are at most eight names long; lists that rise and have the same are the same. No program in this text.
  Plain facts on trees, on: the new tree; which trees may be, as the document's nine sweeps and its counts tell it. No program in this text.
  Plain facts on trees, on: ways, name by name; each way finds its node; a folder has one way. No program in this text.
  Plain facts on trees, on: a folder's body with one name more, with one less. No program in this text.
  Plain facts on trees, on: what the document's changes make of a good tree. No program in this text.
  Plain facts on trees, on: all ways to a node, by going down; lists that rise and have the same are the same. No program in this text.
  Plain facts on trees, on: a node has as many ways as it has names. No program in this text.
  Plain facts on rows of texts: one put behind those that are not greater; a row sorted so rises. No program in this text.
  The plain words for memory, ahead of stage 8: a row of nodes (three cells each; nt: the node's type), one of one's own, a node of it turned.
  Plain facts on trees, on: the document's changes, whole: make, link, drop, move, write, cut, mode; what is good stays good behind each. No program in this text.
  Plain facts on trees, on: what is good stays good behind each of the document's changes. No program in this text.
  Plain facts on trees, on: where no way has names of one's own, no folder gets any. No program in this text.
-/
import Derived.Test.YtdnobplhfbgbaaaGreatDoorMQf
import Derived.Test.YtdnobplhfbgbaaaGreatDoorMQa
namespace Go.Proofs.YtdnobplhfbgbaaaGreatDoor
open Go

namespace PT
/-- A node: its kind, its mode, its body. -/
structure N where
  kind : Int
  mode : Int
  body : ByteArray
deriving DecidableEq
def zero : N := ⟨0, 0, { data := #[] }⟩
/-- The entries of a node. -/
def ents (n : N) : List E := if n.kind = 2 then PD.tl n.body else []
/-- Where an entry points to, from nought on. -/
def ix (e : E) : Nat := (e.2 - 1).toNat
def names (t : List N) (k : Nat) : List E := match t[k]? with
  | some n => ents n
  | none => []
def cnt (l : List E) (k : Nat) : Nat := l.countP fun e => ix e == k
/-- How many entries point to node k. -/
def named (t : List N) (k : Nat) : Nat := (t.map fun n => cnt (ents n) k).sum
inductive Reach (t : List N) : Nat → Prop
  | root : Reach t 0
  | step {k : Nat} {e : E} : Reach t k → e ∈ names t k → Reach t (ix e)
def shape (n : N) : Prop := n = zero ∨ ((n.kind = 1 ∨ n.kind = 2 ∧ PD.tk n.body = true) ∧ 0 ≤ n.mode ∧ n.mode ≤ 255 ∧ n.body.size ≤ 120)
structure Fine (t : List N) : Prop where
  len : t.length = 9
  root : ∃ n, t[0]? = some n ∧ n.kind = 2
  shape : ∀ (k : Nat) n, t[k]? = some n → shape n
  there : ∀ (k : Nat) e, e ∈ names t k → ∃ n, t[ix e]? = some n ∧ n.kind ≠ 0
  noroot : named t 0 = 0
  one : ∀ (k : Nat) n, 0 < k → t[k]? = some n → n.kind = 2 → named t k = 1
  reach : ∀ (k : Nat) n, t[k]? = some n → n.kind ≠ 0 → Reach t k

theorem names_at {t : List N} {k : Nat} {n : N} (h : t[k]? = some n) : names t k = ents n := by rw [names, h]
theorem names_set_same {t : List N} {k : Nat} {n n' : N} (h : t[k]? = some n) : names (t.set k n') k = ents n' := by
  have hlt := (List.getElem?_eq_some_iff.1 h).1
  rw [names, List.getElem?_set_self hlt]
theorem names_set_ne {t : List N} {k j : Nat} {n' : N} (h : k ≠ j) : names (t.set k n') j = names t j := by
  rw [names, names, List.getElem?_set_ne h]
theorem sum_set : ∀ {l : List Nat} {k x y : Nat}, l[k]? = some x → (l.set k y).sum + x = l.sum + y
  | [], _, _, _, h => by simp at h
  | a :: r, 0, x, y, h => by
    simp at h
    subst h
    simp; omega
  | a :: r, k + 1, x, y, h => by
    have := sum_set (l := r) (k := k) (y := y) (by simpa using h)
    simp; omega
theorem named_set {t : List N} {k j : Nat} {n n' : N} (h : t[k]? = some n) : named (t.set k n') j + cnt (ents n) j = named t j + cnt (ents n') j := by
  have hm : (t.map fun n => cnt (ents n) j)[k]? = some (cnt (ents n) j) := by rw [List.getElem?_map, h]; rfl
  rw [named, named, List.map_set]
  exact sum_set hm
theorem le_sum : ∀ {l : List Nat} {k x : Nat}, l[k]? = some x → x ≤ l.sum
  | [], _, _, h => by simp at h
  | a :: r, 0, x, h => by
    simp at h
    subst h
    simp
  | a :: r, k + 1, x, h => by
    have := le_sum (l := r) (k := k) (by simpa using h)
    simp; omega
theorem cnt_pos {l : List E} {e : E} (h : e ∈ l) : 0 < cnt l (ix e) := by
  rw [cnt, List.countP_pos_iff]
  exact ⟨e, h, by simp⟩
theorem cnt_le {t : List N} {k j : Nat} : cnt (names t k) j ≤ named t j := by
  unfold names
  cases h : t[k]? with
  | none => simp [cnt]
  | some n =>
    have hm : (t.map fun n => cnt (ents n) j)[k]? = some (cnt (ents n) j) := by rw [List.getElem?_map, h]; rfl
    exact le_sum hm
theorem named_pos {t : List N} {k : Nat} {e : E} (h : e ∈ names t k) : 0 < named t (ix e) := Nat.lt_of_lt_of_le (cnt_pos h) cnt_le
/-- No entry points to the root. -/
theorem Fine.ix_pos {t : List N} (g : Fine t) {k : Nat} {e : E} (h : e ∈ names t k) : 0 < ix e := by
  rcases Nat.eq_zero_or_pos (ix e) with h0 | h0
  · have := named_pos h
    rw [h0, g.noroot] at this
    exact absurd this (by decide)
  · exact h0
theorem Fine.lt {t : List N} (g : Fine t) {k : Nat} {e : E} (h : e ∈ names t k) : ix e < 9 := by
  obtain ⟨n, hn, _⟩ := g.there k e h
  have := (List.getElem?_eq_some_iff.1 hn).1
  rw [g.len] at this
  exact this
theorem reach_mono {t t' : List N} (h : ∀ k e, e ∈ names t k → e ∈ names t' k) {k : Nat} (r : Reach t k) : Reach t' k := by
  induction r with
  | root => exact .root
  | step _ he ih => exact .step ih (h _ _ he)

/-- A node that is of the same kind, with the same entries: Mode, Write, Cut. -/
theorem Fine.same {t : List N} (g : Fine t) {k : Nat} {n n' : N} (h : t[k]? = some n) (hk : n'.kind = n.kind) (he : ents n' = ents n) (hs : PT.shape n') : Fine (t.set k n') := by
  have hlt := (List.getElem?_eq_some_iff.1 h).1
  have hnm : ∀ j, names (t.set k n') j = names t j := by
    intro j
    rcases Classical.em (k = j) with rfl | hne
    · rw [names_set_same h, names_at h, he]
    · exact names_set_ne hne
  have hnd : ∀ j, named (t.set k n') j = named t j := by
    intro j
    have := named_set (j := j) (n' := n') h
    rw [he] at this
    omega
  have hat : ∀ (j : Nat) (m : N), (t.set k n')[j]? = some m → ∃ m0 : N, t[j]? = some m0 ∧ m0.kind = m.kind := by
    intro j m hm
    rcases Classical.em (k = j) with rfl | hne
    · rw [List.getElem?_set_self hlt] at hm
      injection hm with hm
      subst hm
      exact ⟨n, h, hk.symm⟩
    · rw [List.getElem?_set_ne hne] at hm
      exact ⟨m, hm, rfl⟩
  refine ⟨by rw [List.length_set]; exact g.len, ?_, ?_, ?_, by rw [hnd]; exact g.noroot, ?_, ?_⟩
  · obtain ⟨r, hr, hr2⟩ := g.root
    rcases Classical.em (k = 0) with rfl | hne
    · rw [hr] at h
      injection h with h
      subst h
      exact ⟨n', List.getElem?_set_self hlt, hk.trans hr2⟩
    · exact ⟨r, by rw [List.getElem?_set_ne hne]; exact hr, hr2⟩
  · intro j m hm
    rcases Classical.em (k = j) with rfl | hne
    · rw [List.getElem?_set_self hlt] at hm
      injection hm with hm
      subst hm
      exact hs
    · rw [List.getElem?_set_ne hne] at hm
      exact g.shape j m hm
  · intro j e hj
    rw [hnm] at hj
    obtain ⟨m, hm, hm2⟩ := g.there j e hj
    rcases Classical.em (k = ix e) with hke | hne
    · rw [← hke, h] at hm
      injection hm with hm
      subst hm
      exact ⟨n', by rw [← hke]; exact List.getElem?_set_self hlt, by rw [hk]; exact hm2⟩
    · exact ⟨m, by rw [List.getElem?_set_ne hne]; exact hm, hm2⟩
  · intro j m hj hm hm2
    obtain ⟨m0, h0, h1⟩ := hat j m hm
    rw [hnd]
    exact g.one j m0 hj h0 (h1.trans hm2)
  · intro j m hm hm2
    obtain ⟨m0, h0, h1⟩ := hat j m hm
    exact reach_mono (fun k e he => by rw [hnm]; exact he) (g.reach j m0 h0 (by rw [h1]; exact hm2))
end PT
end Go.Proofs.YtdnobplhfbgbaaaGreatDoor
namespace Go.Proofs.YtdnobplhfbgbaaaGreatDoor
open Go

namespace PT
/-- Reached from the root, or from node a. -/
inductive From (t : List N) (a : Nat) : Nat → Prop
  | root : From t a 0
  | start : From t a a
  | step {k : Nat} {e : E} : From t a k → e ∈ names t k → From t a (ix e)
/-- Node k lies in node a, or is it. -/
inductive In (t : List N) (a : Nat) : Nat → Prop
  | self : In t a a
  | step {k : Nat} {e : E} : In t a k → e ∈ names t k → In t a (ix e)
/-- A good tree, but for the names of node a. -/
structure Half (t : List N) (a : Nat) : Prop where
  len : t.length = 9
  root : ∃ n, t[0]? = some n ∧ n.kind = 2
  shape : ∀ (k : Nat) n, t[k]? = some n → PT.shape n
  there : ∀ (k : Nat) e, e ∈ names t k → ∃ n, t[ix e]? = some n ∧ n.kind ≠ 0
  noroot : named t 0 = 0
  one : ∀ (k : Nat) n, 0 < k → k ≠ a → t[k]? = some n → n.kind = 2 → named t k = 1
  reach : ∀ (k : Nat) n, t[k]? = some n → n.kind ≠ 0 → From t a k

/-- Folder n with one entry more, e. -/
structure More (n n' : N) (e : E) : Prop where
  kind : n.kind = 2
  kind' : n'.kind = 2
  shape : PT.shape n'
  cnt : ∀ j, cnt (ents n') j = PT.cnt (ents n) j + if ix e = j then 1 else 0
  mem : ∀ x, x ∈ ents n' ↔ x = e ∨ x ∈ ents n

/-- The fields that a folder of other entries keeps. -/
theorem set_root {t : List N} {d : Nat} {n n' : N} (h : t[d]? = some n) (hk : n'.kind = 2) (g : ∃ n, t[0]? = some n ∧ n.kind = 2) : ∃ m, (t.set d n')[0]? = some m ∧ m.kind = 2 := by
  have hlt := (List.getElem?_eq_some_iff.1 h).1
  obtain ⟨r, hr, hr2⟩ := g
  rcases Classical.em (d = 0) with rfl | hne
  · exact ⟨n', List.getElem?_set_self hlt, hk⟩
  · exact ⟨r, by rw [List.getElem?_set_ne hne]; exact hr, hr2⟩
theorem set_at {t : List N} {d j : Nat} {n n' m : N} (h : t[d]? = some n) (hk : n'.kind = n.kind) (hm : (t.set d n')[j]? = some m) : ∃ m0 : N, t[j]? = some m0 ∧ m0.kind = m.kind := by
  have hlt := (List.getElem?_eq_some_iff.1 h).1
  rcases Classical.em (d = j) with rfl | hne
  · rw [List.getElem?_set_self hlt] at hm
    injection hm with hm
    subst hm
    exact ⟨n, h, hk.symm⟩
  · rw [List.getElem?_set_ne hne] at hm
    exact ⟨m, hm, rfl⟩
theorem set_to {t : List N} {d j : Nat} {n n' m : N} (h : t[d]? = some n) (hk : n'.kind = n.kind) (hm : t[j]? = some m) : ∃ m1 : N, (t.set d n')[j]? = some m1 ∧ m1.kind = m.kind := by
  have hlt := (List.getElem?_eq_some_iff.1 h).1
  rcases Classical.em (d = j) with rfl | hne
  · rw [h] at hm
    injection hm with hm
    subst hm
    exact ⟨n', List.getElem?_set_self hlt, hk⟩
  · exact ⟨m, by rw [List.getElem?_set_ne hne]; exact hm, rfl⟩
theorem set_shape {t : List N} {d : Nat} {n n' : N} (h : t[d]? = some n) (hs : PT.shape n') (g : ∀ (k : Nat) n, t[k]? = some n → PT.shape n) : ∀ (k : Nat) m, (t.set d n')[k]? = some m → PT.shape m := by
  have hlt := (List.getElem?_eq_some_iff.1 h).1
  intro j m hm
  rcases Classical.em (d = j) with rfl | hne
  · rw [List.getElem?_set_self hlt] at hm
    injection hm with hm
    subst hm
    exact hs
  · rw [List.getElem?_set_ne hne] at hm
    exact g j m hm

/-- An entry put into a folder that is reached: the tree is good. -/
theorem Half.add {t : List N} {d : Nat} {n n' nk : N} {e : E} (g : Half t (ix e)) (h : t[d]? = some n) (m : More n n' e) (hr : Reach t d) (hk : t[ix e]? = some nk) (hk0 : nk.kind ≠ 0) (hpos : 0 < ix e) (hone : nk.kind = 2 → named t (ix e) = 0) : Fine (t.set d n') := by
  have hkk : n'.kind = n.kind := m.kind'.trans m.kind.symm
  have hmem : ∀ j x, x ∈ names t j → x ∈ names (t.set d n') j := by
    intro j x hx
    rcases Classical.em (d = j) with rfl | hne
    · rw [names_set_same h]
      rw [names_at h] at hx
      exact (m.mem x).2 (.inr hx)
    · rw [names_set_ne hne]; exact hx
  have hcnt : ∀ j, named (t.set d n') j = named t j + if ix e = j then 1 else 0 := by
    intro j
    have h1 := named_set (j := j) (n' := n') h
    rw [m.cnt j] at h1
    omega
  have hnew : e ∈ names (t.set d n') d := by rw [names_set_same h]; exact (m.mem e).2 (.inl rfl)
  have hreach : ∀ k, From t (ix e) k → Reach (t.set d n') k := by
    intro k hf
    induction hf with
    | root => exact .root
    | start => exact .step (reach_mono hmem hr) hnew
    | step _ he ih => exact .step ih (hmem _ _ he)
  refine ⟨by rw [List.length_set]; exact g.len, set_root h m.kind' g.root, set_shape h m.shape g.shape, ?_, ?_, ?_, ?_⟩
  · intro j x hx
    have hx' : x = e ∨ x ∈ names t j := by
      rcases Classical.em (d = j) with rfl | hne
      · rw [names_set_same h] at hx
        rw [names_at h]
        exact (m.mem x).1 hx
      · rw [names_set_ne hne] at hx
        exact .inr hx
    rcases hx' with rfl | hx'
    · obtain ⟨m1, h1, h2⟩ := set_to h hkk hk
      exact ⟨m1, h1, by rw [h2]; exact hk0⟩
    · obtain ⟨m0, h0, h0'⟩ := g.there j x hx'
      obtain ⟨m1, h1, h2⟩ := set_to h hkk h0
      exact ⟨m1, h1, by rw [h2]; exact h0'⟩
  · rw [hcnt, g.noroot, if_neg (by omega)]
  · intro j m1 hj hm hm2
    obtain ⟨m0, h0, h1⟩ := set_at h hkk hm
    rw [hcnt]
    rcases Classical.em (ix e = j) with hej | hne
    · subst hej
      rw [hk] at h0
      injection h0 with h0
      subst h0
      rw [hone (h1.trans hm2), if_pos rfl]
    · rw [if_neg hne, g.one j m0 hj (fun e' => hne e'.symm) h0 (h1.trans hm2)]
  · intro j m1 hm hm2
    obtain ⟨m0, h0, h1⟩ := set_at h hkk hm
    exact hreach j (g.reach j m0 h0 (by rw [h1]; exact hm2))

theorem Reach.from {t : List N} {k : Nat} (a : Nat) (h : Reach t k) : From t a k := by
  induction h with
  | root => exact .root
  | step _ he ih => exact .step ih he
theorem Fine.half {t : List N} (g : Fine t) (a : Nat) : Half t a :=
  ⟨g.len, g.root, g.shape, g.there, g.noroot, fun k n h _ h1 h2 => g.one k n h h1 h2, fun k n h h1 => (g.reach k n h h1).from a⟩
/-- Link: one name more for a file. -/
theorem Fine.link {t : List N} {d : Nat} {n n' nk : N} {e : E} (g : Fine t) (h : t[d]? = some n) (m : More n n' e) (hk : t[ix e]? = some nk) (hk1 : nk.kind = 1) (hpos : 0 < ix e) : Fine (t.set d n') :=
  (g.half (ix e)).add h m (g.reach d n h (by rw [m.kind]; decide)) hk (by rw [hk1]; decide) hpos (by rw [hk1]; intro x; cases x)
theorem sum_zero : ∀ {l : List Nat}, (∀ x ∈ l, x = 0) → l.sum = 0
  | [], _ => rfl
  | a :: r, h => by
    rw [List.sum_cons, h a (by simp), sum_zero fun x hx => h x (by simp [hx])]
theorem named_zero {t : List N} {k : Nat} (h : ∀ (j : Nat) e, e ∈ names t j → ix e ≠ k) : named t k = 0 := by
  unfold named
  have : ∀ x ∈ t.map (fun n => cnt (ents n) k), x = 0 := by
    intro x hx
    obtain ⟨n, hn, rfl⟩ := List.mem_map.1 hx
    obtain ⟨j, hj⟩ := List.mem_iff_getElem?.1 hn
    rw [cnt, List.countP_eq_zero]
    intro e he
    have := h j e (by rw [names_at hj]; exact he)
    simpa using this
  exact sum_zero this
theorem ents_none {n : N} (h : n.kind ≠ 2) : ents n = [] := by rw [ents, if_neg h]
theorem named_some {t : List N} {k : Nat} (h : named t k ≠ 0) : ∃ (j : Nat) (x : E), x ∈ names t j ∧ ix x = k := by
  rcases Classical.em (∃ (j : Nat) (x : E), x ∈ names t j ∧ ix x = k) with h1 | h1
  · exact h1
  · exact absurd (named_zero fun j x hx e => h1 ⟨j, x, hx, e⟩) h
/-- Make: a node that was none, and a name for it. -/
theorem Fine.make {t : List N} {d : Nat} {n n' z nn : N} {e : E} (g : Fine t) (h : t[d]? = some n) (m : More n n' e) (hz : t[ix e]? = some z) (hz0 : z.kind = 0) (hn0 : nn.kind ≠ 0) (hne : ents nn = []) (hns : PT.shape nn) : Fine ((t.set (ix e) nn).set d n') := by
  have hlt := (List.getElem?_eq_some_iff.1 hz).1
  have hde : ix e ≠ d := by
    intro e'
    rw [e'] at hz
    rw [hz] at h
    injection h with h
    subst h
    have := m.kind
    rw [hz0] at this
    cases this
  have hez : ents z = [] := ents_none (by rw [hz0]; decide)
  have hnm : ∀ j, names (t.set (ix e) nn) j = names t j := by
    intro j
    rcases Classical.em (ix e = j) with hej | hej
    · rw [← hej, names_set_same hz, names_at hz, hez, hne]
    · exact names_set_ne hej
  have hnd : ∀ j, named (t.set (ix e) nn) j = named t j := by
    intro j
    have := named_set (j := j) (n' := nn) hz
    rw [hez, hne] at this
    omega
  have hno : ∀ (j : Nat) x, x ∈ names t j → ix x ≠ ix e := by
    intro j x hx hxe
    obtain ⟨m0, h0, h1⟩ := g.there j x hx
    rw [hxe, hz] at h0
    injection h0 with h0
    subst h0
    exact h1 hz0
  have hpos : 0 < ix e := by
    rcases Nat.eq_zero_or_pos (ix e) with h0 | h0
    · obtain ⟨r, hr, hr2⟩ := g.root
      rw [h0, hr] at hz
      injection hz with hz
      subst hz
      rw [hz0] at hr2
      cases hr2
    · exact h0
  have hhalf : Half (t.set (ix e) nn) (ix e) := by
    refine ⟨by rw [List.length_set]; exact g.len, ?_, set_shape hz hns g.shape, ?_, by rw [hnd]; exact g.noroot, ?_, ?_⟩
    · obtain ⟨r, hr, hr2⟩ := g.root
      exact ⟨r, by rw [List.getElem?_set_ne (by omega)]; exact hr, hr2⟩
    · intro j x hx
      rw [hnm] at hx
      obtain ⟨m0, h0, h1⟩ := g.there j x hx
      exact ⟨m0, by rw [List.getElem?_set_ne (fun e' => hno j x hx e'.symm)]; exact h0, h1⟩
    · intro j m0 hj hja hm hm2
      rw [List.getElem?_set_ne (fun e' => hja e'.symm)] at hm
      rw [hnd]
      exact g.one j m0 hj hm hm2
    · intro j m0 hm hm2
      rcases Classical.em (ix e = j) with hej | hej
      · rw [← hej]; exact .start
      · rw [List.getElem?_set_ne hej] at hm
        exact (reach_mono (fun k x hx => by rw [hnm]; exact hx) (g.reach j m0 hm hm2)).from _
  refine hhalf.add (by rw [List.getElem?_set_ne hde]; exact h) m ?_ (List.getElem?_set_self hlt) hn0 hpos fun _ => by rw [hnd]; exact named_zero hno
  exact reach_mono (fun k x hx => by rw [hnm]; exact hx) (g.reach d n h (by rw [m.kind]; decide))

/-- A name taken out of a folder. -/
theorem Fine.out {t : List N} {d : Nat} {n n' : N} {e : E} (g : Fine t) (h : t[d]? = some n) (m : More n' n e) (hs : PT.shape n') : Half (t.set d n') (ix e) ∧ named (t.set d n') (ix e) + 1 = named t (ix e) ∧ ∀ j x, x ∈ names (t.set d n') j → x ∈ names t j := by
  have hkk : n'.kind = n.kind := m.kind.trans m.kind'.symm
  have hsub : ∀ j x, x ∈ names (t.set d n') j → x ∈ names t j := by
    intro j x hx
    rcases Classical.em (d = j) with rfl | hne
    · rw [names_set_same h] at hx
      rw [names_at h]
      exact (m.mem x).2 (.inr hx)
    · rw [names_set_ne hne] at hx; exact hx
  have hrest : ∀ j x, x ∈ names t j → x = e ∨ x ∈ names (t.set d n') j := by
    intro j x hx
    rcases Classical.em (d = j) with rfl | hne
    · rw [names_set_same h]
      rw [names_at h] at hx
      exact (m.mem x).1 hx
    · rw [names_set_ne hne]; exact .inr hx
  have hcnt : ∀ j, named (t.set d n') j + (if ix e = j then 1 else 0) = named t j := by
    intro j
    have h1 := named_set (j := j) (n' := n') h
    have h2 := m.cnt j
    omega
  refine ⟨⟨by rw [List.length_set]; exact g.len, set_root h m.kind g.root, set_shape h hs g.shape, ?_, ?_, ?_, ?_⟩, ?_, hsub⟩
  · intro j x hx
    obtain ⟨m0, h0, h0'⟩ := g.there j x (hsub j x hx)
    obtain ⟨m1, h1, h2⟩ := set_to h hkk h0
    exact ⟨m1, h1, by rw [h2]; exact h0'⟩
  · have := hcnt 0
    rw [g.noroot] at this
    omega
  · intro j m1 hj hja hm hm2
    obtain ⟨m0, h0, h1⟩ := set_at h hkk hm
    have := hcnt j
    rw [if_neg (fun e' => hja e'.symm), g.one j m0 hj h0 (h1.trans hm2)] at this
    exact this
  · intro j m1 hm hm2
    obtain ⟨m0, h0, h1⟩ := set_at h hkk hm
    have hr := g.reach j m0 h0 (by rw [h1]; exact hm2)
    clear hm hm2 h0 h1
    induction hr with
    | root => exact .root
    | step _ he ih =>
      rcases hrest _ _ he with rfl | he
      · exact .start
      · exact .step ih he
  · have := hcnt (ix e)
    rw [if_pos rfl] at this
    exact this
/-- What does not lie in the node whose name goes is still reached. -/
theorem Fine.still {t : List N} {d : Nat} {n n' : N} {e : E} (h : t[d]? = some n) (m : More n' n e) {k : Nat} (hr : Reach t k) : ¬ In t (ix e) k → Reach (t.set d n') k := by
  induction hr with
  | root => intro _; exact .root
  | @step k x _ he ih =>
    intro hin
    have hk : ¬ In t (ix e) k := fun hi => hin (.step hi he)
    have hx : x ≠ e := fun e' => hin (by rw [e']; exact .self)
    refine .step (ih hk) ?_
    rcases Classical.em (d = k) with rfl | hne
    · rw [names_set_same h]
      rw [names_at h] at he
      rcases (m.mem x).1 he with h1 | h1
      · exact absurd h1 hx
      · exact h1
    · rw [names_set_ne hne]; exact he
/-- Move: the name goes from one folder into another one, which does not lie in what is moved. -/
theorem Fine.move {t : List N} {d d2 : Nat} {n n' n2 n2' nk : N} {e e2 : E} (g : Fine t) (h : t[d]? = some n) (he : e ∈ ents n) (m : More n' n e) (hs : PT.shape n') (h2 : (t.set d n')[d2]? = some n2) (m2 : More n2 n2' e2) (hix : ix e2 = ix e) (hk : (t.set d n')[ix e]? = some nk) (hk0 : nk.kind ≠ 0) (hr : Reach t d2) (hin : ¬ In t (ix e) d2) : Fine ((t.set d n').set d2 n2') := by
  obtain ⟨hh, hn, _⟩ := g.out h m hs
  have hkk : n'.kind = n.kind := m.kind.trans m.kind'.symm
  have hpos : 0 < ix e := g.ix_pos (k := d) (by rw [names_at h]; exact he)
  refine Half.add (e := e2) (by rw [hix]; exact hh) h2 m2 (Fine.still h m hr hin) (by rw [hix]; exact hk) hk0 (by rw [hix]; exact hpos) fun hf => ?_
  obtain ⟨m0, h0, h1⟩ := set_at h hkk hk
  rw [g.one _ m0 hpos h0 (h1.trans hf)] at hn
  rw [hix]
  omega
/-- Drop: the name goes; where it was the last one, the node, too. -/
theorem Fine.drop {t : List N} {d : Nat} {n n' nk : N} {e : E} (g : Fine t) (h : t[d]? = some n) (he : e ∈ ents n) (m : More n' n e) (hs : PT.shape n') (hk : (t.set d n')[ix e]? = some nk) (hke : ents nk = []) :
    (named (t.set d n') (ix e) = 0 → Fine ((t.set d n').set (ix e) zero)) ∧ (named (t.set d n') (ix e) ≠ 0 → Fine (t.set d n')) := by
  obtain ⟨hh, hn, _⟩ := g.out h m hs
  have hpos : 0 < ix e := g.ix_pos (k := d) (by rw [names_at h]; exact he)
  have hne : names (t.set d n') (ix e) = [] := by rw [names_at hk, hke]
  have hkk : n'.kind = n.kind := m.kind.trans m.kind'.symm
  have hfold : nk.kind = 2 → named (t.set d n') (ix e) = 0 := by
    intro hf
    obtain ⟨m0, h0, h1⟩ := set_at h hkk hk
    rw [g.one _ m0 hpos h0 (h1.trans hf)] at hn
    omega
  generalize t.set d n' = t2 at *
  have hrf : ∀ k, From t2 (ix e) k → k = ix e ∨ Reach t2 k := by
    intro k hf
    induction hf with
    | root => exact .inr .root
    | start => exact .inl rfl
    | step _ hx ih =>
      rcases ih with rfl | ih
      · rw [hne] at hx; cases hx
      · exact .inr (.step ih hx)
  have hlt := (List.getElem?_eq_some_iff.1 hk).1
  constructor
  · intro hz
    have hez : ents zero = [] := rfl
    have hnm : ∀ j, names (t2.set (ix e) zero) j = names t2 j := by
      intro j
      rcases Classical.em (ix e = j) with hej | hej
      · rw [← hej, names_set_same hk, hne, hez]
      · exact names_set_ne hej
    have hnd : ∀ j, named (t2.set (ix e) zero) j = named t2 j := by
      intro j
      have := named_set (j := j) (n' := zero) hk
      rw [hke, hez] at this
      omega
    refine ⟨by rw [List.length_set]; exact hh.len, ?_, set_shape hk (.inl rfl) hh.shape, ?_, by rw [hnd]; exact hh.noroot, ?_, ?_⟩
    · obtain ⟨r, hr, hr2⟩ := hh.root
      exact ⟨r, by rw [List.getElem?_set_ne (by omega)]; exact hr, hr2⟩
    · intro j x hx
      rw [hnm] at hx
      obtain ⟨m0, h0, h1⟩ := hh.there j x hx
      have hxe : ix e ≠ ix x := by
        intro e'
        have := named_pos hx
        rw [← e', hz] at this
        exact absurd this (by decide)
      exact ⟨m0, by rw [List.getElem?_set_ne hxe]; exact h0, h1⟩
    · intro j m0 hj hm hm2
      rcases Classical.em (ix e = j) with hej | hej
      · rw [← hej, List.getElem?_set_self hlt] at hm
        injection hm with hm
        subst hm
        cases hm2
      · rw [List.getElem?_set_ne hej] at hm
        rw [hnd]
        exact hh.one j m0 hj (fun e' => hej e'.symm) hm hm2
    · intro j m0 hm hm2
      rcases Classical.em (ix e = j) with hej | hej
      · rw [← hej, List.getElem?_set_self hlt] at hm
        injection hm with hm
        subst hm
        exact absurd rfl hm2
      · rw [List.getElem?_set_ne hej] at hm
        rcases hrf j (hh.reach j m0 hm hm2) with h1 | h1
        · exact absurd h1.symm hej
        · exact reach_mono (fun k x hx => by rw [hnm]; exact hx) h1
  · intro hz
    refine ⟨hh.len, hh.root, hh.shape, hh.there, hh.noroot, ?_, ?_⟩
    · intro j m0 hj hm hm2
      rcases Classical.em (j = ix e) with rfl | hej
      · rw [hk] at hm
        injection hm with hm
        subst hm
        exact absurd (hfold hm2) hz
      · exact hh.one j m0 hj hej hm hm2
    · intro j m0 hm hm2
      rcases hrf j (hh.reach j m0 hm hm2) with rfl | h1
      · obtain ⟨i, x, hx, hxe⟩ := named_some hz
        have hi : ∃ mi, t2[i]? = some mi ∧ mi.kind ≠ 0 := by
          cases hti : t2[i]? with
          | none => rw [names, hti] at hx; cases hx
          | some mi =>
            refine ⟨mi, rfl, fun h0 => ?_⟩
            rw [names_at hti, ents_none (by rw [h0]; decide)] at hx
            cases hx
        obtain ⟨mi, h2, h3⟩ := hi
        rcases hrf i (hh.reach i mi h2 h3) with rfl | h4
        · rw [hne] at hx; cases hx
        · rw [← hxe]; exact .step h4 hx
      · exact h1
end PT
end Go.Proofs.YtdnobplhfbgbaaaGreatDoor
namespace Go.Proofs.YtdnobplhfbgbaaaGreatDoor
open Go

namespace PT
/-- S' has all that S has. -/
def sub (S S' : List Bool) : Prop := S.length = S'.length ∧ ∀ k : Nat, S[k]? = some true → S'[k]? = some true
theorem sub_refl (S : List Bool) : sub S S := ⟨rfl, fun _ h => h⟩
theorem sub_trans {a b c : List Bool} (h : sub a b) (k : sub b c) : sub a c := ⟨h.1.trans k.1, fun j hj => k.2 j (h.2 j hj)⟩
theorem sub_count : ∀ {S S' : List Bool}, sub S S' → S.count true ≤ S'.count true ∧ (S ≠ S' → S.count true < S'.count true)
  | [], [], _ => ⟨Nat.le_refl _, fun h => absurd rfl h⟩
  | [], _ :: _, h => by have := h.1; simp at this
  | _ :: _, [], h => by have := h.1; simp at this
  | a :: r, b :: q, h => by
    have hr : sub r q := ⟨by have := h.1; simpa using this, fun k hk => by simpa using h.2 (k + 1) (by simpa using hk)⟩
    obtain ⟨h1, h2⟩ := sub_count hr
    have h0 := h.2 0
    simp at h0
    cases a with
    | true =>
      have hb := h0 rfl
      subst hb
      refine ⟨by simp; omega, fun hne => ?_⟩
      have := h2 fun e => hne (by rw [e])
      simp; omega
    | false =>
      cases b with
      | true => exact ⟨by simp; omega, fun _ => by simp; omega⟩
      | false =>
        refine ⟨by simp; omega, fun hne => ?_⟩
        have := h2 fun e => hne (by rw [e])
        simp; omega

def iter (f : List Bool → List Bool) : Nat → List Bool → List Bool
  | 0, S => S
  | r + 1, S => f (iter f r S)
theorem iter_fixed {f : List Bool → List Bool} {S : List Bool} {q : Nat} (h : f (iter f q S) = iter f q S) : ∀ r, q ≤ r → iter f r S = iter f q S
  | 0, hr => by rw [Nat.le_zero.1 hr]
  | r + 1, hr => by
    rcases Nat.lt_or_ge q (r + 1) with h1 | h1
    · rw [iter, iter_fixed h r (by omega), h]
    · rw [show q = r + 1 by omega]
theorem iter_sub {f : List Bool → List Bool} {S : List Bool} (hf : ∀ S, sub S (f S)) : ∀ r, sub S (iter f r S)
  | 0 => sub_refl _
  | r + 1 => sub_trans (iter_sub hf r) (hf _)
/-- Behind nine sweeps a tenth one finds nothing. -/
theorem nine {f : List Bool → List Bool} (hf : ∀ S, sub S (f S)) {S : List Bool} (hl : S.length = 9) (h0 : S[0]? = some true) : f (iter f 9 S) = iter f 9 S := by
  have key : ∀ r, (∃ q, q ≤ r ∧ f (iter f q S) = iter f q S) ∨ r + 1 ≤ (iter f r S).count true := by
    intro r
    induction r with
    | zero =>
      right
      have : 0 < S.count true := List.count_pos_iff.2 (List.mem_of_getElem? h0)
      simpa [iter] using this
    | succ r ih =>
      rcases ih with ⟨q, h1, h2⟩ | ih
      · exact .inl ⟨q, by omega, h2⟩
      · rcases Classical.em (f (iter f r S) = iter f r S) with h1 | h1
        · exact .inl ⟨r, by omega, h1⟩
        · right
          have := (sub_count (hf (iter f r S))).2 fun e => h1 e.symm
          rw [iter]
          omega
  rcases key 9 with ⟨q, h1, h2⟩ | h
  · rw [iter_fixed h2 9 h1, h2]
  · exfalso
    have h1 : (iter f 9 S).count true ≤ (iter f 9 S).length := List.count_le_length
    have h2 := (iter_sub hf (S := S) 9).1
    omega

/-- Where all that points to is looked at, and nothing else is found: what is reached is seen. -/
theorem closed_reach {t : List N} {S : List Bool} (h0 : S[0]? = some true) (hc : ∀ (k : Nat) e, S[k]? = some true → e ∈ names t k → S[ix e]? = some true) {k : Nat} (h : Reach t k) : S[k]? = some true := by
  induction h with
  | root => exact h0
  | step _ he ih => exact hc _ _ ih he

/-- All that node k points to is seen, too, if it is seen itself. -/
def look (t : List N) (k : Nat) (S : List Bool) : List Bool := if S[k]? = some true then (names t k).foldl (fun S e => S.set (ix e) true) S else S
/-- One sweep over the first n nodes, in their order. -/
def sweep (t : List N) : Nat → List Bool → List Bool
  | 0, S => S
  | n + 1, S => look t n (sweep t n S)
theorem fold_sub : ∀ (l : List E) (S : List Bool), sub S (l.foldl (fun S e => S.set (ix e) true) S)
  | [], S => sub_refl S
  | e :: r, S => by
    refine sub_trans ⟨by simp, fun k hk => ?_⟩ (fold_sub r _)
    have hlt := (List.getElem?_eq_some_iff.1 hk).1
    rcases Classical.em (ix e = k) with rfl | hne
    · exact List.getElem?_set_self hlt
    · rw [List.getElem?_set_ne hne]; exact hk
theorem fold_has : ∀ (l : List E) (S : List Bool) (e : E), e ∈ l → ix e < S.length → (l.foldl (fun S e => S.set (ix e) true) S)[ix e]? = some true
  | [], _, _, h, _ => by cases h
  | x :: r, S, e, h, hlt => by
    rcases List.mem_cons.1 h with rfl | h
    · exact (fold_sub r _).2 _ (List.getElem?_set_self hlt)
    · exact fold_has r _ e h (by rw [List.length_set]; exact hlt)
theorem look_sub (t : List N) (k : Nat) (S : List Bool) : sub S (look t k S) := by
  unfold look
  split
  · exact fold_sub _ _
  · exact sub_refl S
theorem sweep_sub (t : List N) : ∀ n S, sub S (sweep t n S)
  | 0, S => sub_refl S
  | n + 1, S => sub_trans (sweep_sub t n S) (look_sub t n _)
/-- A sweep that finds nothing: all that is seen points to what is seen. -/
theorem sweep_fixed {t : List N} {S : List Bool} (h : sweep t 9 S = S) : ∀ (k : Nat) e, k < 9 → S[k]? = some true → e ∈ names t k → ix e < S.length → S[ix e]? = some true := by
  intro k e hk hs he hlt
  have mono : ∀ n m, n ≤ m → sub (sweep t n S) (sweep t m S) := by
    intro n m hnm
    induction m with
    | zero => rw [Nat.le_zero.1 hnm]; exact sub_refl _
    | succ m ih =>
      rcases Nat.lt_or_ge n (m + 1) with h1 | h1
      · exact sub_trans (ih (by omega)) (look_sub t m _)
      · rw [show n = m + 1 by omega]; exact sub_refl _
  have h1 : (sweep t k S)[k]? = some true := (sweep_sub t k S).2 k hs
  have h2 : (sweep t (k + 1) S)[ix e]? = some true := by
    rw [sweep, look, if_pos h1]
    exact fold_has _ _ e he (by rw [← (sweep_sub t k S).1]; exact hlt)
  have h3 := (mono (k + 1) 9 (by omega)).2 _ h2
  rwa [h] at h3
/-- What a sweep sees is reached. -/
theorem fold_reach {t : List N} {k : Nat} (hk : Reach t k) : ∀ (l : List E) (S : List Bool), (∀ e ∈ l, e ∈ names t k) → (∀ j : Nat, S[j]? = some true → Reach t j) → ∀ j : Nat, (l.foldl (fun S e => S.set (ix e) true) S)[j]? = some true → Reach t j
  | [], _, _, h, j, hj => h j hj
  | e :: r, S, hl, h, j, hj => by
    refine fold_reach hk r _ (fun x hx => hl x (by simp [hx])) (fun i hi => ?_) j hj
    rcases Classical.em (ix e = i) with rfl | hne
    · exact .step hk (hl e (by simp))
    · rw [List.getElem?_set_ne hne] at hi
      exact h i hi
theorem sweep_reach {t : List N} : ∀ n (S : List Bool), (∀ j : Nat, S[j]? = some true → Reach t j) → ∀ j : Nat, (sweep t n S)[j]? = some true → Reach t j
  | 0, _, h, j, hj => h j hj
  | n + 1, S, h, j, hj => by
    have ih := sweep_reach n S h
    rw [sweep, look] at hj
    split at hj
    · rename_i hn
      exact fold_reach (ih n hn) _ _ (fun _ he => he) ih j hj
    · exact ih j hj

/-- The root alone. -/
def first : List Bool := true :: List.replicate 8 false
theorem first_root : first[0]? = some true := rfl
theorem first_length : first.length = 9 := rfl
theorem first_at {j : Nat} (h : first[j]? = some true) : j = 0 := by
  rcases j with _ | j
  · rfl
  · rw [first, List.getElem?_cons_succ, List.getElem?_replicate] at h
    split at h <;> simp at h
/-- What the document's nine sweeps see, from the root on. -/
def seen (t : List N) : List Bool := iter (sweep t 9) 9 first
theorem iter_next (f : List Bool → List Bool) (r : Nat) (S : List Bool) : iter f (r + 1) S = f (iter f r S) := rfl
theorem nine_reach {t : List N} {S : List Bool} (h0 : S[0]? = some true) (hl : S.length = 9) (hat : ∀ j : Nat, S[j]? = some true → j = 0) (hix : ∀ (k : Nat) e, e ∈ names t k → ix e < 9) (k : Nat) : (iter (sweep t 9) 9 S)[k]? = some true ↔ Reach t k := by
  have hfix := nine (sweep_sub t 9) hl h0
  have hsub := iter_sub (sweep_sub t 9) (S := S) 9
  have hlen : (iter (sweep t 9) 9 S).length = 9 := hsub.1.symm.trans hl
  constructor
  · have hr : ∀ r, ∀ j : Nat, (iter (sweep t 9) r S)[j]? = some true → Reach t j := by
      intro r
      induction r with
      | zero =>
        intro j hj
        rw [hat j hj]
        exact .root
      | succ r ih =>
        intro j hj
        rw [iter_next] at hj
        exact sweep_reach 9 (iter (sweep t 9) r S) ih j hj
    exact hr 9 k
  · intro h
    refine closed_reach (hsub.2 0 h0) (fun j e hj he => ?_) h
    have hj9 : j < 9 := by
      have := (List.getElem?_eq_some_iff.1 hj).1
      rwa [hlen] at this
    exact sweep_fixed hfix j e hj9 hj he (by rw [hlen]; exact hix j e he)
theorem seen_reach {t : List N} (hix : ∀ (k : Nat) e, e ∈ names t k → ix e < 9) (k : Nat) : (seen t)[k]? = some true ↔ Reach t k :=
  nine_reach first_root first_length (fun _ h => first_at h) hix k
end PT
end Go.Proofs.YtdnobplhfbgbaaaGreatDoor
namespace Go.Proofs.YtdnobplhfbgbaaaGreatDoor
open Go

namespace PT
theorem two_le_sum : ∀ {l : List Nat} {j k x y : Nat}, j < k → l[j]? = some x → l[k]? = some y → x + y ≤ l.sum
  | [], _, _, _, _, _, h, _ => by simp at h
  | a :: r, j, 0, _, _, h, _, _ => by omega
  | a :: r, 0, k + 1, x, y, _, h1, h2 => by
    simp at h1 h2
    subst h1
    have := le_sum h2
    simp; omega
  | a :: r, j + 1, k + 1, x, y, h, h1, h2 => by
    have := two_le_sum (l := r) (j := j) (k := k) (by omega) (by simpa using h1) (by simpa using h2)
    simp; omega
theorem names_some {t : List N} {k : Nat} {e : E} (h : e ∈ names t k) : ∃ n, t[k]? = some n ∧ names t k = ents n := by
  cases hn : t[k]? with
  | none => rw [names, hn] at h; cases h
  | some n => exact ⟨n, rfl, names_at hn⟩
theorem names_kind {t : List N} {k : Nat} {e : E} (h : e ∈ names t k) : ∃ n, t[k]? = some n ∧ n.kind = 2 := by
  obtain ⟨n, hn, hs⟩ := names_some h
  refine ⟨n, hn, ?_⟩
  rcases Classical.em (n.kind = 2) with h1 | h1
  · exact h1
  · rw [hs, ents_none h1] at h; cases h
theorem named_two {t : List N} {j k : Nat} {e e' : E} (h : e ∈ names t j) (h' : e' ∈ names t k) (hix : ix e = ix e') (hne : j ≠ k) : 2 ≤ named t (ix e) := by
  obtain ⟨n, hn, hs⟩ := names_some h
  obtain ⟨n', hn', hs'⟩ := names_some h'
  rw [hs] at h
  rw [hs'] at h'
  have c1 := cnt_pos h
  have c2 := cnt_pos h'
  rw [← hix] at c2
  have m1 : (t.map fun n => cnt (ents n) (ix e))[j]? = some (cnt (ents n) (ix e)) := by rw [List.getElem?_map, hn]; rfl
  have m2 : (t.map fun n => cnt (ents n) (ix e))[k]? = some (cnt (ents n') (ix e)) := by rw [List.getElem?_map, hn']; rfl
  unfold named
  rcases Nat.lt_or_gt_of_ne hne with hlt | hlt
  · have := two_le_sum hlt m1 m2; omega
  · have := two_le_sum hlt m2 m1; omega
/-- A folder lies in one folder alone. -/
theorem Fine.parent {t : List N} (g : Fine t) {j k : Nat} {e e' : E} {n : N} (h : e ∈ names t j) (h' : e' ∈ names t k) (hix : ix e = ix e') (hn : t[ix e]? = some n) (hk : n.kind = 2) : j = k := by
  rcases Classical.em (j = k) with h1 | h1
  · exact h1
  · have h2 := named_two h h' hix h1
    rw [g.one _ n (g.ix_pos h) hn hk] at h2
    omega

/-- From node a to node b in m steps, by the nodes l, the last one first. -/
inductive Chain (t : List N) (a : Nat) : List Nat → Nat → Prop
  | here : Chain t a [] a
  | step {l : List Nat} {k : Nat} {e : E} : Chain t a l k → e ∈ names t k → Chain t a (k :: l) (ix e)
theorem Chain.reach {t : List N} {l : List Nat} {k : Nat} (h : Chain t 0 l k) : Reach t k := by
  induction h with
  | here => exact .root
  | step _ he ih => exact .step ih he
theorem Chain.of {t : List N} {k : Nat} (h : Reach t k) : ∃ l, Chain t 0 l k := by
  induction h with
  | root => exact ⟨[], .here⟩
  | step _ he ih =>
    obtain ⟨l, hl⟩ := ih
    exact ⟨_, .step hl he⟩
theorem Chain.last {t : List N} {a x b : Nat} {l : List Nat} (h : Chain t a (x :: l) b) : ∃ e, e ∈ names t x ∧ ix e = b ∧ Chain t a l x := by
  cases h with
  | step h1 h2 => exact ⟨_, h2, rfl, h1⟩
/-- No folder that is reached lies in itself. -/
theorem Fine.acyclic {t : List N} (g : Fine t) {k : Nat} (hr : Reach t k) : ∀ (x : Nat) (l : List Nat), ¬ Chain t k (x :: l) k := by
  induction hr with
  | root =>
    intro x l hc
    obtain ⟨e, he, h0, _⟩ := hc.last
    have := g.ix_pos he
    omega
  | @step k e hk he ih =>
    intro x l hc
    -- the circle's first step goes out of the node: it is a folder
    have hfold : ∃ n, t[ix e]? = some n ∧ n.kind = 2 := by
      have : ∀ (l : List Nat) (b : Nat), Chain t (ix e) l b → l ≠ [] → ∃ n, t[ix e]? = some n ∧ n.kind = 2 := by
        intro l b h
        induction h with
        | here => intro h; exact absurd rfl h
        | @step l k' e' hc' he' ih' =>
          intro _
          cases l with
          | nil =>
            cases hc' with
            | here => exact names_kind he'
          | cons y r => exact ih' (by simp)
      exact this _ _ hc (by simp)
    obtain ⟨n, hn, hn2⟩ := hfold
    -- its last step comes from where the name is
    have hlast : x = k ∧ Chain t (ix e) l k := by
      generalize hb : ix e = b at hc
      have key : ∀ b', b' = ix e → Chain t b (x :: l) b' → x = k ∧ Chain t b l k := by
        intro b' hb' h
        cases h with
        | @step _ _ e' h1 h2 =>
          have := g.parent he h2 hb'.symm hn hn2
          subst this
          exact ⟨rfl, h1⟩
      have h3 := key b hb.symm hc
      exact h3
    obtain ⟨rfl, hcl⟩ := hlast
    -- so the folder itself lies on the circle
    have hcat : ∀ (l : List Nat) (b : Nat), Chain t (ix e) l b → ∃ l', Chain t x (l' ++ [x]) b ∧ l' = l := by
      intro l b h
      induction h with
      | here => exact ⟨[], .step .here he, rfl⟩
      | step _ he' ih' =>
        obtain ⟨l', h1, h2⟩ := ih'
        exact ⟨_ :: l', .step h1 he', by rw [h2]⟩
    obtain ⟨l', h1, _⟩ := hcat l x hcl
    cases l' with
    | nil => exact ih x [] h1
    | cons y r => exact ih y (r ++ [x]) h1

theorem nodup_length : ∀ (n : Nat) (l : List Nat), l.Nodup → (∀ x ∈ l, x < n) → l.length ≤ n
  | 0, l, _, h => by
    cases l with
    | nil => exact Nat.le_refl _
    | cons a r => exact absurd (h a (by simp)) (by omega)
  | n + 1, l, hd, h => by
    by_cases hm : n ∈ l
    · have h1 := nodup_length n (l.erase n) (hd.erase n) fun x hx => by
        have h2 := (hd.mem_erase_iff).1 hx
        have := h x h2.2
        omega
      rw [List.length_erase_of_mem hm] at h1
      omega
    · have := nodup_length n l hd fun x hx => by
        have h2 := h x hx
        have h3 : x ≠ n := fun e => hm (by rw [← e]; exact hx)
        omega
      omega
/-- The folders of a way are all others. -/
theorem Fine.nodup {t : List N} (g : Fine t) {l : List Nat} {k : Nat} (h : Chain t 0 l k) : l.Nodup ∧ ∀ x ∈ l, x < 9 ∧ ∃ m, Chain t x m k ∧ m ≠ [] := by
  induction h with
  | here => exact ⟨by simp, by simp⟩
  | @step l k e hc he ih =>
    obtain ⟨h1, h2⟩ := ih
    obtain ⟨n, hn, _⟩ := names_kind he
    have hk9 : k < 9 := by
      have := (List.getElem?_eq_some_iff.1 hn).1
      rwa [g.len] at this
    refine ⟨List.nodup_cons.2 ⟨fun hm => ?_, h1⟩, fun x hx => ?_⟩
    · obtain ⟨_, m, hm1, hm2⟩ := h2 k hm
      cases m with
      | nil => exact hm2 rfl
      | cons y r => exact g.acyclic hc.reach y r hm1
    · rcases List.mem_cons.1 hx with rfl | hx
      · exact ⟨hk9, [x], .step .here he, by simp⟩
      · obtain ⟨h3, m, h4, _⟩ := h2 x hx
        exact ⟨h3, k :: m, .step h4 he, by simp⟩
/-- A way has at most eight names. -/
theorem Fine.depth {t : List N} (g : Fine t) {l : List Nat} {k : Nat} (h : Chain t 0 l k) : l.length ≤ 8 := by
  cases h with
  | here => simp
  | @step l k e hc he =>
    obtain ⟨h1, h2⟩ := g.nodup (.step hc he)
    -- the node that it leads to is none of the folders
    have hnew : ix e ∉ k :: l := fun hm => by
      obtain ⟨_, m, hm1, hm2⟩ := h2 _ hm
      cases m with
      | nil => exact hm2 rfl
      | cons y r => exact g.acyclic (Chain.reach (.step hc he)) y r hm1
    have := nodup_length 9 (ix e :: k :: l) (List.nodup_cons.2 ⟨hnew, h1⟩) fun x hx => by
      rcases List.mem_cons.1 hx with rfl | hx
      · exact g.lt he
      · exact (h2 x hx).1
    simp at this ⊢
    omega
end PT
end Go.Proofs.YtdnobplhfbgbaaaGreatDoor
namespace Go.Proofs.YtdnobplhfbgbaaaGreatDoor
open Go

namespace PD
theorem tl_may (s : ByteArray) : ∀ e ∈ tl s, may e = true := by
  intro e he
  cases ht : took s with
  | none => rw [(took_none ht).2] at he; cases he
  | some l =>
    rw [(took_some ht).2] at he
    rw [took] at ht
    split at ht
    · have hf := Option.filter_eq_some_iff.1 ht
      exact rise_may hf.2 e he
    · cases ht
end PD
namespace PT
theorem ents_may {n : N} {e : E} (h : e ∈ ents n) : PD.may e = true := by
  rw [ents] at h
  split at h
  · exact PD.tl_may _ e h
  · cases h
theorem names_may {t : List N} {k : Nat} {e : E} (h : e ∈ names t k) : PD.may e = true := by
  obtain ⟨n, _, hs⟩ := names_some h
  rw [hs] at h
  exact ents_may h
theorem ix_lt {t : List N} {k : Nat} {e : E} (h : e ∈ names t k) : ix e < 9 := by
  have := PD.may_size (names_may h)
  unfold ix
  omega
theorem ix_int {t : List N} {k : Nat} {e : E} (h : e ∈ names t k) : e.2 = ((ix e + 1 : Nat) : Int) := by
  have := PD.may_size (names_may h)
  unfold ix
  omega

/-- The new tree. -/
def new : List N := ⟨2, 7, { data := #[] }⟩ :: List.replicate 8 zero
theorem nil_took : PD.took { data := #[] } = some [] := by
  rw [PD.took_is (by decide) (show PD.ents (nums { data := #[] }) = some [] from PD.ents_nil)]
  rfl
theorem new_names (k : Nat) : names new k = [] := by
  rcases k with _ | k
  · show (if (2 : Int) = 2 then PD.tl { data := #[] } else []) = []
    rw [if_pos rfl]
    exact (PD.took_some nil_took).2
  · rw [names, new, List.getElem?_cons_succ, List.getElem?_replicate]
    split
    · rename_i n h
      split at h
      · injection h with h
        subst h
        rfl
      · cases h
    · rfl
theorem new_at {k : Nat} {n : N} (h : new[k]? = some n) : (k = 0 ∧ n = ⟨2, 7, { data := #[] }⟩) ∨ n = zero := by
  rcases k with _ | k
  · left
    exact ⟨rfl, (Option.some.inj h).symm⟩
  · right
    rw [new, List.getElem?_cons_succ, List.getElem?_replicate] at h
    split at h
    · exact (Option.some.inj h).symm
    · cases h
theorem new_fine : Fine new := by
  have hno : ∀ k, named new k = 0 := fun k => named_zero fun j e he => by rw [new_names] at he; cases he
  refine ⟨rfl, ⟨_, rfl, rfl⟩, ?_, ?_, hno 0, ?_, ?_⟩
  · intro k n h
    rcases new_at h with ⟨_, rfl⟩ | rfl
    · exact .inr ⟨.inr ⟨rfl, (PD.took_some nil_took).1⟩, by decide, by decide, by decide⟩
    · exact .inl rfl
  · intro k e he
    rw [new_names] at he
    cases he
  · intro k n h0 h hk
    rcases new_at h with ⟨h1, _⟩ | rfl
    · omega
    · cases hk
  · intro k n h hk
    rcases new_at h with ⟨rfl, _⟩ | rfl
    · exact .root
    · exact absurd rfl hk

/-- Which nodes may be. -/
def shapeB (n : N) : Bool := if n.kind = 0 then decide (n = zero) else (decide (n.kind = 1) || (decide (n.kind = 2) && PD.tk n.body)) && (decide (0 ≤ n.mode) && (decide (n.mode ≤ 255) && decide (n.body.size ≤ 120)))
theorem shape_iff (n : N) : shapeB n = true ↔ shape n := by
  unfold shapeB shape
  split
  · rename_i h
    rw [decide_eq_true_eq]
    constructor
    · exact .inl
    · rintro (h1 | ⟨h1, _⟩)
      · exact h1
      · rcases h1 with h1 | ⟨h1, _⟩ <;> rw [h] at h1 <;> cases h1
  · rename_i h
    simp only [Bool.and_eq_true, Bool.or_eq_true, decide_eq_true_eq]
    constructor
    · exact .inr
    · rintro (h1 | h1)
      · rw [h1] at h; exact absurd rfl h
      · exact h1
/-- What the document asks of node k behind its counts and its sweeps. -/
def okB (t : List N) (k : Nat) : Bool := match t[k]? with
  | none => true
  | some n => !(decide (0 < named t k) && decide (n.kind = 0)) && (!(decide (n.kind ≠ 0) && !decide ((seen t)[k]? = some true)) && (!(decide (k = 0) && decide (0 < named t k)) && !(decide (0 < k) && (decide (n.kind = 2) && decide (named t k ≠ 1)))))
def mayB (t : List N) : Bool := decide (t.length = 9) && ((match t[0]? with | some n => decide (n.kind = 2) | none => false) && (t.all shapeB && (List.range 9).all (okB t)))
theorem okB_iff {t : List N} {k : Nat} {n : N} (h : t[k]? = some n) : okB t k = true ↔ (0 < named t k → n.kind ≠ 0) ∧ (n.kind ≠ 0 → Reach t k) ∧ (k = 0 → named t k = 0) ∧ (0 < k → n.kind = 2 → named t k = 1) := by
  rw [okB, h]
  have hs := seen_reach (t := t) (fun _ _ he => ix_lt he) k
  simp only [Bool.and_eq_true, Bool.not_eq_true', Bool.and_eq_false_iff, decide_eq_false_iff_not, Bool.not_eq_false', decide_eq_true_eq, hs]
  constructor
  · rintro ⟨h1, h2, h3, h4⟩
    refine ⟨fun h => h1.resolve_left (fun e => e h), fun h => h2.resolve_left (fun e => e h), fun h => ?_, fun h h' => ?_⟩
    · have := h3.resolve_left (fun e => e h); omega
    · rcases h4 with h4 | h4 | h4
      · exact absurd h h4
      · exact absurd h' h4
      · exact Classical.not_not.1 h4
  · rintro ⟨h1, h2, h3, h4⟩
    refine ⟨?_, ?_, ?_, ?_⟩
    · rcases Classical.em (0 < named t k) with h | h
      · exact .inr (h1 h)
      · exact .inl h
    · rcases Classical.em (n.kind ≠ 0) with h | h
      · exact .inr (h2 h)
      · exact .inl h
    · rcases Classical.em (k = 0) with h | h
      · exact .inr (by rw [h3 h]; decide)
      · exact .inl h
    · rcases Classical.em (0 < k) with h | h
      · rcases Classical.em (n.kind = 2) with h' | h'
        · exact .inr (.inr (by rw [h4 h h']; simp))
        · exact .inr (.inl h')
      · exact .inl h
/-- The document's answer is just that the tree is good. -/
theorem may_iff (t : List N) : mayB t = true ↔ Fine t := by
  unfold mayB
  simp only [Bool.and_eq_true, decide_eq_true_eq, List.all_eq_true, List.mem_range]
  constructor
  · rintro ⟨h1, h2, h3, h4⟩
    have hok : ∀ (k : Nat) n, t[k]? = some n → (0 < named t k → n.kind ≠ 0) ∧ (n.kind ≠ 0 → Reach t k) ∧ (k = 0 → named t k = 0) ∧ (0 < k → n.kind = 2 → named t k = 1) := fun k n h => by
      have hk : k < 9 := by
        have := (List.getElem?_eq_some_iff.1 h).1
        omega
      exact (okB_iff h).1 (h4 k hk)
    obtain ⟨r, hr⟩ : ∃ r, t[0]? = some r := ⟨_, List.getElem?_eq_getElem (by omega)⟩
    rw [hr] at h2
    simp only [decide_eq_true_eq] at h2
    refine ⟨h1, ⟨r, hr, h2⟩, fun k n h => (shape_iff n).1 (h3 n (List.mem_of_getElem? h)), fun k e he => ?_, (hok 0 r hr).2.2.1 rfl, fun k n h0 h hk => (hok k n h).2.2.2 h0 hk, fun k n h hk => (hok k n h).2.1 hk⟩
    obtain ⟨n, hn⟩ : ∃ n, t[ix e]? = some n := ⟨_, List.getElem?_eq_getElem (by have := ix_lt he; omega)⟩
    exact ⟨n, hn, (hok _ n hn).1 (named_pos he)⟩
  · intro g
    obtain ⟨r, hr, hr2⟩ := g.root
    refine ⟨g.len, by rw [hr]; simpa using hr2, fun n hn => ?_, fun k hk => ?_⟩
    · obtain ⟨k, hk⟩ := List.mem_iff_getElem?.1 hn
      exact (shape_iff n).2 (g.shape k n hk)
    · obtain ⟨n, hn⟩ : ∃ n, t[k]? = some n := ⟨_, List.getElem?_eq_getElem (by rw [g.len]; exact hk)⟩
      refine (okB_iff hn).2 ⟨fun h => ?_, g.reach k n hn, fun h => by subst h; exact g.noroot, fun h h' => g.one k n h hn h'⟩
      obtain ⟨j, x, hx, hxe⟩ := named_some (show named t k ≠ 0 by omega)
      obtain ⟨m, hm, hm0⟩ := g.there j x hx
      rw [hxe, hn] at hm
      injection hm with hm
      rw [hm]; exact hm0
end PT
end Go.Proofs.YtdnobplhfbgbaaaGreatDoor
namespace Go.Proofs.YtdnobplhfbgbaaaGreatDoor
open Go

namespace PT
/-- The names l lead to node k, from the root on. -/
inductive Way (t : List N) : List ByteArray → Nat → Prop
  | root : Way t [] 0
  | step {l : List ByteArray} {k : Nat} {e : E} : Way t l k → e ∈ names t k → Way t (l ++ [e.1]) (ix e)
/-- One name on, from node k: the node; none, and why not (5: no folder; 2: no such name). -/
def next (t : List N) (k : Nat) (n : ByteArray) : Option Nat × Int := match t[k]? with
  | none => (none, 2)
  | some m => if m.kind = 2 then (match (ents m).find? fun e => decide (e.1 = n) with
    | none => (none, 2)
    | some e => (some (ix e), 0)) else (none, 5)
/-- Name by name, from node k on: the node's number and nought; nought and why not. -/
def walk (t : List N) : Nat → List ByteArray → Int × Int
  | k, [] => (((k + 1 : Nat) : Int), 0)
  | k, n :: r => match (next t k n).1 with
    | some j => walk t j r
    | none => (0, (next t k n).2)
theorem next_no {t : List N} {k : Nat} {n : ByteArray} (h : (next t k n).1 = none) : (next t k n).2 ≠ 0 := by
  unfold next at h ⊢
  cases hm : t[k]? with
  | none => simp
  | some m =>
    rw [hm] at h
    simp only at h ⊢
    split
    · rename_i hk
      rw [if_pos hk] at h
      cases hf : (ents m).find? fun e => decide (e.1 = n) with
      | none => simp
      | some e => rw [hf] at h; cases h
    · simp
theorem next_yes {t : List N} {k j : Nat} {n : ByteArray} (h : (next t k n).1 = some j) : ∃ e, e ∈ names t k ∧ e.1 = n ∧ ix e = j := by
  unfold next at h
  cases hm : t[k]? with
  | none => rw [hm] at h; cases h
  | some m =>
    rw [hm] at h
    simp only at h
    split at h
    · cases hf : (ents m).find? fun e => decide (e.1 = n) with
      | none => rw [hf] at h; cases h
      | some e =>
        rw [hf] at h
        refine ⟨e, by rw [names_at hm]; exact List.mem_of_find?_eq_some hf, by simpa using List.find?_some hf, ?_⟩
        exact Option.some.inj h
    · cases h
theorem walk_cons_yes {t : List N} {k j : Nat} {n : ByteArray} {r : List ByteArray} (h : (next t k n).1 = some j) : walk t k (n :: r) = walk t j r := by rw [walk, h]
theorem walk_cons_no {t : List N} {k : Nat} {n : ByteArray} {r : List ByteArray} (h : (next t k n).1 = none) : walk t k (n :: r) = (0, (next t k n).2) := by rw [walk, h]
theorem walk_nil (t : List N) (k : Nat) : walk t k [] = (((k + 1 : Nat) : Int), 0) := rfl
theorem walk_append (t : List N) : ∀ (p q : List ByteArray) (k : Nat), walk t k (p ++ q) = (if (walk t k p).2 = 0 then walk t ((walk t k p).1 - 1).toNat q else walk t k p)
  | [], q, k => by
    rw [walk_nil, List.nil_append, if_pos (by rfl)]
    congr 1
    simp
  | n :: r, q, k => by
    rw [List.cons_append]
    cases hn : (next t k n).1 with
    | none => rw [walk_cons_no hn, walk_cons_no hn, if_neg (next_no hn)]
    | some j => rw [walk_cons_yes hn, walk_cons_yes hn, walk_append t r q j]
theorem find_mem {l : List E} {a : ByteArray} (h : PD.srt a l = true) {e : E} (he : e ∈ l) : l.find? (fun x => decide (x.1 = e.1)) = some e := by
  induction l generalizing a with
  | nil => cases he
  | cons x r ih =>
    obtain ⟨h1, h2, h3⟩ := PD.srt_cons h
    rcases List.mem_cons.1 he with rfl | he
    · simp
    · have hlt := PD.srt_above h3 e he
      have hne : ¬ x.1 = e.1 := fun e' => by rw [e', PD.lt_irrefl] at hlt; cases hlt
      rw [List.find?_cons, decide_eq_false hne]
      exact ih h3 he
theorem ents_srt (n : N) : PD.srt { data := #[] } (ents n) = true := by
  rw [ents]
  split
  · cases ht : PD.took n.body with
    | none => rw [(PD.took_none ht).2]; rfl
    | some l =>
      rw [(PD.took_some ht).2]
      rw [PD.took] at ht
      split at ht
      · have hf := Option.filter_eq_some_iff.1 ht
        rw [← PD.rise_srt]
        exact hf.2
      · cases ht
  · rfl
theorem next_of {t : List N} {k : Nat} {e : E} (h : e ∈ names t k) : (next t k e.1).1 = some (ix e) := by
  obtain ⟨n, hn, hs⟩ := names_some h
  obtain ⟨n', hn', hk⟩ := names_kind h
  rw [hn] at hn'
  injection hn' with hn'
  subst hn'
  rw [hs] at h
  unfold next
  rw [hn]
  simp only
  rw [if_pos hk, find_mem (ents_srt n) h]
theorem walk_one {t : List N} {k : Nat} {e : E} (h : e ∈ names t k) : walk t k [e.1] = (((ix e + 1 : Nat) : Int), 0) := by
  rw [walk_cons_yes (next_of h), walk_nil]
/-- Each way finds its node. -/
theorem Way.walk {t : List N} {l : List ByteArray} {k : Nat} (h : Way t l k) : PT.walk t 0 l = (((k + 1 : Nat) : Int), 0) := by
  induction h with
  | root => rfl
  | @step l k e _ he ih =>
    rw [walk_append, ih, if_pos rfl]
    have hk : ((((k + 1 : Nat) : Int), (0 : Int)).1 - 1).toNat = k := by simp
    rw [hk, walk_one he]
/-- What is found is found by a way. -/
theorem way_of : ∀ (q : List ByteArray) {t : List N} {l : List ByteArray} {k j : Nat}, Way t l k → PT.walk t k q = (((j + 1 : Nat) : Int), 0) → Way t (l ++ q) j
  | [], t, l, k, j, h, hw => by
    rw [walk_nil] at hw
    simp only [Prod.mk.injEq, and_true] at hw
    have : k = j := by omega
    subst this
    rw [List.append_nil]; exact h
  | n :: r, t, l, k, j, h, hw => by
    cases hn : (next t k n).1 with
    | none =>
      rw [walk_cons_no hn] at hw
      simp only [Prod.mk.injEq] at hw
      omega
    | some i =>
      rw [walk_cons_yes hn] at hw
      obtain ⟨e, he, h1, h2⟩ := next_yes hn
      subst h1 h2
      have := way_of r (Way.step h he) hw
      rw [List.append_assoc] at this
      exact this
theorem walk_iff {t : List N} {l : List ByteArray} {k : Nat} : PT.walk t 0 l = (((k + 1 : Nat) : Int), 0) ↔ Way t l k :=
  ⟨fun h => by have := way_of l (Way.root (t := t)) h; simpa using this, Way.walk⟩
theorem Way.chain {t : List N} {l : List ByteArray} {k : Nat} (h : Way t l k) : ∃ c, Chain t 0 c k ∧ c.length = l.length := by
  induction h with
  | root => exact ⟨[], .here, rfl⟩
  | step _ he ih =>
    obtain ⟨c, h1, h2⟩ := ih
    exact ⟨_, .step h1 he, by simp [h2]⟩
theorem Fine.way_length {t : List N} (g : Fine t) {l : List ByteArray} {k : Nat} (h : Way t l k) : l.length ≤ 8 := by
  obtain ⟨c, h1, h2⟩ := h.chain
  rw [← h2]; exact g.depth h1
theorem Reach.way {t : List N} {k : Nat} (h : Reach t k) : ∃ l, Way t l k := by
  induction h with
  | root => exact ⟨[], .root⟩
  | step _ he ih =>
    obtain ⟨l, hl⟩ := ih
    exact ⟨_, .step hl he⟩
theorem cnt_two : ∀ {l : List E} {e e' : E}, e ∈ l → e' ∈ l → e ≠ e' → ix e = ix e' → 2 ≤ cnt l (ix e)
  | [], _, _, h, _, _, _ => by cases h
  | x :: r, e, e', h, h', hne, hix => by
    rcases List.mem_cons.1 h with h0 | h0
    · rcases List.mem_cons.1 h' with h3 | h3
      · exact absurd (h0.trans h3.symm) hne
      · have h1 := cnt_pos h3
        have h2 : cnt (x :: r) (ix e) = cnt r (ix e) + 1 := by rw [← h0]; simp [cnt]
        rw [← hix] at h1
        omega
    · rcases List.mem_cons.1 h' with h3 | h3
      · have h1 := cnt_pos h0
        have h2 : cnt (x :: r) (ix e) = cnt r (ix e) + 1 := by rw [← h3]; simp [cnt, hix]
        omega
      · have h1 := cnt_two h0 h3 hne hix
        have h2 : cnt r (ix e) ≤ cnt (x :: r) (ix e) := by
          rw [cnt, cnt, List.countP_cons]
          exact Nat.le_add_right _ _
        omega
/-- A folder has one way alone. -/
theorem Fine.one_way {t : List N} (g : Fine t) {l l' : List ByteArray} {k : Nat} (h : Way t l k) : Way t l' k → (∃ n, t[k]? = some n ∧ n.kind = 2) → l = l' := by
  induction h generalizing l' with
  | root =>
    intro h' _
    generalize hz : 0 = z at h'
    cases h' with
    | root => rfl
    | step _ he =>
      have := g.ix_pos he
      omega
  | @step l k e hw he ih =>
    intro h' hf
    obtain ⟨n, hn, hn2⟩ := hf
    generalize hz : ix e = z at h'
    cases h' with
    | root =>
      have := g.ix_pos he
      omega
    | @step l2 k2 e2 hw2 he2 =>
      have hkk := g.parent he he2 hz hn hn2
      subst hkk
      have hee : e = e2 := by
        rcases Classical.em (e = e2) with h1 | h1
        · exact h1
        · obtain ⟨m, hm, hs⟩ := names_some he
          rw [hs] at he he2
          have h2 := cnt_two he he2 h1 hz
          have h3 := cnt_le (t := t) (k := k) (j := ix e)
          rw [hs, g.one _ n (g.ix_pos (k := k) (by rw [hs]; exact he)) hn hn2] at h3
          omega
      subst hee
      rw [ih hw2 (names_kind he)]
end PT
end Go.Proofs.YtdnobplhfbgbaaaGreatDoor
namespace Go.Proofs.YtdnobplhfbgbaaaGreatDoor
open Go

namespace PD
theorem srt_drop : ∀ {p : List E} {a : ByteArray} {x : E} {q : List E}, srt a (p ++ x :: q) = true → srt a (p ++ q) = true
  | [], a, x, q, h => by
    obtain ⟨_, h2, h3⟩ := srt_cons h
    exact srt_lower h3 h2
  | y :: p, a, x, q, h => by
    obtain ⟨h1, h2, h3⟩ := srt_cons h
    exact srt_mk h1 h2 (srt_drop h3)
theorem bytes_append (a b : List E) : bytes (a ++ b) = bytes a ++ bytes b := by simp [bytes]
theorem ok_drop {p q : List E} {x : E} (h : ok (p ++ x :: q) = true) : ok (p ++ q) = true := by
  simp only [ok, Bool.and_eq_true, decide_eq_true_eq] at h ⊢
  obtain ⟨h1, h2⟩ := h
  rw [rise_srt] at h1 ⊢
  refine ⟨srt_drop h1, ?_⟩
  rw [bytes_append, List.length_append] at h2 ⊢
  have : (bytes (x :: q)).length = (ent x).length + (bytes q).length := by
    rw [bytes, List.flatMap_cons, List.length_append]; rfl
  omega
theorem ok_took {s : ByteArray} {l : List E} (h : took s = some l) : ok l = true := by
  rw [took] at h
  split at h
  · rename_i hs
    obtain ⟨h1, h2⟩ := Option.filter_eq_some_iff.1 h
    have hb := bytes_ents _ (Nat.le_refl _) (nums_lt s) h1
    simp only [ok, Bool.and_eq_true, decide_eq_true_eq]
    exact ⟨h2, by rw [hb, nums_length]; exact hs⟩
  · cases h
/-- The row parted at a name that is there. -/
theorem place_part {l : List E} {a : ByteArray} {e : E} (h : srt a l = true) (he : e ∈ l) : isAt l e.1 = true ∧ l = l.take (place l e.1) ++ e :: l.drop (place l e.1 + 1) := by
  have hi : isAt l e.1 = true := by
    rw [(find_same e.1 h).1, has, List.any_eq_true]
    exact ⟨e, he, by simp⟩
  refine ⟨hi, ?_⟩
  cases hx : l[place l e.1]? with
  | none => rw [isAt, hx] at hi; cases hi
  | some x =>
    rw [isAt, hx] at hi
    have hn := beq_yes hi
    have hxm : x ∈ l := List.mem_of_getElem? hx
    have hxe : x = e := by
      have h1 := PT.find_mem h hxm
      rw [hn, PT.find_mem h he] at h1
      exact (Option.some.inj h1).symm
    obtain ⟨hlt, hg⟩ := List.getElem?_eq_some_iff.1 hx
    have := List.drop_eq_getElem_cons hlt
    rw [hg, hxe] at this
    rw [← this, List.take_append_drop]
end PD
namespace PT
theorem cnt_append (a b : List E) (j : Nat) : cnt (a ++ b) j = cnt a j + cnt b j := by simp [cnt]
theorem cnt_cons (e : E) (b : List E) (j : Nat) : cnt (e :: b) j = cnt b j + if ix e = j then 1 else 0 := by
  rw [cnt, cnt, List.countP_cons]
  by_cases h : ix e = j
  · simp [h]
  · simp [h]
theorem ents_of {n : N} (hk : n.kind = 2) {l : List E} (h : PD.took n.body = some l) : ents n = l := by
  rw [ents, if_pos hk, (PD.took_some h).2]
theorem folder_took {n : N} (hk : n.kind = 2) (hs : shape n) : PD.took n.body = some (ents n) ∧ 0 ≤ n.mode ∧ n.mode ≤ 255 ∧ n.body.size ≤ 120 := by
  rcases hs with rfl | ⟨h1, h2⟩
  · cases hk
  · rcases h1 with h1 | ⟨_, h1⟩
    · rw [hk] at h1; cases h1
    · cases ht : PD.took n.body with
      | none => rw [(PD.took_none ht).1] at h1; cases h1
      | some l => rw [ents_of hk ht]; exact ⟨rfl, h2⟩
/-- The folder n of the entries l. -/
def withNames (n : N) (l : List E) : N := ⟨n.kind, n.mode, PD.put l⟩
theorem withNames_ents {n : N} {l : List E} (hk : n.kind = 2) (hok : PD.ok l = true) : ents (withNames n l) = l := ents_of (n := withNames n l) hk (PD.took_put hok)
theorem withNames_shape {n : N} {l : List E} (hk : n.kind = 2) (hs : shape n) (hok : PD.ok l = true) : shape (withNames n l) := by
  obtain ⟨_, h2, h3, _⟩ := folder_took hk hs
  exact .inr ⟨.inr ⟨hk, (PD.took_some (PD.took_put hok)).1⟩, h2, h3, PD.put_size l⟩
/-- One name more. -/
theorem more_put {n : N} {e : E} (hk : n.kind = 2) (hs : shape n) (hno : PD.isAt (ents n) e.1 = false) (hok : PD.ok (PD.wth (ents n) e) = true) : More n (withNames n (PD.wth (ents n) e)) e := by
  have hw : PD.wth (ents n) e = (ents n).take (PD.place (ents n) e.1) ++ e :: (ents n).drop (PD.place (ents n) e.1) := by rw [PD.wth, hno]; rfl
  have he := withNames_ents hk hok
  refine ⟨hk, hk, withNames_shape hk hs hok, fun j => ?_, fun x => ?_⟩
  · rw [he, hw, cnt_append, cnt_cons]
    have := cnt_append ((ents n).take (PD.place (ents n) e.1)) ((ents n).drop (PD.place (ents n) e.1)) j
    rw [List.take_append_drop] at this
    omega
  · rw [he, hw, List.mem_append, List.mem_cons]
    have : x ∈ ents n ↔ x ∈ (ents n).take (PD.place (ents n) e.1) ∨ x ∈ (ents n).drop (PD.place (ents n) e.1) := by
      rw [← List.mem_append, List.take_append_drop]
    rw [this]
    constructor
    · rintro (h | h | h)
      · exact .inr (.inl h)
      · exact .inl h
      · exact .inr (.inr h)
    · rintro (h | h | h)
      · exact .inr (.inl h)
      · exact .inl h
      · exact .inr (.inr h)
/-- One name less. -/
theorem more_take {n : N} {e : E} (hk : n.kind = 2) (hs : shape n) (hin : e ∈ ents n) : More (withNames n (PD.less (ents n) e.1)) n e ∧ shape (withNames n (PD.less (ents n) e.1)) := by
  obtain ⟨htk, _⟩ := folder_took hk hs
  obtain ⟨hi, hp⟩ := PD.place_part (ents_srt n) hin
  have hl : PD.less (ents n) e.1 = (ents n).take (PD.place (ents n) e.1) ++ (ents n).drop (PD.place (ents n) e.1 + 1) := by rw [PD.less, hi]; rfl
  have hok0 := PD.ok_took htk
  have hok : PD.ok (PD.less (ents n) e.1) = true := by
    rw [hp] at hok0
    rw [hl]
    exact PD.ok_drop hok0
  have he := withNames_ents hk hok
  refine ⟨⟨hk, hk, hs, fun j => ?_, fun x => ?_⟩, withNames_shape hk hs hok⟩
  · rw [he, hl, cnt_append]
    have : cnt (ents n) j = cnt ((ents n).take (PD.place (ents n) e.1)) j + (cnt ((ents n).drop (PD.place (ents n) e.1 + 1)) j + if ix e = j then 1 else 0) := by
      rw [← cnt_cons, ← cnt_append, ← hp]
    omega
  · rw [he, hl, List.mem_append]
    have : x ∈ ents n ↔ x ∈ (ents n).take (PD.place (ents n) e.1) ∨ x = e ∨ x ∈ (ents n).drop (PD.place (ents n) e.1 + 1) := by
      rw [← List.mem_cons, ← List.mem_append, ← hp]
    rw [this]
    constructor
    · rintro (h | h | h)
      · exact .inr (.inl h)
      · exact .inl h
      · exact .inr (.inr h)
    · rintro (h | h | h)
      · exact .inr (.inl h)
      · exact .inl h
      · exact .inr (.inr h)
end PT
end Go.Proofs.YtdnobplhfbgbaaaGreatDoor
namespace Go.Proofs.YtdnobplhfbgbaaaGreatDoor
open Go

namespace PT
/-- A name into folder d; no: no room. -/
def put (t : List N) (d : Nat) (e : E) : Option (List N) := match t[d]? with
  | none => none
  | some n => if PD.ok (PD.rwth (ents n) e) = true then some (t.set d (withNames n (PD.rwth (ents n) e))) else none
/-- A name out of folder d. -/
def take (t : List N) (d : Nat) (name : ByteArray) : List N := match t[d]? with
  | none => t
  | some n => t.set d (withNames n (PD.rless (ents n) name))
theorem has_isAt (n : N) (name : ByteArray) : PD.isAt (ents n) name = PD.has (ents n) name := (PD.find_same name (ents_srt n)).1
theorem put_some {t x : List N} {d : Nat} {n : N} {e : E} (g : Fine t) (h : t[d]? = some n) (hk : n.kind = 2) (hno : PD.has (ents n) e.1 = false) (hp : put t d e = some x) : ∃ n', x = t.set d n' ∧ More n n' e := by
  rw [put, h] at hp
  simp only at hp
  split at hp
  · rename_i hok
    rw [← PD.with_same e (ents_srt n)] at hok hp
    injection hp with hp
    exact ⟨_, hp.symm, more_put hk (g.shape d n h) (by rw [has_isAt]; exact hno) hok⟩
  · cases hp
theorem take_at {t : List N} {d : Nat} {n : N} {e : E} (g : Fine t) (h : t[d]? = some n) (he : e ∈ ents n) : ∃ n', take t d e.1 = t.set d n' ∧ More n' n e ∧ shape n' ∧ n.kind = 2 := by
  have hk : n.kind = 2 := by
    rcases Classical.em (n.kind = 2) with h1 | h1
    · exact h1
    · rw [ents_none h1] at he; cases he
  obtain ⟨h1, h2⟩ := more_take hk (g.shape d n h) he
  refine ⟨_, ?_, h1, h2, hk⟩
  rw [take, h]
  simp only
  rw [PD.less_same e.1 (ents_srt n)]
/-- Made: a node that was none has a name. -/
theorem Fine.made {t x : List N} {d : Nat} {n z nn : N} {e : E} (g : Fine t) (h : t[d]? = some n) (hk : n.kind = 2) (hno : PD.has (ents n) e.1 = false) (hp : put t d e = some x) (hz : t[ix e]? = some z) (hz0 : z.kind = 0) (hn0 : nn.kind ≠ 0) (hne : ents nn = []) (hns : PT.shape nn) : Fine (x.set (ix e) nn) := by
  obtain ⟨n', rfl, hm⟩ := put_some g h hk hno hp
  have hde : d ≠ ix e := fun e' => by
    rw [← e', h] at hz
    injection hz with hz
    subst hz
    rw [hk] at hz0
    cases hz0
  rw [List.set_comm _ _ hde]
  exact g.make h hm hz hz0 hn0 hne hns
theorem fresh {kind mode : Int} (hk : kind = 1 ∨ kind = 2) (hm : 0 ≤ mode ∧ mode ≤ 255) : (⟨kind, mode, { data := #[] }⟩ : N).kind ≠ 0 ∧ ents ⟨kind, mode, { data := #[] }⟩ = [] ∧ shape ⟨kind, mode, { data := #[] }⟩ := by
  have ht := PD.took_some nil_took
  refine ⟨?_, ?_, .inr ⟨?_, hm.1, hm.2, show ({ data := #[] } : ByteArray).size ≤ 120 by decide⟩⟩
  · rcases hk with rfl | rfl <;> simp
  · rw [ents]
    split
    · exact ht.2
    · rfl
  · rcases hk with rfl | rfl
    · exact .inl rfl
    · exact .inr ⟨rfl, ht.1⟩
/-- Linked: a file has one name more. -/
theorem Fine.linked {t x : List N} {d : Nat} {n nk : N} {e : E} (g : Fine t) (h : t[d]? = some n) (hk : n.kind = 2) (hno : PD.has (ents n) e.1 = false) (hp : put t d e = some x) (hn : t[ix e]? = some nk) (hn1 : nk.kind = 1) : Fine x := by
  obtain ⟨n', rfl, hm⟩ := put_some g h hk hno hp
  refine g.link h hm hn hn1 ?_
  rcases Nat.eq_zero_or_pos (ix e) with h0 | h0
  · obtain ⟨r, hr, hr2⟩ := g.root
    rw [h0, hr] at hn
    injection hn with hn
    subst hn
    rw [hr2] at hn1
    cases hn1
  · exact h0
/-- A node that has no names in it, when one of its own goes. -/
theorem take_other {t : List N} {d : Nat} {n n' nk : N} {e : E} (h : t[d]? = some n) (he : e ∈ ents n) (hk : t[ix e]? = some nk) (hne : ents nk = []) : (t.set d n')[ix e]? = some nk ∧ d ≠ ix e := by
  have hde : d ≠ ix e := fun e' => by
    rw [← e', h] at hk
    injection hk with hk
    subst hk
    rw [hne] at he
    cases he
  exact ⟨by rw [List.getElem?_set_ne hde]; exact hk, hde⟩
/-- Dropped: the name goes; the node, where it was the last one. -/
theorem Fine.dropped {t : List N} {d : Nat} {n nk : N} {e : E} (g : Fine t) (h : t[d]? = some n) (he : e ∈ ents n) (hk : t[ix e]? = some nk) (hne : ents nk = []) :
    Fine (if named (take t d e.1) (ix e) = 0 then (take t d e.1).set (ix e) zero else take t d e.1) := by
  obtain ⟨n', h1, h2, h3, _⟩ := take_at g h he
  rw [h1]
  obtain ⟨h4, _⟩ := take_other (n' := n') h he hk hne
  obtain ⟨h5, h6⟩ := g.drop h he h2 h3 h4 hne
  split
  · rename_i hz; exact h5 hz
  · rename_i hz; exact h6 hz
/-- Moved: the name goes into another folder (or is another one), that does not lie in what is moved. -/
theorem Fine.moved {t x : List N} {d d2 : Nat} {n n2 nk : N} {e : E} {name : ByteArray} (g : Fine t) (h : t[d]? = some n) (he : e ∈ ents n) (h2 : t[d2]? = some n2) (hk2 : n2.kind = 2) (hno : PD.has (names t d2) name = false) (hk : t[ix e]? = some nk) (hin : ¬ In t (ix e) d2) (hp : put (take t d e.1) d2 (name, e.2) = some x) : Fine x := by
  obtain ⟨n', h3, h4, h5, hkn⟩ := take_at g h he
  rw [h3] at hp
  have hkk : n'.kind = n.kind := h4.kind.trans h4.kind'.symm
  have hlt := (List.getElem?_eq_some_iff.1 h).1
  -- the other folder, behind the name's going
  obtain ⟨n2', hn2', hk2', hsub⟩ : ∃ n2' : N, (t.set d n')[d2]? = some n2' ∧ n2'.kind = 2 ∧ (PT.shape n2' ∧ ∀ y, y ∈ ents n2' → y ∈ names t d2) := by
    rcases Classical.em (d = d2) with rfl | hne
    · refine ⟨n', List.getElem?_set_self hlt, h4.kind, h5, fun y hy => ?_⟩
      rw [names_at h]
      exact (h4.mem y).2 (.inr hy)
    · exact ⟨n2, by rw [List.getElem?_set_ne hne]; exact h2, hk2, g.shape d2 n2 h2, fun y hy => by rw [names_at h2]; exact hy⟩
  have hno2 : PD.has (ents n2') name = false := by
    rw [PD.has, List.any_eq_false] at hno ⊢
    intro y hy
    exact hno y (hsub.2 y hy)
  rw [put, hn2'] at hp
  simp only at hp
  split at hp
  · rename_i hok
    rw [← PD.with_same (name, e.2) (ents_srt n2')] at hok hp
    injection hp with hp
    subst hp
    have hm := more_put (e := (name, e.2)) hk2' hsub.1 (by rw [has_isAt]; exact hno2) hok
    have hnk0 : nk.kind ≠ 0 := by
      obtain ⟨m0, hm0, hm1⟩ := g.there d e (by rw [names_at h]; exact he)
      rw [hk] at hm0
      injection hm0 with hm0
      rw [hm0]; exact hm1
    obtain ⟨nk', hk', hkk'⟩ := set_to (n' := n') h hkk hk
    refine g.move h he h4 h5 hn2' hm rfl hk' (by rw [hkk']; exact hnk0) (g.reach d2 n2 h2 (by rw [hk2]; decide)) hin
  · cases hp
end PT
end Go.Proofs.YtdnobplhfbgbaaaGreatDoor
namespace Go.Proofs.YtdnobplhfbgbaaaGreatDoor
open Go

namespace PT
/-- From node k the names l lead to node j. -/
def Leads (t : List N) : Nat → List ByteArray → Nat → Prop
  | k, [], j => k = j
  | k, n :: r, j => ∃ e, e ∈ names t k ∧ e.1 = n ∧ Leads t (ix e) r j
theorem Leads.way : ∀ {r : List ByteArray} {t : List N} {l : List ByteArray} {k j : Nat}, Way t l k → Leads t k r j → Way t (l ++ r) j
  | [], t, l, k, j, h, hl => by
    have : k = j := hl
    subst this
    rw [List.append_nil]; exact h
  | n :: r, t, l, k, j, h, hl => by
    obtain ⟨e, he, h1, h2⟩ := hl
    subst h1
    have := Leads.way (Way.step h he) h2
    rw [List.append_assoc] at this
    exact this
theorem Leads.snoc : ∀ {r : List ByteArray} {t : List N} {k j : Nat} {e : E}, Leads t k r j → e ∈ names t j → Leads t k (r ++ [e.1]) (ix e)
  | [], t, k, j, e, h, he => by
    have : k = j := h
    subst this
    exact ⟨e, he, rfl, rfl⟩
  | n :: r, t, k, j, e, h, he => by
    obtain ⟨x, hx, h1, h2⟩ := h
    exact ⟨x, hx, h1, Leads.snoc h2 he⟩
theorem Way.leads {t : List N} {l : List ByteArray} {k : Nat} (h : Way t l k) : Leads t 0 l k := by
  induction h with
  | root => exact rfl
  | step _ he ih => exact ih.snoc he
theorem way_leads {t : List N} {l : List ByteArray} {k : Nat} : Way t l k ↔ Leads t 0 l k :=
  ⟨Way.leads, fun h => by simpa using Leads.way (Way.root (t := t)) h⟩

/-- All ways from node k on to node j, of at most f names, behind p: the document's going down. -/
def down (t : List N) : Nat → Nat → List ByteArray → Nat → List (List ByteArray)
  | 0, _, _, _ => []
  | f + 1, k, p, j => (names t k).flatMap fun e => (if ix e = j then [p ++ [e.1]] else []) ++ down t f (ix e) (p ++ [e.1]) j
theorem down_mem : ∀ {f : Nat} {t : List N} {k : Nat} {p : List ByteArray} {j : Nat} {q : List ByteArray}, q ∈ down t f k p j ↔ ∃ r, q = p ++ r ∧ r ≠ [] ∧ r.length ≤ f ∧ Leads t k r j
  | 0, t, k, p, j, q => by
    constructor
    · intro h; cases h
    · rintro ⟨r, _, h1, h2, _⟩
      cases r with
      | nil => exact absurd rfl h1
      | cons a b => simp at h2
  | f + 1, t, k, p, j, q => by
    rw [down, List.mem_flatMap]
    constructor
    · rintro ⟨e, he, hq⟩
      rcases List.mem_append.1 hq with hq | hq
      · split at hq
        · rename_i hj
          simp at hq
          exact ⟨[e.1], hq, by simp, by simp, e, he, rfl, hj⟩
        · cases hq
      · obtain ⟨r, h1, h2, h3, h4⟩ := down_mem.1 hq
        exact ⟨e.1 :: r, by rw [h1, List.append_assoc]; rfl, by simp, by simp; omega, e, he, rfl, h4⟩
    · rintro ⟨r, h1, h2, h3, h4⟩
      cases r with
      | nil => exact absurd rfl h2
      | cons n r =>
        obtain ⟨e, he, hn, h5⟩ := h4
        subst hn
        refine ⟨e, he, List.mem_append.2 ?_⟩
        cases r with
        | nil =>
          left
          have : ix e = j := h5
          rw [if_pos this, h1]
          simp
        | cons a b =>
          right
          refine down_mem.2 ⟨a :: b, by rw [h1, List.append_assoc]; rfl, by simp, by simp at h3 ⊢; omega, h5⟩
/-- Going down from the root finds all ways. -/
theorem Fine.all_ways {t : List N} (g : Fine t) {j : Nat} {q : List ByteArray} : q ∈ down t 9 0 [] j ↔ q ≠ [] ∧ Way t q j := by
  rw [down_mem]
  constructor
  · rintro ⟨r, h1, h2, _, h4⟩
    rw [List.nil_append] at h1
    subst h1
    exact ⟨h2, way_leads.2 h4⟩
  · rintro ⟨h1, h2⟩
    have := g.way_length h2
    exact ⟨q, rfl, h1, by omega, way_leads.1 h2⟩
/-- The root's way has no names, and no other way leads there. -/
theorem Fine.root_way {t : List N} (g : Fine t) {q : List ByteArray} {j : Nat} (h : Way t q j) : q = [] ↔ j = 0 := by
  cases h with
  | root => simp
  | step _ he =>
    have := g.ix_pos he
    simp
    omega

/-- Rows that rise and have the same are the same. -/
theorem rise_unique : ∀ {l m : List ByteArray}, l.Pairwise (fun a b => PD.lt a b = true) → m.Pairwise (fun a b => PD.lt a b = true) → (∀ x, x ∈ l ↔ x ∈ m) → l = m
  | [], [], _, _, _ => rfl
  | [], b :: q, _, _, h => by have := (h b).2 (by simp); cases this
  | a :: r, [], _, _, h => by have := (h a).1 (by simp); cases this
  | a :: r, b :: q, h1, h2, h => by
    obtain ⟨a1, a2⟩ := List.pairwise_cons.1 h1
    obtain ⟨b1, b2⟩ := List.pairwise_cons.1 h2
    have hab : a = b := by
      rcases List.mem_cons.1 ((h a).1 (by simp)) with h3 | h3
      · exact h3
      · rcases List.mem_cons.1 ((h b).2 (by simp)) with h4 | h4
        · exact h4.symm
        · have h5 := b1 a h3
          have h6 := a1 b h4
          have := PD.lt_asymm h5
          rw [h6] at this
          cases this
    subst hab
    congr 1
    refine rise_unique a2 b2 fun x => ?_
    constructor
    · intro hx
      rcases List.mem_cons.1 ((h x).1 (by simp [hx])) with h3 | h3
      · have := a1 x hx
        rw [h3, PD.lt_irrefl] at this
        cases this
      · exact h3
    · intro hx
      rcases List.mem_cons.1 ((h x).2 (by simp [hx])) with h3 | h3
      · have := b1 x hx
        rw [h3, PD.lt_irrefl] at this
        cases this
      · exact h3
end PT
end Go.Proofs.YtdnobplhfbgbaaaGreatDoor
namespace Go.Proofs.YtdnobplhfbgbaaaGreatDoor
open Go

namespace PT
theorem nodup_sub {α : Type} [DecidableEq α] : ∀ {l m : List α}, l.Nodup → (∀ x ∈ l, x ∈ m) → l.length ≤ m.length
  | [], _, _, _ => Nat.zero_le _
  | a :: r, m, hd, h => by
    obtain ⟨h1, h2⟩ := List.nodup_cons.1 hd
    have ha := h a (by simp)
    have := nodup_sub (l := r) (m := m.erase a) h2 fun x hx => by
      have hne : x ≠ a := fun e => h1 (by rw [← e]; exact hx)
      exact (List.mem_erase_of_ne hne).2 (h x (by simp [hx]))
    rw [List.length_erase_of_mem ha] at this
    have hp : 0 < m.length := List.length_pos_of_mem ha
    simp; omega
theorem Way.fun {t : List N} {l : List ByteArray} {j k : Nat} (h : Way t l j) (h' : Way t l k) : j = k := by
  have h1 := h.walk
  rw [h'.walk] at h1
  simp only [Prod.mk.injEq, and_true] at h1
  omega
theorem some_ways (t : List N) : ∃ W : Nat → List ByteArray, ∀ k, Reach t k → Way t (W k) k :=
  ⟨fun k => @Classical.epsilon _ ⟨[]⟩ fun l => Way t l k, fun k h => Classical.epsilon_spec (p := fun l => Way t l k) h.way⟩
/-- A way for each name. -/
def each (t : List N) (W : Nat → List ByteArray) (j : Nat) : List (List ByteArray) := (List.range t.length).flatMap fun k => ((names t k).filter fun e => ix e == j).map fun e => W k ++ [e.1]
theorem sum_range : ∀ (t : List N) (f : N → Nat), ((List.range t.length).map fun k => match t[k]? with | some n => f n | none => 0).sum = (t.map f).sum
  | [], f => rfl
  | a :: r, f => by
    rw [List.length_cons, List.range_succ_eq_map, List.map_cons, List.sum_cons, List.map_map, List.map_cons, List.sum_cons, ← sum_range r f]
    rfl
theorem each_length (t : List N) (W : Nat → List ByteArray) (j : Nat) : (each t W j).length = named t j := by
  rw [each, List.length_flatMap, named, ← sum_range t fun n => cnt (ents n) j]
  congr 1
  apply List.map_congr_left
  intro k _
  rw [List.length_map, names]
  cases t[k]? with
  | none => rfl
  | some n =>
    show ((ents n).filter fun e => ix e == j).length = cnt (ents n) j
    rw [cnt, List.countP_eq_length_filter]
theorem names_reach {t : List N} (g : Fine t) {k : Nat} {e : E} (h : e ∈ names t k) : Reach t k := by
  obtain ⟨n, hn, hk⟩ := names_kind h
  exact g.reach k n hn (by rw [hk]; decide)
theorem each_mem {t : List N} (g : Fine t) {W : Nat → List ByteArray} (hW : ∀ k, Reach t k → Way t (W k) k) {j : Nat} {q : List ByteArray} : q ∈ each t W j ↔ q ≠ [] ∧ Way t q j := by
  rw [each, List.mem_flatMap]
  constructor
  · rintro ⟨k, _, hq⟩
    obtain ⟨e, he, rfl⟩ := List.mem_map.1 hq
    obtain ⟨h1, h2⟩ := List.mem_filter.1 he
    have h3 : ix e = j := by simpa using h2
    subst h3
    exact ⟨by simp, .step (hW _ (names_reach g h1)) h1⟩
  · rintro ⟨h1, h2⟩
    cases h2 with
    | root => exact absurd rfl h1
    | @step l k e hw he =>
      have hk := names_kind he
      obtain ⟨n, hn, _⟩ := hk
      refine ⟨k, List.mem_range.2 (List.getElem?_eq_some_iff.1 hn).1, List.mem_map.2 ⟨e, List.mem_filter.2 ⟨he, by simp⟩, ?_⟩⟩
      rw [g.one_way (hW _ (names_reach g he)) hw (names_kind he)]
theorem names_nodup (t : List N) (k : Nat) : (names t k).Pairwise fun a b => a.1 ≠ b.1 := by
  have key : ∀ (l : List E) (a : ByteArray), PD.srt a l = true → l.Pairwise fun a b => a.1 ≠ b.1 := by
    intro l
    induction l with
    | nil => intro _ _; exact .nil
    | cons x r ih =>
      intro a h
      obtain ⟨_, _, h3⟩ := PD.srt_cons h
      refine List.pairwise_cons.2 ⟨fun y hy e => ?_, ih _ h3⟩
      have := PD.srt_above h3 y hy
      rw [e, PD.lt_irrefl] at this
      cases this
  unfold names
  cases t[k]? with
  | none => exact .nil
  | some n => exact key _ _ (ents_srt n)
theorem each_nodup {t : List N} (g : Fine t) {W : Nat → List ByteArray} (hW : ∀ k, Reach t k → Way t (W k) k) (j : Nat) : (each t W j).Nodup := by
  unfold each List.Nodup
  rw [List.pairwise_flatMap]
  refine ⟨fun k _ => ?_, ?_⟩
  · rw [List.pairwise_map]
    refine ((names_nodup t k).filter _).imp ?_
    intro a b hab e
    have := List.append_cancel_left e
    injection this with this
    exact hab this
  · refine List.nodup_range.imp ?_
    intro a b hab x hx y hy e
    obtain ⟨e1, h1, rfl⟩ := List.mem_map.1 hx
    obtain ⟨e2, h2, rfl⟩ := List.mem_map.1 hy
    have h3 := (List.mem_filter.1 h1).1
    have h4 := (List.mem_filter.1 h2).1
    have h5 := (List.append_inj' e rfl).1
    have h6 := hW _ (names_reach g h3)
    rw [h5] at h6
    exact hab (h6.fun (hW _ (names_reach g h4)))
theorem down_nodup (t : List N) : ∀ (f k : Nat) (p : List ByteArray) (j : Nat), (down t f k p j).Nodup
  | 0, _, _, _ => .nil
  | f + 1, k, p, j => by
    unfold List.Nodup
    rw [down, List.pairwise_flatMap]
    refine ⟨fun e _ => ?_, ?_⟩
    · rw [List.pairwise_append]
      refine ⟨?_, down_nodup t f (ix e) (p ++ [e.1]) j, ?_⟩
      · split
        · exact List.pairwise_singleton _ _
        · exact .nil
      · intro x hx y hy exy
        split at hx
        · simp at hx
          subst hx
          obtain ⟨r, h1, h2, _⟩ := down_mem.1 hy
          rw [← exy] at h1
          have := congrArg List.length h1
          cases r with
          | nil => exact h2 rfl
          | cons a b => simp at this
        · cases hx
    · refine (names_nodup t k).imp ?_
      intro a b hab x hx y hy exy
      have key : ∀ (e : E) (z : List ByteArray), z ∈ (if ix e = j then [p ++ [e.1]] else []) ++ down t f (ix e) (p ++ [e.1]) j → ∃ r, z = p ++ ([e.1] ++ r) := by
        intro e z hz
        rcases List.mem_append.1 hz with hz | hz
        · split at hz
          · simp at hz
            exact ⟨[], by rw [hz]; simp⟩
          · cases hz
        · obtain ⟨r, h1, _⟩ := down_mem.1 hz
          exact ⟨r, by rw [h1, List.append_assoc]⟩
      obtain ⟨r1, h1⟩ := key a x hx
      obtain ⟨r2, h2⟩ := key b y hy
      rw [exy, h2] at h1
      have := List.append_cancel_left h1
      injection this with this
      exact hab this.symm
/-- A node has as many ways as it has names (but for the root's own). -/
theorem Fine.ways_length {t : List N} (g : Fine t) (j : Nat) : (down t 9 0 [] j).length = named t j := by
  obtain ⟨W, hW⟩ := some_ways t
  rw [← each_length t W j]
  apply Nat.le_antisymm
  · exact nodup_sub (down_nodup t 9 0 [] j) fun q hq => (each_mem g hW).2 (g.all_ways.1 hq)
  · exact nodup_sub (each_nodup g hW j) fun q hq => g.all_ways.2 ((each_mem g hW).1 hq)
end PT
end Go.Proofs.YtdnobplhfbgbaaaGreatDoor
namespace Go.Proofs.YtdnobplhfbgbaaaGreatDoor
open Go

namespace PT
/-- x behind all that are not greater. -/
def insR : List ByteArray → ByteArray → List ByteArray
  | [], x => [x]
  | y :: r, x => if PD.lt x y = true then x :: y :: r else y :: insR r x
def sort (l : List ByteArray) : List ByteArray := l.foldl insR []
theorem insR_mem : ∀ {l : List ByteArray} {x z : ByteArray}, z ∈ insR l x ↔ z = x ∨ z ∈ l
  | [], x, z => by simp [insR]
  | y :: r, x, z => by
    rw [insR]
    split
    · simp
    · rw [List.mem_cons, insR_mem, List.mem_cons]
      constructor
      · rintro (h | h | h)
        · exact .inr (.inl h)
        · exact .inl h
        · exact .inr (.inr h)
      · rintro (h | h | h)
        · exact .inr (.inl h)
        · exact .inl h
        · exact .inr (.inr h)
theorem insR_length : ∀ (l : List ByteArray) (x : ByteArray), (insR l x).length = l.length + 1
  | [], _ => rfl
  | y :: r, x => by
    rw [insR]
    split
    · rfl
    · rw [List.length_cons, insR_length, List.length_cons]
theorem insR_rises : ∀ {l : List ByteArray} {x : ByteArray}, l.Pairwise (fun a b => PD.lt a b = true) → x ∉ l → (insR l x).Pairwise (fun a b => PD.lt a b = true)
  | [], x, _, _ => List.pairwise_singleton _ _
  | y :: r, x, h, hx => by
    obtain ⟨h1, h2⟩ := List.pairwise_cons.1 h
    rw [insR]
    split
    · rename_i hlt
      refine List.pairwise_cons.2 ⟨fun z hz => ?_, h⟩
      rcases List.mem_cons.1 hz with rfl | hz
      · exact hlt
      · exact PD.lt_trans hlt (h1 z hz)
    · rename_i hlt
      have hne : x ≠ y := fun e => hx (by rw [e]; simp)
      have hyx : PD.lt y x = true := PD.lt_total (by simpa using hlt) hne
      refine List.pairwise_cons.2 ⟨fun z hz => ?_, insR_rises h2 fun h3 => hx (by simp [h3])⟩
      rcases insR_mem.1 hz with rfl | hz
      · exact hyx
      · exact h1 z hz
theorem fold_mem : ∀ (l s : List ByteArray) (z : ByteArray), z ∈ l.foldl insR s ↔ z ∈ l ∨ z ∈ s
  | [], s, z => by simp
  | x :: r, s, z => by
    rw [List.foldl_cons, fold_mem r, insR_mem, List.mem_cons]
    constructor
    · rintro (h | h | h)
      · exact .inl (.inr h)
      · exact .inl (.inl h)
      · exact .inr h
    · rintro ((h | h) | h)
      · exact .inr (.inl h)
      · exact .inl h
      · exact .inr (.inr h)
theorem sort_mem (l : List ByteArray) (z : ByteArray) : z ∈ sort l ↔ z ∈ l := by
  rw [sort, fold_mem]; simp
theorem fold_length : ∀ (l s : List ByteArray), (l.foldl insR s).length = l.length + s.length
  | [], s => by simp
  | x :: r, s => by
    rw [List.foldl_cons, fold_length r, insR_length, List.length_cons]
    omega
theorem sort_length (l : List ByteArray) : (sort l).length = l.length := by
  rw [sort, fold_length]; rfl
theorem fold_rises : ∀ (l s : List ByteArray), (l ++ s).Nodup → s.Pairwise (fun a b => PD.lt a b = true) → (l.foldl insR s).Pairwise (fun a b => PD.lt a b = true)
  | [], s, _, h => h
  | x :: r, s, hd, h => by
    rw [List.cons_append] at hd
    obtain ⟨h1, h2⟩ := List.nodup_cons.1 hd
    have hxs : x ∉ s := fun hx => h1 (List.mem_append.2 (.inr hx))
    have hxr : x ∉ r := fun hx => h1 (List.mem_append.2 (.inl hx))
    refine fold_rises r _ ?_ (insR_rises h hxs)
    rw [List.nodup_append] at h2 ⊢
    obtain ⟨h3, _, h5⟩ := h2
    refine ⟨h3, ?_, fun a ha b hb e => ?_⟩
    · refine (insR_rises h hxs).imp ?_
      intro a b hab e
      rw [e, PD.lt_irrefl] at hab
      cases hab
    · rcases insR_mem.1 hb with rfl | hb
      · rw [e] at ha
        exact hxr ha
      · exact h5 a ha b hb e
/-- Texts of which none is there twice, sorted, rise. -/
theorem sort_rises {l : List ByteArray} (h : l.Nodup) : (sort l).Pairwise (fun a b => PD.lt a b = true) :=
  fold_rises l [] (by rw [List.append_nil]; exact h) .nil
/-- What rises already, with one more put so: the row that is sorted so far. -/
theorem sort_snoc (l : List ByteArray) (x : ByteArray) : sort (l ++ [x]) = insR (sort l) x := by
  rw [sort, List.foldl_append]; rfl
end PT
end Go.Proofs.YtdnobplhfbgbaaaGreatDoor
namespace Go.Proofs.YtdnobplhfbgbaaaGreatDoor
open Go.RowKit Go.Joins

/-- The cells of a node; of a row of nodes. -/
def nv (n : PT.N) : List Value := [.int .i64 n.kind, .int .i64 n.mode, .string n.body]
def ns (l : List PT.N) : List Value := l.flatMap nv
theorem ns_length (l : List PT.N) : (ns l).length = l.length * 3 := by
  induction l with
  | nil => rfl
  | cons e r ih => simp [ns, nv] at ih ⊢; omega
theorem ns_cons (n : PT.N) (r : List PT.N) : ns (n :: r) = .int .i64 n.kind :: .int .i64 n.mode :: .string n.body :: ns r := rfl
theorem ns_append (a b : List PT.N) : ns (a ++ b) = ns a ++ ns b := by simp [ns]
theorem ns_at : ∀ (l : List PT.N) (k : Nat) (n : PT.N), l[k]? = some n → (ns l)[k * 3]? = some (.int .i64 n.kind) ∧ (ns l)[k * 3 + 1]? = some (.int .i64 n.mode) ∧ (ns l)[k * 3 + 2]? = some (.string n.body)
  | [], k, n, h => by simp at h
  | x :: r, 0, n, h => by
    simp at h
    subst h
    exact ⟨rfl, rfl, rfl⟩
  | x :: r, k + 1, n, h => by
    have := ns_at r k n (by simpa using h)
    rw [ns_cons, show (k + 1) * 3 = k * 3 + 1 + 1 + 1 by omega]
    exact this
theorem ns_take (l : List PT.N) (k : Nat) : (ns l).take (k * 3) = ns (l.take k) := by
  induction l generalizing k with
  | nil => simp [ns]
  | cons n r ih =>
    cases k with
    | zero => simp [ns]
    | succ k => rw [ns_cons, show (k + 1) * 3 = k * 3 + 1 + 1 + 1 by omega, List.take_succ_cons, List.take_succ_cons, List.take_succ_cons, ih, List.take_succ_cons, ns_cons]
/-- A node turned: its three cells. -/
theorem ns_set : ∀ (l : List PT.N) (k : Nat) (n : PT.N), k < l.length → (((ns l).set (k * 3) (.int .i64 n.kind)).set (k * 3 + 1) (.int .i64 n.mode)).set (k * 3 + 2) (.string n.body) = ns (l.set k n)
  | [], k, n, h => by simp at h
  | x :: r, 0, n, _ => rfl
  | x :: r, k + 1, n, h => by
    have := ns_set r k n (by simpa using h)
    rw [ns_cons, show (k + 1) * 3 = k * 3 + 1 + 1 + 1 by omega]
    show _ = Value.int .i64 x.kind :: Value.int .i64 x.mode :: Value.string x.body :: ns (r.set k n)
    rw [← this]
    rfl
theorem ns_cell (l : List PT.N) : ∀ u ∈ ns l, u.oneCell' = true := by
  intro u hu
  obtain ⟨n, _, h⟩ := List.mem_flatMap.1 hu
  simp [nv] at h
  rcases h with rfl | rfl | rfl <;> rfl

/-- Which rows of nodes are handed about. -/
def FitN (l : List PT.N) : Prop := (∀ n ∈ l, I64 n.kind ∧ I64 n.mode ∧ n.body.size ≤ 60000) ∧ l.length ≤ 65536
/-- A row of nodes. -/
def Ts (w : World) (v : Value) (l : List PT.N) : Prop := (Sl w 3 v l.length (ns l) ∧ ∀ A n c, v = .slice A n c → n ≤ c) ∧ FitN l
theorem Ts.below {w w' : World} {v : Value} {l : List PT.N} (h : Ts w v l) (hb : Below w.heap.size w w') : Ts w' v l := ⟨⟨h.1.1.below hb, h.1.2⟩, h.2⟩
theorem Ts.form {w : World} {v : Value} {l : List PT.N} (h : Ts w v l) : ∃ A c, v = .slice A l.length c := by
  obtain ⟨⟨⟨A, c, hv, _⟩, _⟩, _⟩ := h
  exact ⟨A, c, hv⟩
theorem Ts.nil (w : World) : Ts w (.slice none 0 0) [] := ⟨⟨⟨none, 0, rfl, rfl, fun h => absurd h (by decide)⟩, fun A n c e => by cases e; exact Nat.le_refl _⟩, by simp, by decide⟩
theorem Ts.cap {w : World} {A : Option Addr} {n c : Nat} {l : List PT.N} (h : Ts w (.slice A n c) l) : n ≤ c := h.1.2 A n c rfl
theorem Ts.at {w : World} {A : Option Addr} {n c : Nat} {l : List PT.N} (h : Ts w (.slice A n c) l) (h0 : 0 < l.length) : ∃ b o, A = some ⟨b, o, none⟩ ∧ b < w.heap.size ∧ ∀ (j : Nat) (x : PT.N), l[j]? = some x → w.cell? ⟨b, o + j * 3, none⟩ = some (.int .i64 x.kind) ∧ w.cell? ⟨b, o + j * 3 + 1, none⟩ = some (.int .i64 x.mode) ∧ w.cell? ⟨b, o + j * 3 + 2, none⟩ = some (.string x.body) := by
  obtain ⟨A', c', hv, hl, hA⟩ := h.1.1
  injection hv with e1 e2 e3
  subst e1
  obtain ⟨b, o, e, hb, hc⟩ := hA h0
  refine ⟨b, o, e, hb, fun j x hj => ?_⟩
  have hlt : j < l.length := (List.getElem?_eq_some_iff.1 hj).1
  obtain ⟨c1, c2, c3⟩ := ns_at l j x hj
  refine ⟨(hc _ (by omega)).trans c1, ?_, ?_⟩
  · rw [Nat.add_assoc]
    exact (hc _ (by omega)).trans c2
  · rw [Nat.add_assoc]
    exact (hc _ (by omega)).trans c3

/-- A row of nodes of one's own. -/
def To (nt : TypeId) (w : World) (base : Nat) (v : Value) (l : List PT.N) : Prop := w.ownsRow base nt 3 v l.length (ns l)
theorem To.on {nt : TypeId} {w w' : World} {base : Nat} {v : Value} {l : List PT.N} (h : To nt w base v l) (hb : Below w.heap.size w w') : To nt w' base v l := by
  refine ⟨h.1, ?_⟩
  rcases h.2 with h0 | ⟨g, cap, cur, hv, hg, hh, hr⟩
  · exact .inl h0
  · exact .inr ⟨g, cap, cur, hv, hg, Bx.on (show Bx w g nt cur from hh) hb, hr⟩
theorem To.row {nt : TypeId} {w : World} {base : Nat} {v : Value} {l : List PT.N} (h : To nt w base v l) (hz : FitN l) : Ts w v l := ⟨⟨Sl.own h, fun A n c e => by obtain ⟨A', c', hv, hc⟩ := own_cap h; rw [hv] at e; cases e; exact hc⟩, hz⟩
theorem To.base {nt : TypeId} {w : World} {a b : Nat} {v : Value} {l : List PT.N} (h : To nt w b v l) (hab : a ≤ b) : To nt w a v l :=
  ⟨h.1, h.2.imp id fun ⟨g, cap, cur, a1, a2, a3⟩ => ⟨g, cap, cur, a1, Nat.le_trans hab a2, a3⟩⟩
/-- One cell of a row of one's own is another one. -/
theorem own_set {w : World} {base size n g c : Nat} {e : TypeId} {xs : List Value} (h : w.ownsRow base e size (.slice (some ⟨g, 0, none⟩) n c) n xs) (i : Nat) (u : Value) : (w.setCell ⟨g, i, none⟩ u).ownsRow base e size (.slice (some ⟨g, 0, none⟩) n c) n (xs.set i u) := by
  refine ⟨by rw [List.length_set]; exact h.1, ?_⟩
  rcases h.2 with ⟨hv, _⟩ | ⟨g', cap, cur, hv, hg, hh, hn, hm, hs, ht⟩
  · cases hv
  · injection hv with e1 e2 e3
    injection e1 with e1
    injection e1 with e1
    subst e1 e3
    refine .inr ⟨g, c, cur.setIfInBounds i u, rfl, hg, Bx.set (show Bx w g e cur from hh) i u, hn, hm, by simpa using hs, ?_⟩
    rw [Array.toList_setIfInBounds, List.take_set, ht]
/-- A node of a row of one's own is another one. -/
theorem To.set {nt : TypeId} {w : World} {base n g c : Nat} {l : List PT.N} (h : To nt w base (.slice (some ⟨g, 0, none⟩) n c) l) {k : Nat} (hn : l.length = n) (hk : k < n) (m : PT.N) :
    To nt (((w.setCell ⟨g, k * 3, none⟩ (.int .i64 m.kind)).setCell ⟨g, k * 3 + 1, none⟩ (.int .i64 m.mode)).setCell ⟨g, k * 3 + 2, none⟩ (.string m.body)) base (.slice (some ⟨g, 0, none⟩) n c) (l.set k m) := by
  subst hn
  have h1 := own_set (own_set (own_set h (k * 3) (.int .i64 m.kind)) (k * 3 + 1) (.int .i64 m.mode)) (k * 3 + 2) (.string m.body)
  rw [ns_set l k m hk] at h1
  unfold To
  rw [List.length_set]
  exact h1
end Go.Proofs.YtdnobplhfbgbaaaGreatDoor
namespace Go.Proofs.YtdnobplhfbgbaaaGreatDoor
open Go

namespace PT
def kindAt (t : List N) (k : Nat) : Int := match t[k]? with | some n => n.kind | none => 0
def bodyAt (t : List N) (k : Nat) : ByteArray := match t[k]? with | some n => n.body | none => { data := #[] }
theorem kindAt_at {t : List N} {k : Nat} {n : N} (h : t[k]? = some n) : kindAt t k = n.kind := by rw [kindAt, h]
theorem bodyAt_at {t : List N} {k : Nat} {n : N} (h : t[k]? = some n) : bodyAt t k = n.body := by rw [bodyAt, h]
/-- From a number of the document's (from one on) to a place. -/
def px (z : Int) : Nat := (z - 1).toNat
theorem px_succ (k : Nat) : px ((k + 1 : Nat) : Int) = k := by unfold px; omega
theorem ix_px (s : ByteArray) (z : Int) : ix (s, z) = px z := rfl
def last (l : List ByteArray) : ByteArray := l.getLast?.getD { data := #[] }
/-- The parts of a way, if it may be. -/
def pp (o : Bool) (s : ByteArray) : Option (List ByteArray) := if PN.is o s = true then some (PN.pt o s) else none
/-- The place of a way: its folder's number; nought and why not. -/
def place (t : List N) (l : List ByteArray) : Int × Int :=
  let w := walk t 0 l.dropLast
  if w.2 = 0 then (if kindAt t (px w.1) = 2 then (w.1, 0) else (0, 5)) else (0, w.2)

/-- What a walk over a good tree finds is there. -/
theorem walk_two (t : List N) (k : Nat) (l : List ByteArray) : (∃ j : Nat, walk t k l = (((j + 1 : Nat) : Int), 0)) ∨ ((walk t k l).1 = 0 ∧ (walk t k l).2 ≠ 0) := by
  induction l generalizing k with
  | nil => exact .inl ⟨k, rfl⟩
  | cons n r ih =>
    cases hn : (next t k n).1 with
    | none =>
      right
      rw [walk_cons_no hn]
      exact ⟨rfl, next_no hn⟩
    | some j => rw [walk_cons_yes hn]; exact ih j
theorem Fine.way_there {t : List N} (g : Fine t) {l : List ByteArray} {k : Nat} (h : Way t l k) : ∃ n, t[k]? = some n ∧ n.kind ≠ 0 := by
  cases h with
  | root =>
    obtain ⟨r, hr, hr2⟩ := g.root
    exact ⟨r, hr, by rw [hr2]; decide⟩
  | step _ he => exact g.there _ _ he
theorem Fine.walk_yes {t : List N} (g : Fine t) {l : List ByteArray} (h : (walk t 0 l).2 = 0) : ∃ (k : Nat) (n : N), walk t 0 l = (((k + 1 : Nat) : Int), 0) ∧ k < 9 ∧ t[k]? = some n ∧ n.kind ≠ 0 ∧ Way t l k := by
  rcases walk_two t 0 l with ⟨k, hk⟩ | ⟨_, h2⟩
  · have hw := walk_iff.1 hk
    obtain ⟨n, hn, hn0⟩ := g.way_there hw
    have := (List.getElem?_eq_some_iff.1 hn).1
    exact ⟨k, n, hk, by rw [← g.len]; exact this, hn, hn0, hw⟩
  · exact absurd h h2
theorem Fine.place_yes {t : List N} (g : Fine t) {l : List ByteArray} (h : (place t l).2 = 0) : ∃ (d : Nat) (n : N), place t l = (((d + 1 : Nat) : Int), 0) ∧ walk t 0 l.dropLast = (((d + 1 : Nat) : Int), 0) ∧ d < 9 ∧ t[d]? = some n ∧ n.kind = 2 ∧ Way t l.dropLast d := by
  unfold place at h ⊢
  simp only at h ⊢
  split at h
  · rename_i hw
    obtain ⟨k, n, h1, h2, h3, _, h5⟩ := g.walk_yes hw
    rw [h1] at h ⊢
    simp only [px_succ] at h ⊢
    split at h
    · rename_i hk
      simp only [if_pos, hk]
      rw [kindAt_at h3] at hk
      exact ⟨k, n, rfl, rfl, h2, h3, hk, h5⟩
    · cases h
  · rename_i hw
    exact absurd h hw
theorem last_append {l : List ByteArray} (h : l ≠ []) : l = l.dropLast ++ [last l] := by
  conv => lhs; rw [← List.dropLast_concat_getLast h]
  rw [last, List.getLast?_eq_some_getLast h]
  rfl

/-- The number of the first node that is none; nought, if there is none. -/
def free : List N → Nat → Int
  | [], _ => 0
  | n :: r, k => if n.kind = 0 then ((k + 1 : Nat) : Int) else free r (k + 1)
theorem free_yes : ∀ {t : List N} {k : Nat}, free t k ≠ 0 → ∃ (j : Nat) (n : N), free t k = ((k + j + 1 : Nat) : Int) ∧ t[j]? = some n ∧ n.kind = 0 ∧ j < t.length
  | [], k, h => absurd rfl h
  | n :: r, k, h => by
    rw [free] at h ⊢
    split
    · rename_i h0
      exact ⟨0, n, by simp, rfl, h0, by simp⟩
    · rename_i h0
      rw [if_neg h0] at h
      obtain ⟨j, m, h1, h2, h3, h4⟩ := free_yes h
      exact ⟨j + 1, m, by rw [h1]; congr 1; omega, by simpa using h2, h3, by simp; omega⟩
/-- Going on where none was found yet. -/
theorem free_skip : ∀ {t : List N} {k j : Nat}, (∀ (i : Nat) n, i < j → t[i]? = some n → n.kind ≠ 0) → free t k = free (t.drop j) (k + j)
  | t, k, 0, _ => by simp
  | [], k, j + 1, _ => by simp [free]
  | n :: r, k, j + 1, h => by
    rw [free, if_neg (h 0 n (by omega) rfl), List.drop_succ_cons, free_skip (t := r) (k := k + 1) (j := j) fun i m hi hm => h (i + 1) m (by omega) (by simpa using hm)]
    congr 1
    omega
theorem free_here {t : List N} {j : Nat} {n : N} (h : ∀ (i : Nat) m, i < j → t[i]? = some m → m.kind ≠ 0) (hn : t[j]? = some n) (h0 : n.kind = 0) : free t 0 = ((j + 1 : Nat) : Int) := by
  obtain ⟨hlt, rfl⟩ := List.getElem?_eq_some_iff.1 hn
  rw [free_skip h, List.drop_eq_getElem_cons hlt, free, if_pos h0]
  congr 1; omega
theorem free_no {t : List N} (h : ∀ (i : Nat) m, t[i]? = some m → m.kind ≠ 0) : free t 0 = 0 := by
  rw [free_skip (j := t.length) fun i m _ hm => h i m hm, List.drop_of_length_le (Nat.le_refl _)]
  rfl

/-- Make. -/
def badMake (kind mode ino : Int) : Bool := !(decide (kind = 1) || decide (kind = 2)) || (decide (mode < 0) || (decide (255 < mode) || (decide (ino < 0) || decide (9 < ino))))
def numOf (t : List N) (ino : Int) : Int := if ino = 0 then free t 0 else ino
def make3 (t : List N) (kind mode ino : Int) : Option (List N) → List N × Int
  | none => (t, 8)
  | some x => (x.set (px ino) ⟨kind, mode, { data := #[] }⟩, 0)
def make2 (t : List N) (l : List ByteArray) (kind mode ino : Int) : List N × Int :=
  if l = [] then (t, 3)
  else if (place t l).2 ≠ 0 then (t, (place t l).2)
  else if PD.has (names t (px (place t l).1)) (last l) = true then (t, 3)
  else if 0 < ino ∧ kindAt t (px ino) ≠ 0 then (t, 3)
  else if numOf t ino = 0 then (t, 8)
  else make3 t kind mode (numOf t ino) (put t (px (place t l).1) (last l, numOf t ino))
def make (t : List N) (p : Option (List ByteArray)) (kind mode ino : Int) : List N × Int := match p with
  | none => (t, 1)
  | some l => if badMake kind mode ino = true then (t, 1) else make2 t l kind mode ino
/-- Link. -/
def link3 (t : List N) : Option (List N) → List N × Int
  | none => (t, 8)
  | some x => (x, 0)
def link2 (t : List N) (f l : List ByteArray) : List N × Int :=
  if (walk t 0 f).2 ≠ 0 then (t, (walk t 0 f).2)
  else if kindAt t (px (walk t 0 f).1) = 2 then (t, 4)
  else if l = [] then (t, 3)
  else if (place t l).2 ≠ 0 then (t, (place t l).2)
  else if PD.has (names t (px (place t l).1)) (last l) = true then (t, 3)
  else link3 t (put t (px (place t l).1) (last l, (walk t 0 f).1))
def link (t : List N) (p q : Option (List ByteArray)) : List N × Int := match p, q with
  | some f, some l => link2 t f l
  | _, _ => (t, 1)
/-- Drop. -/
def drop2 (t : List N) (l : List ByteArray) : List N × Int :=
  if (walk t 0 l).2 ≠ 0 then (t, (walk t 0 l).2)
  else if px (walk t 0 l).1 = 0 then (t, 4)
  else if kindAt t (px (walk t 0 l).1) = 2 ∧ bodyAt t (px (walk t 0 l).1) ≠ { data := #[] } then (t, 6)
  else if named (take t (px (place t l).1) (last l)) (px (walk t 0 l).1) = 0 then ((take t (px (place t l).1) (last l)).set (px (walk t 0 l).1) zero, 0)
  else (take t (px (place t l).1) (last l), 0)
def drop (t : List N) (p : Option (List ByteArray)) : List N × Int := match p with
  | none => (t, 1)
  | some l => drop2 t l
/-- Whether folder d lies in folder k, or is it, by at most f steps. -/
def inB (t : List N) : Nat → Nat → Nat → Bool
  | 0, _, _ => false
  | f + 1, d, k => decide (d = k) || (names t k).any fun e => decide (kindAt t (ix e) = 2) && inB t f d (ix e)
/-- Move. -/
def move2 (t : List N) (f l : List ByteArray) : List N × Int :=
  if (walk t 0 f).2 ≠ 0 then (t, (walk t 0 f).2)
  else if px (walk t 0 f).1 = 0 then (t, 4)
  else if l = [] then (t, 3)
  else if (place t l).2 ≠ 0 then (t, (place t l).2)
  else if (place t f).1 = (place t l).1 ∧ last f = last l then (t, 0)
  else if PD.has (names t (px (place t l).1)) (last l) = true then (t, 3)
  else if kindAt t (px (walk t 0 f).1) = 2 ∧ inB t 9 (px (place t l).1) (px (walk t 0 f).1) = true then (t, 7)
  else link3 t (put (take t (px (place t f).1) (last f)) (px (place t l).1) (last l, (walk t 0 f).1))
def move (t : List N) (p q : Option (List ByteArray)) : List N × Int := match p, q with
  | some f, some l => move2 t f l
  | _, _ => (t, 1)
/-- Just n bytes of a body: cut, or noughts behind it. -/
def longL (s : List Nat) (n : Nat) : List Nat := s.take n ++ List.replicate (n - s.length) 0
def long (s : ByteArray) (n : Nat) : ByteArray := str (longL (nums s) n)
/-- A text over a body, from off on. -/
def over (s : ByteArray) (off : Nat) (x : ByteArray) : ByteArray := str ((longL (nums s) (max s.size (off + x.size))).take off ++ (nums x ++ (longL (nums s) (max s.size (off + x.size))).drop (off + x.size)))
def write (t : List N) (p : Option (List ByteArray)) (off : Int) (x : ByteArray) : List N × Int := match p with
  | none => (t, 1)
  | some l =>
    if (walk t 0 l).2 ≠ 0 then (t, (walk t 0 l).2)
    else if kindAt t (px (walk t 0 l).1) = 2 then (t, 4)
    else if off < 0 then (t, 1)
    else if 120 < off ∨ 120 - off < (x.size : Int) then (t, 8)
    else if x.size = 0 then (t, 0)
    else match t[px (walk t 0 l).1]? with
      | none => (t, 0)
      | some n => (t.set (px (walk t 0 l).1) ⟨n.kind, n.mode, over n.body off.toNat x⟩, 0)
def cut (t : List N) (p : Option (List ByteArray)) (size : Int) : List N × Int := match p with
  | none => (t, 1)
  | some l =>
    if (walk t 0 l).2 ≠ 0 then (t, (walk t 0 l).2)
    else if kindAt t (px (walk t 0 l).1) = 2 then (t, 4)
    else if size < 0 then (t, 1)
    else if 120 < size then (t, 8)
    else match t[px (walk t 0 l).1]? with
      | none => (t, 0)
      | some n => (t.set (px (walk t 0 l).1) ⟨n.kind, n.mode, long n.body size.toNat⟩, 0)
def mode (t : List N) (p : Option (List ByteArray)) (m : Int) : List N × Int := match p with
  | none => (t, 1)
  | some l =>
    if (walk t 0 l).2 ≠ 0 then (t, (walk t 0 l).2)
    else if m < 0 ∨ 255 < m then (t, 1)
    else match t[px (walk t 0 l).1]? with
      | none => (t, 0)
      | some n => (t.set (px (walk t 0 l).1) ⟨n.kind, m, n.body⟩, 0)
end PT
end Go.Proofs.YtdnobplhfbgbaaaGreatDoor
namespace Go.Proofs.YtdnobplhfbgbaaaGreatDoor
open Go

namespace PT
theorem shape_fit {n : N} (h : shape n) : I64 n.kind ∧ I64 n.mode ∧ n.body.size ≤ 60000 := by
  rcases h with rfl | ⟨h1, h2, h3, h4⟩
  · exact ⟨by simp [I64, zero], by simp [I64, zero], by decide⟩
  · refine ⟨?_, by simp [I64]; omega, by omega⟩
    rcases h1 with h1 | ⟨h1, _⟩ <;> rw [h1] <;> simp [I64]
theorem Fine.fit {t : List N} (g : Fine t) : FitN t := by
  refine ⟨fun n hn => ?_, by rw [g.len]; decide⟩
  obtain ⟨k, hk⟩ := List.mem_iff_getElem?.1 hn
  exact shape_fit (g.shape k n hk)
theorem fitN_set {t : List N} {k : Nat} {n : N} (h : FitN t) (hn : I64 n.kind ∧ I64 n.mode ∧ n.body.size ≤ 60000) : FitN (t.set k n) := by
  refine ⟨fun m hm => ?_, by rw [List.length_set]; exact h.2⟩
  rcases List.mem_or_eq_of_mem_set hm with hm | rfl
  · exact h.1 m hm
  · exact hn
theorem fitN_names {t : List N} {k : Nat} {n : N} (h : FitN t) (hk : t[k]? = some n) (l : List E) : FitN (t.set k (withNames n l)) := by
  have hn := h.1 n (List.mem_of_getElem? hk)
  have := PD.put_size l
  exact fitN_set h ⟨hn.1, hn.2.1, show (PD.put l).size ≤ 60000 by omega⟩
theorem put_fit {t x : List N} {d : Nat} {e : E} (h : FitN t) (hp : put t d e = some x) : FitN x ∧ x.length = t.length := by
  unfold put at hp
  split at hp
  · cases hp
  · rename_i n hn
    split at hp
    · injection hp with hp
      subst hp
      exact ⟨fitN_names h hn _, List.length_set⟩
    · cases hp
theorem take_fit {t : List N} {d : Nat} {s : ByteArray} (h : FitN t) : FitN (take t d s) ∧ (take t d s).length = t.length := by
  unfold take
  split
  · exact ⟨h, rfl⟩
  · rename_i n hn
    exact ⟨fitN_names h hn _, List.length_set⟩

/-- The last step of a way that is found. -/
theorem Fine.walk_last {t : List N} (g : Fine t) {l : List ByteArray} (h : (walk t 0 l).2 = 0) (h0 : px (walk t 0 l).1 ≠ 0) : ∃ (d : Nat) (n nk : N) (e : E), l ≠ [] ∧ place t l = (((d + 1 : Nat) : Int), 0) ∧ d < 9 ∧ t[d]? = some n ∧ n.kind = 2 ∧ e ∈ ents n ∧ e.1 = last l ∧ walk t 0 l = (((ix e + 1 : Nat) : Int), 0) ∧ t[ix e]? = some nk ∧ nk.kind ≠ 0 ∧ ix e < 9 := by
  have hl : l ≠ [] := fun e => by
    subst e
    exact h0 rfl
  have hw := last_append hl
  have hap := walk_append t l.dropLast [last l] 0
  rw [← hw] at hap
  rcases Classical.em ((walk t 0 l.dropLast).2 = 0) with hz | hz
  · rw [if_pos hz] at hap
    obtain ⟨d, n, hd, hd9, hn, _, _⟩ := g.walk_yes hz
    rw [hd] at hap
    have hpx : ((((d + 1 : Nat) : Int), (0 : Int)).1 - 1).toNat = d := by simp
    rw [hpx] at hap
    cases hx : (next t d (last l)).1 with
    | none =>
      rw [walk_cons_no hx] at hap
      rw [hap] at h
      exact absurd h (next_no hx)
    | some j =>
      rw [walk_cons_yes hx, walk_nil] at hap
      obtain ⟨e, he, h1, h2⟩ := next_yes hx
      subst h2
      obtain ⟨n', hn', hk⟩ := names_kind he
      rw [hn] at hn'
      injection hn' with hn'
      subst hn'
      obtain ⟨nk, hnk, hnk0⟩ := g.there d e he
      rw [names_at hn] at he
      refine ⟨d, n, nk, e, hl, ?_, hd9, hn, hk, he, h1, hap, hnk, hnk0, ix_lt (t := t) (k := d) (by rw [names_at hn]; exact he)⟩
      unfold place
      simp only
      rw [if_pos hz, hd]
      simp only [px_succ]
      rw [if_pos (by rw [kindAt_at hn]; exact hk)]
  · rw [if_neg hz] at hap
    rw [hap] at h
    exact absurd h hz

theorem make_fine {t : List N} (g : Fine t) (p : Option (List ByteArray)) (kind mode ino : Int) : Fine (make t p kind mode ino).1 := by
  unfold make
  split
  · exact g
  · rename_i l
    split
    · exact g
    · rename_i hbad
      unfold make2 make3
      split
      · exact g
      · split
        · exact g
        · rename_i hpl
          split
          · exact g
          · rename_i hno
            split
            · exact g
            · rename_i hino
              split
              · exact g
              · rename_i hi0
                split
                · exact g
                · rename_i x hp
                  obtain ⟨d, n, hd, _, hd9, hn, hk, _⟩ := g.place_yes (Classical.not_not.1 hpl)
                  rw [hd] at hp hno
                  simp only [px_succ] at hp hno
                  simp only [badMake, Bool.or_eq_true, Bool.not_eq_true', Bool.or_eq_false_iff, decide_eq_true_eq, decide_eq_false_iff_not, not_or, not_and, Classical.not_not, Int.not_lt] at hbad
                  obtain ⟨hb1, hb2, hb3, hb4, hb5⟩ := hbad
                  have hkk : kind = 1 ∨ kind = 2 := by
                    rcases Classical.em (kind = 1) with h | h
                    · exact .inl h
                    · exact .inr (hb1 h)
                  obtain ⟨f1, f2, f3⟩ := fresh hkk ⟨hb2, hb3⟩
                  have hz : ∃ z : N, t[px (numOf t ino)]? = some z ∧ z.kind = 0 := by
                    rcases Classical.em (ino = 0) with h | h
                    · rw [numOf, if_pos h] at hi0 ⊢
                      obtain ⟨j, m, h1, h2, h3, _⟩ := free_yes hi0
                      rw [h1, Nat.zero_add, px_succ]
                      exact ⟨m, h2, h3⟩
                    · rw [numOf, if_neg h]
                      obtain ⟨m, hm⟩ : ∃ m, t[px ino]? = some m := ⟨_, List.getElem?_eq_getElem (by rw [g.len]; unfold px; omega)⟩
                      refine ⟨m, hm, ?_⟩
                      rw [kindAt_at hm] at hino
                      exact Classical.not_not.1 fun e => hino ⟨by omega, e⟩
                  obtain ⟨z, hz1, hz2⟩ := hz
                  rw [names_at hn] at hno
                  exact g.made hn hk (by simpa using hno) hp hz1 hz2 f1 f2 f3
theorem Fine.file_kind {t : List N} (g : Fine t) {k : Nat} {n : N} (h : t[k]? = some n) (h0 : n.kind ≠ 0) (h2 : ¬ n.kind = 2) : n.kind = 1 := by
  rcases g.shape k n h with rfl | ⟨h1, _⟩
  · exact absurd rfl h0
  · rcases h1 with h1 | ⟨h1, _⟩
    · exact h1
    · exact absurd h1 h2
theorem link_fine {t : List N} (g : Fine t) (p q : Option (List ByteArray)) : Fine (link t p q).1 := by
  unfold link
  split
  · rename_i f l
    unfold link2 link3
    split
    · exact g
    · rename_i hw
      split
      · exact g
      · rename_i hk2
        split
        · exact g
        · split
          · exact g
          · rename_i hpl
            split
            · exact g
            · rename_i hno
              split
              · exact g
              · rename_i x hp
                obtain ⟨d, n, hd, _, hd9, hn, hk, _⟩ := g.place_yes (Classical.not_not.1 hpl)
                obtain ⟨k, nk, hwk, _, hnk, hnk0, _⟩ := g.walk_yes (Classical.not_not.1 hw)
                rw [hd] at hp hno
                rw [hwk] at hp hk2
                simp only [px_succ] at hp hno hk2
                rw [kindAt_at hnk] at hk2
                rw [names_at hn] at hno
                have hix : ix (last l, ((k + 1 : Nat) : Int)) = k := px_succ k
                exact g.linked hn hk (by simpa using hno) hp (by rw [hix]; exact hnk) (g.file_kind hnk hnk0 hk2)
  · exact g
theorem drop_fine {t : List N} (g : Fine t) (p : Option (List ByteArray)) : Fine (drop t p).1 := by
  unfold drop
  split
  · exact g
  · rename_i l
    unfold drop2
    split
    · exact g
    · rename_i hw
      split
      · exact g
      · rename_i h0
        split
        · exact g
        · rename_i he2
          obtain ⟨d, n, nk, e, hl, hpl, hd9, hn, hk, he, he1, hwk, hnk, hnk0, _⟩ := g.walk_last (Classical.not_not.1 hw) h0
          rw [hpl, hwk]
          rw [hwk] at he2
          simp only [px_succ] at he2 ⊢
          have hne : ents nk = [] := by
            rw [kindAt_at hnk, bodyAt_at hnk] at he2
            rcases Classical.em (nk.kind = 2) with h2 | h2
            · have hb : nk.body = { data := #[] } := Classical.not_not.1 fun e => he2 ⟨h2, e⟩
              rw [ents, if_pos h2, hb]
              exact (PD.took_some nil_took).2
            · exact ents_none h2
          have := g.dropped hn he hnk hne
          rw [he1] at this
          split <;> rename_i hz
          · rw [if_pos hz] at this; exact this
          · rw [if_neg hz] at this; exact this

/-- What lies in a folder, step by step from it on. -/
theorem In.from {t : List N} {a : Nat} {e : E} (he : e ∈ names t a) {d : Nat} (h : In t (ix e) d) : In t a d := by
  induction h with
  | self => exact .step .self he
  | step _ hx ih => exact .step ih hx
theorem In.first {t : List N} {a d : Nat} (h : In t a d) : d = a ∨ ∃ e, e ∈ names t a ∧ In t (ix e) d := by
  induction h with
  | self => exact .inl rfl
  | @step k e _ he ih =>
    right
    rcases ih with rfl | ⟨x, hx, hin⟩
    · exact ⟨e, he, .self⟩
    · exact ⟨x, hx, .step hin he⟩
theorem In.folder {t : List N} {a d : Nat} (h : In t a d) (hd : kindAt t d = 2) : kindAt t a = 2 := by
  rcases h.first with rfl | ⟨e, he, _⟩
  · exact hd
  · obtain ⟨n, hn, hk⟩ := names_kind he
    rw [kindAt_at hn]; exact hk
theorem Fine.inB_iff {t : List N} (g : Fine t) {d : Nat} (hd : kindAt t d = 2) : ∀ (f : Nat) (l : List Nat) (k : Nat), Chain t 0 l k → 9 ≤ l.length + f → (inB t f d k = true ↔ In t k d)
  | 0, l, k, hc, hl => by
    have := g.depth hc
    omega
  | f + 1, l, k, hc, hl => by
    rw [inB, Bool.or_eq_true, decide_eq_true_eq, List.any_eq_true]
    constructor
    · rintro (rfl | ⟨e, he, hx⟩)
      · exact .self
      · rw [Bool.and_eq_true, decide_eq_true_eq] at hx
        exact In.from he ((g.inB_iff hd f (k :: l) (ix e) (.step hc he) (by simp; omega)).1 hx.2)
    · intro h
      rcases h.first with rfl | ⟨e, he, hin⟩
      · exact .inl rfl
      · right
        refine ⟨e, he, ?_⟩
        rw [Bool.and_eq_true, decide_eq_true_eq]
        exact ⟨hin.folder hd, (g.inB_iff hd f (k :: l) (ix e) (.step hc he) (by simp; omega)).2 hin⟩
theorem Fine.chain_of {t : List N} (g : Fine t) {k : Nat} {n : N} (h : t[k]? = some n) (h0 : n.kind ≠ 0) : ∃ l, Chain t 0 l k := Chain.of (g.reach k n h h0)
theorem move_fine {t : List N} (g : Fine t) (p q : Option (List ByteArray)) : Fine (move t p q).1 := by
  unfold move
  split
  · rename_i f l
    unfold move2 link3
    split
    · exact g
    · rename_i hw
      split
      · exact g
      · rename_i h0
        split
        · exact g
        · split
          · exact g
          · rename_i hpl
            split
            · exact g
            · split
              · exact g
              · rename_i hno
                split
                · exact g
                · rename_i hin
                  split
                  · exact g
                  · rename_i x hp
                    obtain ⟨d, n, nk, e, hl, hpf, hd9, hn, hk, he, he1, hwk, hnk, hnk0, hix9⟩ := g.walk_last (Classical.not_not.1 hw) h0
                    obtain ⟨d2, n2, hd2, _, hd29, hn2, hk2, _⟩ := g.place_yes (Classical.not_not.1 hpl)
                    rw [hpf, hd2, hwk, ← he1] at hp
                    rw [hd2] at hno hin
                    rw [hwk] at hin
                    simp only [px_succ] at hp hno hin
                    have hez : e.2 = ((ix e + 1 : Nat) : Int) := ix_int (t := t) (k := d) (by rw [names_at hn]; exact he)
                    rw [← hez] at hp
                    refine g.moved hn he hn2 hk2 (by simpa using hno) hnk (fun hi => hin ?_) hp
                    have hd2k : kindAt t d2 = 2 := by rw [kindAt_at hn2]; exact hk2
                    have hkk := hi.folder hd2k
                    obtain ⟨c, hc⟩ := g.chain_of hnk hnk0
                    exact ⟨hkk, (g.inB_iff hd2k 9 c (ix e) hc (by omega)).2 hi⟩
  · exact g
theorem longL_length (s : List Nat) (n : Nat) : (longL s n).length = n := by
  unfold longL
  rw [List.length_append, List.length_take, List.length_replicate]
  omega
theorem long_size (s : ByteArray) (n : Nat) : (long s n).size = n := by rw [long, PD.str_size, longL_length]
theorem over_size (s x : ByteArray) (off : Nat) : (over s off x).size = max s.size (off + x.size) := by
  rw [over, PD.str_size, List.length_append, List.length_append, List.length_take, List.length_drop, longL_length, nums_length]
  omega
theorem Fine.same_file {t : List N} (g : Fine t) {k : Nat} {n : N} (h : t[k]? = some n) (h1 : n.kind = 1) {b : ByteArray} (hb : b.size ≤ 120) : Fine (t.set k ⟨n.kind, n.mode, b⟩) := by
  refine g.same h rfl ?_ ?_
  · rw [ents_none (n := n) (by rw [h1]; decide), ents_none (n := ⟨n.kind, n.mode, b⟩) (show ¬ n.kind = 2 by rw [h1]; decide)]
  · rcases g.shape k n h with rfl | ⟨_, h3, h4, _⟩
    · cases h1
    · exact .inr ⟨.inl h1, h3, h4, hb⟩
theorem write_fine {t : List N} (g : Fine t) (p : Option (List ByteArray)) (off : Int) (x : ByteArray) : Fine (write t p off x).1 := by
  unfold write
  split
  · exact g
  · rename_i l
    split
    · exact g
    · rename_i hw
      split
      · exact g
      · rename_i hk2
        split
        · exact g
        · rename_i ho
          split
          · exact g
          · rename_i h8
            split
            · exact g
            · split
              · exact g
              · rename_i n hn
                obtain ⟨k, nk, hwk, _, hnk, hnk0, _⟩ := g.walk_yes (Classical.not_not.1 hw)
                rw [hwk] at hk2 hn ⊢
                simp only [px_succ] at hk2 hn ⊢
                rw [hnk] at hn
                injection hn with hn
                subst hn
                rw [kindAt_at hnk] at hk2
                have h1 := g.file_kind hnk hnk0 hk2
                have hs : nk.body.size ≤ 120 := by
                  rcases g.shape k nk hnk with rfl | ⟨_, _, _, h⟩
                  · decide
                  · exact h
                exact g.same_file hnk h1 (by rw [over_size]; omega)
theorem cut_fine {t : List N} (g : Fine t) (p : Option (List ByteArray)) (size : Int) : Fine (cut t p size).1 := by
  unfold cut
  split
  · exact g
  · rename_i l
    split
    · exact g
    · rename_i hw
      split
      · exact g
      · rename_i hk2
        split
        · exact g
        · split
          · exact g
          · rename_i h8
            split
            · exact g
            · rename_i n hn
              obtain ⟨k, nk, hwk, _, hnk, hnk0, _⟩ := g.walk_yes (Classical.not_not.1 hw)
              rw [hwk] at hk2 hn ⊢
              simp only [px_succ] at hk2 hn ⊢
              rw [hnk] at hn
              injection hn with hn
              subst hn
              rw [kindAt_at hnk] at hk2
              exact g.same_file hnk (g.file_kind hnk hnk0 hk2) (by rw [long_size]; omega)
theorem mode_fine {t : List N} (g : Fine t) (p : Option (List ByteArray)) (m : Int) : Fine (mode t p m).1 := by
  unfold mode
  split
  · exact g
  · rename_i l
    split
    · exact g
    · rename_i hw
      split
      · exact g
      · rename_i hm
        split
        · exact g
        · rename_i n hn
          obtain ⟨k, nk, hwk, _, hnk, hnk0, _⟩ := g.walk_yes (Classical.not_not.1 hw)
          rw [hwk] at hn ⊢
          simp only [px_succ] at hn ⊢
          rw [hnk] at hn
          injection hn with hn
          subst hn
          refine g.same hnk rfl rfl ?_
          rcases g.shape k nk hnk with rfl | ⟨h1, _, _, h4⟩
          · exact absurd rfl hnk0
          · exact .inr ⟨h1, by simp only; omega, by simp only; omega, h4⟩
end PT
end Go.Proofs.YtdnobplhfbgbaaaGreatDoor
namespace Go.Proofs.YtdnobplhfbgbaaaGreatDoor
open Go

namespace PT
/-- All names are such as anybody may give. -/
def Plain (t : List N) : Prop := ∀ n ∈ t, ∀ e ∈ ents n, PN.may e.1.data.toList = true
def Anyone (p : Option (List ByteArray)) : Prop := ∀ l, p = some l → ∀ x ∈ l, PN.may x.data.toList = true
theorem plain_set {t : List N} (h : Plain t) {k : Nat} {n : N} (hn : ∀ e ∈ ents n, PN.may e.1.data.toList = true) : Plain (t.set k n) := by
  intro m hm
  rcases List.mem_or_eq_of_mem_set hm with h1 | rfl
  · exact h m h1
  · exact hn
theorem ents_with (n : N) (l : List E) : ∀ e ∈ ents (withNames n l), e ∈ l := by
  intro e he
  unfold ents at he
  split at he
  · have he' : e ∈ PD.tl (PD.put l) := he
    by_cases hok : PD.ok l = true
    · rw [(PD.took_some (PD.took_put hok)).2] at he'
      exact he'
    · rw [PD.put, if_neg hok, (PD.took_some nil_took).2] at he'
      cases he'
  · cases he
theorem ents_empty (k m : Int) : ents ⟨k, m, { data := #[] }⟩ = [] := by
  unfold ents
  split
  · exact (PD.took_some nil_took).2
  · rfl
theorem rwth_mem {l : List E} {e x : E} (h : x ∈ PD.rwth l e) : x = e ∨ x ∈ l := by
  unfold PD.rwth at h
  split at h
  · exact .inr h
  · rcases List.mem_append.1 h with h1 | h1
    · exact .inr (List.mem_of_mem_take h1)
    · rcases List.mem_cons.1 h1 with h2 | h2
      · exact .inl h2
      · exact .inr (List.mem_of_mem_drop h2)
theorem rless_mem {l : List E} {s : ByteArray} {x : E} (h : x ∈ PD.rless l s) : x ∈ l := by
  unfold PD.rless at h
  split at h
  · exact (List.mem_filter.1 h).1
  · exact h
theorem put_plain {t x : List N} (h : Plain t) {d : Nat} {e : E} (he : PN.may e.1.data.toList = true) (hp : put t d e = some x) : Plain x := by
  unfold put at hp
  split at hp
  · cases hp
  · rename_i n hn
    split at hp
    · injection hp with hp
      subst hp
      refine plain_set h fun y hy => ?_
      rcases rwth_mem (ents_with _ _ y hy) with rfl | hy
      · exact he
      · exact h n (List.mem_of_getElem? hn) y hy
    · cases hp
theorem take_plain {t : List N} (h : Plain t) (d : Nat) (s : ByteArray) : Plain (take t d s) := by
  unfold take
  split
  · exact h
  · rename_i n hn
    exact plain_set h fun y hy => h n (List.mem_of_getElem? hn) y (rless_mem (ents_with _ _ y hy))
theorem last_may {l : List ByteArray} (h : ∀ x ∈ l, PN.may x.data.toList = true) (hne : l ≠ []) : PN.may (last l).data.toList = true := by
  apply h
  rw [last, List.getLast?_eq_some_getLast hne]
  exact List.getLast_mem hne
theorem make_plain {t : List N} (h : Plain t) {p : Option (List ByteArray)} (hp : Anyone p) (kind mode ino : Int) : Plain (make t p kind mode ino).1 := by
  unfold make
  split
  · exact h
  · rename_i l
    split
    · exact h
    · unfold make2
      split
      · exact h
      · rename_i hne
        split
        · exact h
        split
        · exact h
        split
        · exact h
        split
        · exact h
        · unfold make3
          split
          · exact h
          · rename_i x hx
            refine plain_set (put_plain h ?_ hx) fun e he => ?_
            · exact last_may (hp l rfl) hne
            · rw [ents_empty] at he
              cases he
theorem link_plain {t : List N} (h : Plain t) (p : Option (List ByteArray)) {q : Option (List ByteArray)} (hq : Anyone q) : Plain (link t p q).1 := by
  unfold link
  split
  · rename_i f l
    unfold link2
    split
    · exact h
    split
    · exact h
    split
    · exact h
    rename_i hne
    split
    · exact h
    split
    · exact h
    unfold link3
    split
    · exact h
    · rename_i x hx
      exact put_plain h (last_may (hq l rfl) hne) hx
  · exact h
theorem drop_plain {t : List N} (h : Plain t) (p : Option (List ByteArray)) : Plain (drop t p).1 := by
  unfold drop
  split
  · exact h
  · unfold drop2
    split
    · exact h
    split
    · exact h
    split
    · exact h
    split
    · exact plain_set (take_plain h _ _) fun e he => by rw [zero, ents_empty] at he; cases he
    · exact take_plain h _ _
theorem move_plain {t : List N} (h : Plain t) (p : Option (List ByteArray)) {q : Option (List ByteArray)} (hq : Anyone q) : Plain (move t p q).1 := by
  unfold move
  split
  · rename_i f l
    unfold move2
    split
    · exact h
    split
    · exact h
    split
    · exact h
    rename_i hne
    split
    · exact h
    split
    · exact h
    split
    · exact h
    split
    · exact h
    unfold link3
    split
    · exact h
    · rename_i x hx
      exact put_plain (take_plain h _ _) (last_may (hq l rfl) hne) hx
  · exact h
theorem write_plain {t : List N} (h : Plain t) (p : Option (List ByteArray)) (off : Int) (x : ByteArray) : Plain (write t p off x).1 := by
  unfold write
  split
  · exact h
  · split
    · exact h
    split
    · exact h
    rename_i hk
    split
    · exact h
    split
    · exact h
    split
    · exact h
    split
    · exact h
    · rename_i n hn
      rw [kindAt_at hn] at hk
      exact plain_set h fun e he => by rw [ents, if_neg hk] at he; cases he
theorem cut_plain {t : List N} (h : Plain t) (p : Option (List ByteArray)) (size : Int) : Plain (cut t p size).1 := by
  unfold cut
  split
  · exact h
  · split
    · exact h
    split
    · exact h
    rename_i hk
    split
    · exact h
    split
    · exact h
    split
    · exact h
    · rename_i n hn
      rw [kindAt_at hn] at hk
      exact plain_set h fun e he => by rw [ents, if_neg hk] at he; cases he
theorem mode_plain {t : List N} (h : Plain t) (p : Option (List ByteArray)) (m : Int) : Plain (mode t p m).1 := by
  unfold mode
  split
  · exact h
  · split
    · exact h
    split
    · exact h
    split
    · exact h
    · rename_i n hn
      exact plain_set h (h n (List.mem_of_getElem? hn))
theorem new_plain : Plain new := by
  intro n hn e he
  simp only [new, List.mem_cons, List.mem_replicate] at hn
  rcases hn with rfl | ⟨_, rfl⟩
  · rw [ents_empty] at he; cases he
  · rw [zero, ents_empty] at he; cases he
theorem pp_anyone (s : ByteArray) : Anyone (pp false s) := by
  intro l hl x hx
  unfold pp at hl
  split at hl
  · rename_i hi
    injection hl with hl
    subst hl
    have := (PN.is_some hi).2.2 x hx
    simpa [PN.ok] using this
  · cases hl
/-- A tree that may be, of such names alone. -/
structure Good (t : List N) : Prop where
  fine : Fine t
  plain : Plain t
theorem new_good : Good new := ⟨new_fine, new_plain⟩
end PT
end Go.Proofs.YtdnobplhfbgbaaaGreatDoor
