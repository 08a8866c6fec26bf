/-
  Plain: each way finds its node; how many ways a node has; a way is found name by name.
-/
import Derived.Test.YtniegpdllijjfaaGreatDoorVj
namespace Go.Proofs.YtniegpdllijjfaaGreatDoor
open Go.RowKit Go.Joins

namespace PT
theorem Good.way_may {t : List N} (g : Good t) {l : List ByteArray} {k : Nat} (h : Way t l k) : ∀ x ∈ l, PN.ok false x.data.toList = true := by
  induction h with
  | root => intro x hx; cases hx
  | step _ he ih =>
    intro x hx
    rcases List.mem_append.1 hx with hx | hx
    · exact ih x hx
    · rw [List.mem_singleton] at hx
      subst hx
      obtain ⟨n, hn, hs⟩ := names_some he
      rw [hs] at he
      simpa [PN.ok] using g.plain n (List.mem_of_getElem? hn) _ he
theorem Good.find_way {t : List N} (g : Good t) {l : List ByteArray} {k : Nat} (h : Way t l k) : find t (pp false (PN.path l)) = (((k + 1 : Nat) : Int), 0) := by
  have h1 := g.way_may h
  have h8 := g.fine.way_length h
  have hi := PN.is_path (o := false) l h1
  rw [decide_eq_true h8] at hi
  rw [pp_yes hi, PN.pt_path l h1 h8]
  exact h.walk
theorem waysI_at {t : List N} (k : Nat) : waysI t ((k + 1 : Nat) : Int) = if k = 0 then [PN.path []] else dways t k := by
  unfold waysI
  by_cases h : k = 0
  · rw [if_pos (by omega), if_pos h]
  · rw [if_neg (by omega), if_neg (by omega), if_neg h, px_succ]
theorem Fine.ways_links {t : List N} (g : Fine t) (k : Nat) : (waysI t ((k + 1 : Nat) : Int)).length = linksI t ((k + 1 : Nat) : Int) := by
  rw [waysI_at]
  split
  · rename_i h
    subst h
    exact (linksI_root t).symm
  · rename_i h
    rw [dways_length g, linksI_named t (by omega)]
theorem Fine.ways_mem {t : List N} (g : Fine t) {k : Nat} {s : ByteArray} (h : s ∈ waysI t ((k + 1 : Nat) : Int)) : ∃ l, s = PN.path l ∧ Way t l k := by
  rw [waysI_at] at h
  split at h
  · rename_i h0
    subst h0
    rw [List.mem_singleton] at h
    exact ⟨[], h, .root⟩
  · obtain ⟨l, h1, h2, _⟩ := dways_mem g h
    exact ⟨l, h1, h2⟩
theorem Fine.ways_rise {t : List N} (g : Fine t) (k : Nat) : (waysI t ((k + 1 : Nat) : Int)).Pairwise fun a b => PD.lt a b = true := by
  rw [waysI_at]
  split
  · exact List.pairwise_singleton _ _
  · exact dways_rises g k
theorem Fine.ways_none {t : List N} (g : Fine t) {k : Nat} {n : N} (h : t[k]? = some n) : (waysI t ((k + 1 : Nat) : Int)).length = 0 ↔ n.kind = 0 := by
  rw [waysI_at]
  split
  · rename_i h0
    subst h0
    obtain ⟨r, hr, hr2⟩ := g.root
    rw [hr] at h
    injection h with h
    subst h
    simp [hr2]
  · rename_i h0
    rw [dways_length g]
    constructor
    · intro hz
      rcases Classical.em (n.kind = 0) with hk | hk
      · exact hk
      · have := reach_named (g.reach k n h hk) (by omega)
        omega
    · intro hk
      rcases Classical.em (named t k = 0) with hz | hz
      · exact hz
      · obtain ⟨j, e, he, hix⟩ := named_some hz
        obtain ⟨m, hm, hm0⟩ := g.there j e he
        rw [hix, h] at hm
        injection hm with hm
        subst hm
        exact absurd hk hm0
theorem Fine.ways_one {t : List N} (g : Fine t) {k : Nat} {n : N} (h : t[k]? = some n) (hk : n.kind = 2) : (waysI t ((k + 1 : Nat) : Int)).length = 1 := by
  rw [waysI_at]
  split
  · rfl
  · rename_i h0
    rw [dways_length g, g.one k n (by omega) h hk]
theorem Fine.ways_small {t : List N} (g : Fine t) {k : Nat} {s : ByteArray} (h : s ∈ waysI t ((k + 1 : Nat) : Int)) : s.size ≤ 56 := by
  obtain ⟨l, rfl, hw⟩ := g.ways_mem h
  rcases Classical.em (l = []) with h0 | h0
  · subst h0; decide
  · rw [txt_path h0]; exact g.txt_small hw
theorem Fine.ways_few {t : List N} (g : Fine t) (k : Nat) : (waysI t ((k + 1 : Nat) : Int)).length ≤ 1080 := by
  rw [waysI_at]
  split
  · decide
  · rw [dways_length g]; exact g.named_few k

/-- A way of at least one name: its front, then the last name. -/
theorem Good.walk_last {t : List N} (g : Good t) {s : ByteArray} (hi : PN.is false s = true) (hne : PN.pt false s ≠ []) :
    find t (pp false s) = walk t 0 (PN.pt false s) ∧ find t (pp false (PN.path (PN.pt false s).dropLast)) = walk t 0 (PN.pt false s).dropLast ∧
    walk t 0 (PN.pt false s) = (if (walk t 0 (PN.pt false s).dropLast).2 = 0 then walk t ((walk t 0 (PN.pt false s).dropLast).1 - 1).toNat [last (PN.pt false s)] else walk t 0 (PN.pt false s).dropLast) := by
  obtain ⟨_, h8, hm⟩ := PN.is_some hi
  have hm2 : ∀ x ∈ (PN.pt false s).dropLast, PN.ok false x.data.toList = true := fun x hx => hm x (List.dropLast_subset _ hx)
  have hi2 := PN.is_path (o := false) _ hm2
  rw [decide_eq_true (by rw [List.length_dropLast]; omega)] at hi2
  refine ⟨by rw [pp_yes hi]; rfl, by rw [pp_yes hi2, PN.pt_path _ hm2 (by rw [List.length_dropLast]; omega)]; rfl, ?_⟩
  conv => lhs; rw [last_append hne]
  exact walk_append t _ _ _
end PT
end Go.Proofs.YtniegpdllijjfaaGreatDoor
