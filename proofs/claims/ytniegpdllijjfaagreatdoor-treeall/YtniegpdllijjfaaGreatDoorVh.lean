/-
  Plain: the ways that tree gives are those that the document gives, in the same order.
-/
import Derived.Test.YtniegpdllijjfaaGreatDoorMVe
namespace Go.Proofs.YtniegpdllijjfaaGreatDoor
open Go.RowKit Go.Joins

namespace PT
/-- The ways up, as names. -/
def upsL (l : List Lk) : Nat → Int → List ByteArray → List (List ByteArray)
  | 0, _, _ => []
  | d + 1, z, below => if z = 1 then [below] else (l.filter fun x => decide (x.1.2 = z)).flatMap fun x => upsL l d x.2.2 (x.1.1 :: below)
theorem ups_map (l : List Lk) : ∀ (d : Nat) (z : Int) (below : List ByteArray), ups l d z below = (upsL l d z below).map PN.path
  | 0, _, _ => rfl
  | d + 1, z, below => by
    rw [ups, upsL]
    split
    · rfl
    · rw [List.map_flatMap]
      congr 1
      funext x
      exact ups_map l d _ _
theorem link_of {t : List N} (g : Fine t) {x : Lk} (hx : x ∈ links t) : ∃ (i : Nat) (e : E), e ∈ names t i ∧ x = (e, atz t e.2, (i : Int) + 1) := by
  obtain ⟨i, e, _, he, rfl⟩ := (links_mem 9 (by rw [g.len]; omega)).1 hx
  exact ⟨i, e, he, rfl⟩
theorem of_link {t : List N} (g : Fine t) {i : Nat} {e : E} (he : e ∈ names t i) : (e, atz t e.2, (i : Int) + 1) ∈ links t :=
  (links_mem 9 (by rw [g.len]; omega)).2 ⟨i, e, by rw [← g.len]; exact mem_lt he, he, rfl⟩
theorem upsL_mem {t : List N} (g : Fine t) : ∀ (d k : Nat) (below q : List ByteArray), q ∈ upsL (links t) d ((k : Int) + 1) below ↔ ∃ r, q = r ++ below ∧ Way t r k ∧ r.length < d
  | 0, k, below, q => by
    constructor
    · intro h; cases h
    · rintro ⟨r, _, _, h⟩; omega
  | d + 1, k, below, q => by
    rw [upsL]
    split
    · rename_i hz
      have hk : k = 0 := by omega
      subst hk
      rw [List.mem_singleton]
      constructor
      · rintro rfl
        exact ⟨[], rfl, .root, by simp⟩
      · rintro ⟨r, rfl, h, _⟩
        rw [(g.root_way h).2 rfl]
        rfl
    · rename_i hz
      rw [List.mem_flatMap]
      constructor
      · rintro ⟨x, hx, hq⟩
        obtain ⟨h1, h2⟩ := List.mem_filter.1 hx
        obtain ⟨i, e, he, rfl⟩ := link_of g h1
        have hix : ix e = k := by
          have := ix_int he
          simp only [decide_eq_true_eq] at h2
          omega
        obtain ⟨r, rfl, hw, hl⟩ := (upsL_mem g d i _ _).1 hq
        exact ⟨r ++ [e.1], by simp, hix ▸ Way.step hw he, by simp; omega⟩
      · rintro ⟨r, rfl, hw, hl⟩
        cases hw with
        | root => exact absurd rfl hz
        | @step l i e hw he =>
          refine ⟨_, List.mem_filter.2 ⟨of_link g he, ?_⟩, (upsL_mem g d i _ _).2 ⟨l, by simp, hw, by simp at hl; omega⟩⟩
          simpa using ix_int he
theorem upsL_far {t : List N} (g : Fine t) (d : Nat) {z : Int} (hz : z < 1) (below : List ByteArray) : upsL (links t) d z below = [] := by
  cases d with
  | zero => rfl
  | succ d =>
    rw [upsL, if_neg (by omega), List.flatMap_eq_nil_iff]
    intro x hx
    obtain ⟨h1, h2⟩ := List.mem_filter.1 hx
    obtain ⟨i, e, he, rfl⟩ := link_of g h1
    have := ix_int he
    simp only [decide_eq_true_eq] at h2
    omega
theorem links_nodup {t : List N} (g : Fine t) : (links t).Nodup := by
  unfold links linksTo List.Nodup
  rw [List.pairwise_flatMap]
  constructor
  · intro i hi
    have hi9 : i < 9 := List.mem_range.1 hi
    obtain ⟨n, hn⟩ : ∃ n, t[i]? = some n := ⟨_, List.getElem?_eq_getElem (by rw [g.len]; exact hi9)⟩
    unfold inside
    rw [List.pairwise_map, atz_at hn, ← names_at hn]
    refine (names_nodup t i).imp ?_
    intro a b hab e
    exact hab (congrArg (fun x : Lk => x.1.1) e)
  · refine List.nodup_range.imp ?_
    intro i j hij x hx y hy e
    obtain ⟨a, _, rfl⟩ := List.mem_map.1 hx
    obtain ⟨b, _, rfl⟩ := List.mem_map.1 hy
    have := congrArg (fun x : Lk => x.2.2) e
    simp only at this
    omega
theorem names_same {t : List N} {k : Nat} {e e' : E} (h : e ∈ names t k) (h' : e' ∈ names t k) (hs : e.1 = e'.1) : e = e' := by
  obtain ⟨n, _, hn⟩ := names_some h
  rw [hn] at h h'
  have h2 := find_mem (ents_srt n) h
  have h3 := find_mem (ents_srt n) h'
  rw [hs, h3] at h2
  exact (Option.some.inj h2).symm
theorem upsL_nodup {t : List N} (g : Fine t) : ∀ (d : Nat) (z : Int) (below : List ByteArray), (upsL (links t) d z below).Nodup
  | 0, _, _ => List.nodup_nil
  | d + 1, z, below => by
    rw [upsL]
    split
    · simp
    · unfold List.Nodup
      rw [List.pairwise_flatMap]
      refine ⟨fun x _ => upsL_nodup g d _ _, ?_⟩
      refine ((links_nodup g).filter _).imp_of_mem ?_
      intro x y hx hy hxy p hp q hq e
      subst e
      obtain ⟨i, e, he, rfl⟩ := link_of g (List.mem_filter.1 hx).1
      obtain ⟨j, f, hf, rfl⟩ := link_of g (List.mem_filter.1 hy).1
      obtain ⟨r, h1, hr, _⟩ := (upsL_mem g d i _ _).1 hp
      obtain ⟨s, h2, hs, _⟩ := (upsL_mem g d j _ _).1 hq
      rw [h1] at h2
      have h3 : r ++ [e.1] = s ++ [f.1] := by
        have : (r ++ [e.1]) ++ below = (s ++ [f.1]) ++ below := by simpa using h2
        exact List.append_cancel_right this
      obtain ⟨h4, h5⟩ := List.append_inj' h3 rfl
      subst h4
      obtain rfl := Way.fun hr hs
      have h6 : e.1 = f.1 := by simpa using h5
      obtain rfl := names_same he hf h6
      exact hxy rfl
/-- Names on a way are some that may be. -/
theorem Way.own {t : List N} {l : List ByteArray} {k : Nat} (h : Way t l k) : ∀ x ∈ l, PN.ok true x.data.toList = true := by
  induction h with
  | root => intro x hx; cases hx
  | step _ he ih =>
    intro x hx
    rcases List.mem_append.1 hx with hx | hx
    · exact ih x hx
    · rw [List.mem_singleton] at hx
      subst hx
      have := names_may he
      simp only [PD.may, Bool.and_eq_true] at this
      simpa [PN.ok] using this.1
theorem path_inj {l m : List ByteArray} (hl : ∀ x ∈ l, PN.ok true x.data.toList = true) (hm : ∀ x ∈ m, PN.ok true x.data.toList = true) (h8 : l.length ≤ 8) (h9 : m.length ≤ 8) (h : PN.path l = PN.path m) : l = m := by
  rw [← PN.pt_path l hl h8, ← PN.pt_path m hm h9, h]
/-- Ways as texts: each once. -/
theorem paths_nodup {t : List N} (g : Fine t) {j : Nat} {L : List (List ByteArray)} (hn : L.Nodup) (hw : ∀ l ∈ L, Way t l j) : (L.map PN.path).Nodup := by
  unfold List.Nodup
  rw [List.pairwise_map]
  refine List.Pairwise.imp_of_mem ?_ hn
  intro a b ha hb hab e
  exact hab (path_inj (hw a ha).own (hw b hb).own (g.way_length (hw a ha)) (g.way_length (hw b hb)) e)
end PT

theorem srtS_mem (ss : List ByteArray) (x : ByteArray) : x ∈ srtS ss ↔ x ∈ ss := by
  unfold srtS
  rw [List.mem_map]
  constructor
  · rintro ⟨l, hl, rfl⟩
    rw [List.mem_mergeSort] at hl
    obtain ⟨s, hs, rfl⟩ := List.mem_map.1 hl
    simpa using hs
  · intro h
    exact ⟨x.data.toList, List.mem_mergeSort.2 (List.mem_map.2 ⟨x, h, rfl⟩), by simp⟩
theorem srtS_rises {ss : List ByteArray} (h : ss.Nodup) : (srtS ss).Pairwise fun a b => PD.lt a b = true := by
  have h1 := List.pairwise_mergeSort (le := fun x y : List UInt8 => decide (x ≤ y)) (by simp only [decide_eq_true_eq]; exact fun a b c => List.le_trans) (by intro a b; simpa using List.le_total a b) (bls ss)
  have h2 : (bls ss).Nodup := by
    unfold bls List.Nodup
    rw [List.pairwise_map]
    refine List.Pairwise.imp ?_ h
    intro a b hab e
    exact hab (by rw [← PN.data_mk a, ← PN.data_mk b, e])
  have h3 := (List.mergeSort_perm (bls ss) fun x y => decide (x ≤ y)).nodup_iff.2 h2
  unfold srtS
  rw [List.pairwise_map]
  have h4 := List.pairwise_and_iff.2 ⟨h1, h3⟩
  refine h4.imp ?_
  rintro a b ⟨hab, hne⟩
  rw [PD.lt_eq, decide_eq_true_eq]
  simp only [decide_eq_true_eq] at hab
  rw [ByteArray.toList_eq, ByteArray.toList_eq]
  show a < b
  rcases Std.lt_trichotomy a b with h | h | h
  · exact h
  · exact absurd h hne
  · exact absurd h (List.not_lt.2 hab)

namespace PT
/-- The document's ways to node j, as texts. -/
def dways (t : List N) (j : Nat) : List ByteArray := sort ((down t 9 0 [] j).map PN.path)
/-- Its answer, at number z. -/
def waysI (t : List N) (z : Int) : List ByteArray := if z = 1 then [PN.path []] else if z < 1 then [] else dways t (px z)
theorem path_root : PN.path [] = { data := #[47] } := rfl
theorem waysI_eq {t : List N} (g : Fine t) (z : Int) : srtS (ups (links t) 10 z []) = waysI t z := by
  unfold waysI
  split
  · rename_i hz
    subst hz
    rw [ups, if_pos rfl, path_root]
    decide +kernel
  · rename_i hz
    split
    · rename_i h1
      rw [ups_map, upsL_far g _ h1]
      decide +kernel
    · rename_i h1
      obtain ⟨k, hk⟩ : ∃ k : Nat, z = (k : Int) + 1 := ⟨(z - 1).toNat, by omega⟩
      subst hk
      have hpx : px ((k : Int) + 1) = k := px_succ k
      rw [hpx, dways, ups_map]
      have w1 : ∀ l ∈ upsL (links t) 10 ((k : Int) + 1) [], Way t l k := by
        intro l hl
        obtain ⟨r, rfl, h, _⟩ := (upsL_mem g 10 k [] l).1 hl
        simpa using h
      have w2 : ∀ l ∈ down t 9 0 [] k, Way t l k := fun l hl => (g.all_ways.1 hl).2
      refine rise_unique (srtS_rises (paths_nodup g (upsL_nodup g 10 _ []) w1)) (sort_rises (paths_nodup g (down_nodup t 9 0 [] k) w2)) fun x => ?_
      rw [srtS_mem, sort_mem, List.mem_map, List.mem_map]
      have hk0 : k ≠ 0 := by omega
      constructor
      · rintro ⟨l, hl, rfl⟩
        refine ⟨l, g.all_ways.2 ⟨fun e => hk0 ((g.root_way (w1 l hl)).1 e), w1 l hl⟩, rfl⟩
      · rintro ⟨l, hl, rfl⟩
        refine ⟨l, (upsL_mem g 10 k [] l).2 ⟨l, by simp, w2 l hl, ?_⟩, rfl⟩
        have := g.way_length (w2 l hl)
        omega
theorem dways_length {t : List N} (g : Fine t) (k : Nat) : (dways t k).length = named t k := by
  rw [dways, sort_length, List.length_map, g.ways_length]
theorem dways_rises {t : List N} (g : Fine t) (k : Nat) : (dways t k).Pairwise fun a b => PD.lt a b = true :=
  sort_rises (paths_nodup g (down_nodup t 9 0 [] k) fun l hl => (g.all_ways.1 hl).2)
theorem dways_mem {t : List N} (g : Fine t) {k : Nat} {s : ByteArray} (h : s ∈ dways t k) : ∃ l, s = PN.path l ∧ Way t l k ∧ l ≠ [] := by
  rw [dways, sort_mem, List.mem_map] at h
  obtain ⟨l, hl, rfl⟩ := h
  exact ⟨l, rfl, (g.all_ways.1 hl).2, (g.all_ways.1 hl).1⟩
end PT
end Go.Proofs.YtniegpdllijjfaaGreatDoor
