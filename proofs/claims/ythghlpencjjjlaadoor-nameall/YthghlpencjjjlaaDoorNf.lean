/-
  Contract: name.Parts.
-/
import Derived.Test.YthghlpencjjjlaaDoorNe
namespace Go.Proofs.YthghlpencjjjlaaDoor
open Go.RowKit Go.Joins

namespace PN
theorem parts_no {o : Bool} {s : ByteArray} (h : Lib.hasPrefix s.data.toList [47] = false) : is o s = false ∧ pt o s = [] := by
  have hi : is o s = false := by
    unfold is
    cases hd : s.data.toList with
    | nil => rfl
    | cons b r =>
      rw [hd] at h
      have hb : b ≠ 47 := fun e => by subst e; simp [Lib.hasPrefix, List.isPrefixOf] at h
      rw [parts, if_neg hb]; rfl
  exact ⟨hi, pt_none hi⟩
theorem parts_root {o : Bool} {s : ByteArray} (h : s.data.toList = [47]) : is o s = true ∧ pt o s = [] := by
  unfold is pt
  rw [h, parts, if_pos rfl, if_pos rfl]
  exact ⟨rfl, rfl⟩
theorem parts_way {o : Bool} {s : ByteArray} {r : List UInt8} (h : s.data.toList = 47 :: r) (hr : r ≠ []) (hl : (sp r).length ≤ 8) (ha : ((sp r).map mk).all (fun x => ok o x.data.toList) = true) : is o s = true ∧ pt o s = (sp r).map mk := by
  have ha' : (sp r).all (ok o) = true := by
    rw [List.all_map] at ha
    exact ha
  unfold is pt
  rw [h, parts, if_pos rfl, if_neg hr, if_pos ⟨hl, ha'⟩]
  exact ⟨rfl, rfl⟩
theorem parts_bad {o : Bool} {s : ByteArray} {r : List UInt8} (h : s.data.toList = 47 :: r) (hr : r ≠ []) (hl : ¬ ((sp r).length ≤ 8 ∧ ((sp r).map mk).all (fun x => ok o x.data.toList) = true)) : is o s = false ∧ pt o s = [] := by
  have hi : is o s = false := by
    unfold is
    rw [h, parts, if_pos rfl, if_neg hr, if_neg]
    · rfl
    · rw [List.all_map] at hl
      exact hl
  exact ⟨hi, pt_none hi⟩
theorem sp_size {r : List UInt8} {n : Nat} (h : r.length ≤ n) : ∀ x ∈ sp r, x.length ≤ n := by
  induction r generalizing n with
  | nil => intro x hx; simp [sp] at hx; subst hx; simp
  | cons b r ih =>
    intro x hx
    simp at h
    by_cases hb : b = 47
    · subst hb
      rw [sp_slash] at hx
      rcases List.mem_cons.1 hx with rfl | hx
      · simp
      · have := ih (n := n - 1) (by omega) x hx; omega
    · obtain ⟨p, l, hp⟩ := sp_form r
      rw [sp_other hb hp] at hx
      rcases List.mem_cons.1 hx with rfl | hx
      · have := ih (n := n - 1) (by omega) p (by rw [hp]; simp)
        simp; omega
      · have := ih (n := n - 1) (by omega) x (by rw [hp]; simp [hx]); omega
theorem pieces_size {r : List UInt8} (h : r.length ≤ 65535) : ∀ x ∈ (sp r).map mk, x.size ≤ 1048576 := by
  intro x hx
  obtain ⟨y, hy, rfl⟩ := List.mem_map.1 hx
  have := sp_size h y hy
  rw [Lib.size_eq, mk_data]; omega
end PN

theorem Ss.split (w : World) (xs : List ByteArray) (N g : Nat) (hg : g = w.heap.size) (hz : ∀ s ∈ xs, s.size ≤ 1048576) (hm : xs.length ≤ 65536) : Ss (w.alloc (.cells (Lib.cellsOf xs N) 9)) (.slice (some ⟨g, 0, none⟩) xs.length N) xs := by
  subst hg
  refine ⟨⟨_, _, rfl, by simp, fun _ => ⟨_, 0, rfl, by simp, fun j hj => ?_⟩⟩, hz, hm⟩
  rw [Nat.zero_add, cell_alloc_mark_at w _ 9 _ _ j rfl]
  have hj' : j < (xs.map Value.string).length := by simpa using hj
  rw [Lib.cellsOf, List.getElem?_toArray, List.getElem?_append_left hj']

set_option maxHeartbeats 4000000 in
theorem parts_any (s : ByteArray) (o : Bool) (w : World) (hw : Ml w) (hs : s.size ≤ 65535) : Calls Tryd.prog 10 #[.string s, .bool o] w fun e w' => ∃ v, e = .returned (.tuple #[v, .bool (PN.is o s)]) ∧ Ro w' w.heap.size v (PN.pt o s) ∧ Below w.heap.size w w' := by
  have hc := Tryd.strings_CutPrefix s { data := #[47] } w
  rw [show (({ data := #[47] } : ByteArray).data.toList) = [47] from rfl] at hc
  cases hp : Lib.hasPrefix s.data.toList [47] with
  | false =>
    obtain ⟨e1, e2⟩ := PN.parts_no (o := o) hp
    rw [e1, e2]
    rw [hp] at hc
    generalize ({ data := (Lib.trimPrefix s.data.toList [47]).toArray } : ByteArray) = R at *
    clear e1 e2 hp hw
    go_enter Tryd.func10, Tryd.ntmps10
    go_wp2_with (go_at_call 19; refine hc.mono ?_; rintro e w1 ⟨rfl, rfl⟩)
    go_ret2
    exact ⟨_, rfl, World.ownsRow_nil _ _ _ _, Below.refl _ _⟩
  | true =>
    obtain ⟨r, hr⟩ : ∃ r, s.data.toList = 47 :: r := by
      cases hd : s.data.toList with
      | nil => rw [hd] at hp; simp [Lib.hasPrefix, List.isPrefixOf] at hp
      | cons b r =>
        rw [hd] at hp
        simp [Lib.hasPrefix, List.isPrefixOf] at hp
        subst hp
        exact ⟨r, rfl⟩
    have ht : Lib.trimPrefix s.data.toList [47] = r := by
      unfold Lib.trimPrefix
      rw [hp, hr]; rfl
    have hrl : r.length ≤ 65534 := by
      rw [Lib.size_eq, hr] at hs; simp at hs; exact hs
    rw [hp, ht] at hc
    by_cases hn : r = []
    · obtain ⟨e1, e2⟩ := PN.parts_root (o := o) (s := s) (by rw [hr, hn])
      rw [e1, e2]
      subst hn
      rw [show ({ data := ([] : List UInt8).toArray } : ByteArray) = { data := #[] } from rfl] at hc
      clear e1 e2 hp hr ht hw
      go_enter Tryd.func10, Tryd.ntmps10
      go_wp2_with (go_at_call 19; refine hc.mono ?_; rintro e w1 ⟨rfl, rfl⟩)
      go_ret2
      exact ⟨_, rfl, World.ownsRow_nil _ _ _ _, Below.refl _ _⟩
    · obtain ⟨R, hR⟩ : ∃ R, PN.mk r = R := ⟨_, rfl⟩
      have hRd : R.data.toList = r := by rw [← hR]; rfl
      have hRs : R.size ≤ 65534 := by rw [Lib.size_eq, hRd]; exact hrl
      rw [show ({ data := r.toArray } : ByteArray) = R from hR] at hc
      have hne : R.toList.isEmpty = false := by rw [Lib.toList_data, hRd]; cases r with | nil => exact absurd rfl hn | cons _ _ => rfl
      obtain ⟨m, hm⟩ := hw
      have hsp := Tryd.strings_SplitN R { data := #[47] } 9 m w (by omega) hm (by decide) (by decide) (by decide)
      rw [show ((9 : Nat) : Int) = 9 from rfl] at hsp
      by_cases hmany : 8 < (PN.sp r).length
      · have hlb := PN.nine_many R (by rw [hRd]; exact hmany)
        obtain ⟨e1, e2⟩ := PN.parts_bad (o := o) hr hn (fun e => by omega)
        rw [e1, e2]
        generalize Lib.cellsOf (Lib.splitB { data := #[47] } 0 (min 9 (R.size + 1) - 1) R) (min 9 (R.size + 1)) = C at *
        generalize (Lib.splitB { data := #[47] } 0 (min 9 (R.size + 1) - 1) R).length = L at *
        generalize min 9 (R.size + 1) = M at *
        have h8 : (8 : Int) < (L : Int) := by omega
        clear e1 e2 hp hr ht hm hR hRd hmany hlb
        go_enter Tryd.func10, Tryd.ntmps10
        go_wp2_with (first | (go_at_call 19; refine hc.mono ?_; rintro e w1 ⟨rfl, hw1⟩; rw [hw1]) | (go_at_call 20; refine hsp.mono ?_; rintro e w1 ⟨rfl, hw2⟩; rw [hw2]))
        go_ret2
        exact ⟨_, rfl, World.ownsRow_nil _ _ _ _, al _ _⟩
      · have hfew : (PN.sp r).length ≤ 8 := by omega
        have hlb := PN.nine_few R (by rw [hRd]; exact hfew)
        rw [hRd] at hlb
        rw [hlb] at hsp
        generalize min 9 (R.size + 1) = M at *
        have hz := PN.pieces_size (r := r) (by omega)
        have hxl : ((PN.sp r).map PN.mk).length ≤ 8 := by simpa using hfew
        have hyes := fun ha => PN.parts_way (o := o) hr hn hfew ha
        have hbad := fun (ha : ((PN.sp r).map PN.mk).all (fun x => PN.ok o x.data.toList) = false) => PN.parts_bad (o := o) (s := s) hr hn (fun e => by rw [ha] at e; exact absurd e.2 (by decide))
        generalize (PN.sp r).map PN.mk = xs at *
        have hS := Ss.split w xs M _ rfl hz (by omega)
        have hal := all_any o _ xs _ hS
        have hcp := copied_any _ xs _ hS
        have hB := al w (.cells (Lib.cellsOf xs M) 9)
        generalize hL : xs.length = L at *
        generalize w.alloc (.cells (Lib.cellsOf xs M) 9) = w2 at *
        have h8 : ¬ (8 : Int) < (L : Int) := by omega
        clear hxl
        cases ha : xs.all (fun x => PN.ok o x.data.toList) with
        | true =>
          obtain ⟨e1, e2⟩ := hyes ha
          rw [e1, e2]
          rw [ha] at hal
          clear e1 e2 hyes hbad ha hp hr ht hm hR hRd hlb hS hz hL
          go_enter Tryd.func10, Tryd.ntmps10
          go_wp2_with (first | (go_at_call 19; refine hc.mono ?_; rintro e w1 ⟨rfl, hw1⟩; rw [hw1]) | (go_at_call 20; refine hsp.mono ?_; rintro e w1 ⟨rfl, hw2⟩; rw [hw2]) | (go_at_call 21; refine hal.mono ?_; rintro e w1 ⟨rfl, hw3⟩; rw [hw3]) | (go_at_call 22; refine hcp.mono ?_; rintro e w1 ⟨v', rfl, hO, hB1⟩))
          go_ret2
          refine ⟨_, rfl, ?_, hB.trans (hB1.mono hB.size)⟩
          exact ⟨hO.1, hO.2.imp id fun ⟨g, cap, cur, a1, a2, a3⟩ => ⟨g, cap, cur, a1, Nat.le_trans hB.size a2, a3⟩⟩
        | false =>
          obtain ⟨e1, e2⟩ := hbad ha
          rw [e1, e2]
          rw [ha] at hal
          clear e1 e2 hyes hbad ha hp hr ht hm hR hRd hlb hS hz hL hcp
          go_enter Tryd.func10, Tryd.ntmps10
          go_wp2_with (first | (go_at_call 19; refine hc.mono ?_; rintro e w1 ⟨rfl, hw1⟩; rw [hw1]) | (go_at_call 20; refine hsp.mono ?_; rintro e w1 ⟨rfl, hw2⟩; rw [hw2]) | (go_at_call 21; refine hal.mono ?_; rintro e w1 ⟨rfl, hw3⟩; rw [hw3]))
          go_ret2
          exact ⟨_, rfl, World.ownsRow_nil _ _ _ _, hB⟩
end Go.Proofs.YthghlpencjjjlaaDoor
