/-
  Plain: which folder lies in which, by the names ahead; a place that may be asked of any names. No program in this text.
  Plain: names that come and go again: what is linked is found, and dropped again all is as it was; what is moved is found where it is, and moved back all is as it was. No program in this text.
  Plain: what is moved is found where it is, and no more where it was; and back again all is as it was. No program in this text.
-/
import Derived.Test.YtdnobplhfbgbaaaGreatDoorMUe
import Derived.Test.YtdnobplhfbgbaaaGreatDoorMTa
namespace Go.Proofs.YtdnobplhfbgbaaaGreatDoor
open Go

namespace PT
theorem In.of_walk {t : List N} {a : Nat} : ∀ (q : List ByteArray) {k j : Nat}, In t a k → walk t k q = (((j + 1 : Nat) : Int), 0) → In t a j
  | [], k, j, h, hw => by
    rw [walk_nil] at hw
    injection hw with hw _
    rw [show j = k by omega]; exact h
  | x :: r, k, j, h, hw => by
    cases hn : (next t k x).1 with
    | none =>
      rw [walk_cons_no hn] at hw
      injection hw with _ h2
      exact absurd h2 (next_no hn)
    | some i =>
      rw [walk_cons_yes hn] at hw
      obtain ⟨e, he, _, rfl⟩ := next_yes hn
      exact In.of_walk r (.step h he) hw
theorem In.way {t : List N} {a d : Nat} {f : List ByteArray} (hf : Way t f a) (h : In t a d) : ∃ q, Way t (f ++ q) d := by
  induction h with
  | self => exact ⟨[], by simpa using hf⟩
  | step _ he ih =>
    obtain ⟨q, hq⟩ := ih
    exact ⟨q ++ [_], by rw [← List.append_assoc]; exact .step hq he⟩
/-- The names ahead are just those of a folder in which it would lie. -/
theorem Fine.begins {t : List N} (g : Fine t) {f l : List ByteArray} (hf : (walk t 0 f).2 = 0) (h0 : px (walk t 0 f).1 ≠ 0) (hl : l ≠ []) (hpl : (place t l).2 = 0) (hne : ¬ ((place t f).1 = (place t l).1 ∧ last f = last l)) :
    l.take f.length = f ↔ (kindAt t (px (walk t 0 f).1) = 2 ∧ inB t 9 (px (place t l).1) (px (walk t 0 f).1) = true) := by
  obtain ⟨k, nk, hwk, _, hnk, hnk0, hwf⟩ := g.walk_yes hf
  obtain ⟨d, n, hpd, _, _, hn, hn2, hwd⟩ := g.place_yes hpl
  rw [hwk, hpd]
  simp only [px_succ]
  have hd2 : kindAt t d = 2 := by rw [kindAt_at hn]; exact hn2
  obtain ⟨c, hc⟩ := g.chain_of hnk hnk0
  constructor
  · intro hp
    have hlr : l = f ++ l.drop f.length := by
      conv => lhs; rw [← List.take_append_drop f.length l]
      rw [hp]
    have hr : l.drop f.length ≠ [] := fun e => by
      rw [e, List.append_nil] at hlr
      subst hlr
      exact hne ⟨rfl, rfl⟩
    have hdl : l.dropLast = f ++ (l.drop f.length).dropLast := by
      conv => lhs; rw [hlr]
      rw [List.dropLast_append_of_ne_nil hr]
    rw [hdl] at hwd
    have hw := hwd.walk
    rw [walk_append, hwk] at hw
    simp only [if_true] at hw
    rw [show (((k + 1 : Nat) : Int) - 1).toNat = k by omega] at hw
    have hin := In.of_walk _ (In.self (t := t) (a := k)) hw
    exact ⟨hin.folder hd2, (g.inB_iff hd2 9 c k hc (by omega)).2 hin⟩
  · rintro ⟨_, hb⟩
    have hin := (g.inB_iff hd2 9 c k hc (by omega)).1 hb
    obtain ⟨q, hq⟩ := hin.way hwf
    have he := g.one_way hwd hq ⟨n, hn, hn2⟩
    have hl2 := last_append hl
    rw [he, List.append_assoc] at hl2
    rw [hl2, List.take_left]
/-- The place of any names; of none there is none. -/
def plc (t : List N) (l : List ByteArray) : Int × ByteArray × Int :=
  if l = [] then (0, { data := #[] }, 3) else if (place t l).2 ≠ 0 then (0, { data := #[] }, (place t l).2) else ((place t l).1, last l, 0)
theorem plc_yes {t : List N} {l : List ByteArray} {pa : Int} (hl : l ≠ []) (hp : walk t 0 l.dropLast = (pa, 0)) (hk : kindAt t (px pa) = 2) : plc t l = (pa, last l, 0) := by
  have : place t l = (pa, 0) := by unfold place; rw [hp]; simp only [if_true]; rw [if_pos hk]
  rw [plc, if_neg hl, this]; rfl
theorem plc_nodir {t : List N} {l : List ByteArray} {pa : Int} (hl : l ≠ []) (hp : walk t 0 l.dropLast = (pa, 0)) (hk : kindAt t (px pa) ≠ 2) : plc t l = (0, { data := #[] }, 5) := by
  have : place t l = (0, 5) := by unfold place; rw [hp]; simp only [if_true]; rw [if_neg hk]
  rw [plc, if_neg hl, this]; rfl
theorem plc_no {t : List N} {l : List ByteArray} {pa pb : Int} (hl : l ≠ []) (hp : walk t 0 l.dropLast = (pa, pb)) (hz : pb ≠ 0) : plc t l = (0, { data := #[] }, pb) := by
  have : place t l = (0, pb) := by unfold place; rw [hp]; simp only; rw [if_neg hz]
  rw [plc, if_neg hl, this]
  simp only
  rw [if_pos hz]
/-- The place where no name stands yet. -/
def fre (t : List N) (l : List ByteArray) : Int × ByteArray × Int :=
  if (plc t l).2.2 ≠ 0 then (0, { data := #[] }, (plc t l).2.2) else if PD.has (names t (px (plc t l).1)) (plc t l).2.1 = true then (0, { data := #[] }, 3) else plc t l
theorem pp_path {o : Bool} {l : List ByteArray} (h : ∀ x ∈ l, PN.ok o x.data.toList = true) (hl : l.length ≤ 8) : pp o (PN.path l) = some l := by
  have hi := PN.is_path (o := o) l h
  rw [decide_eq_true hl] at hi
  rw [pp_yes hi, PN.pt_path l h hl]
end PT
end Go.Proofs.YtdnobplhfbgbaaaGreatDoor
namespace Go.Proofs.YtdnobplhfbgbaaaGreatDoor
open Go

namespace PD
theorem put_took {s : ByteArray} {l : List E} (h : took s = some l) : put l = s := by
  have hok := ok_took h
  have hs : s.size ≤ 120 := by
    rcases Nat.lt_or_ge 120 s.size with k | k
    · rw [took_long (by omega)] at h; cases h
    · exact k
  unfold took at h
  rw [if_pos hs, Option.filter_eq_some_iff] at h
  have hb := bytes_ents _ (Nat.le_refl _) (nums_lt s) h.1
  rw [put, if_pos hok, hb, str_nums]
theorem srt_tail : ∀ {P : List E} {a : ByteArray} {e : E} {Q : List E}, srt a (P ++ e :: Q) = true → srt e.1 Q = true
  | [], _, _, _, h => (srt_cons h).2.2
  | _ :: _, _, _, _, h => srt_tail (srt_cons h).2.2
theorem place_mid {P Q : List E} {n : ByteArray} (h1 : ∀ e ∈ P, lt e.1 n = true) (h2 : srt n Q = true) : place (P ++ Q) n = P.length ∧ isAt (P ++ Q) n = false := by
  have hp : place (P ++ Q) n = P.length := by
    unfold place
    rw [List.takeWhile_append_of_pos h1]
    cases Q with
    | nil => simp
    | cons x r =>
      have := (srt_cons h2).2.1
      rw [List.takeWhile_cons_of_neg (by rw [lt_asymm this]; decide)]
      simp
  refine ⟨hp, ?_⟩
  rw [isAt, hp]
  cases Q with
  | nil => simp
  | cons x r =>
    have := (srt_cons h2).2.1
    rw [List.getElem?_append_right (Nat.le_refl _), Nat.sub_self]
    show (x.1.toList == n.toList) = false
    rw [beq_eq, decide_eq_false_iff_not]
    intro e
    rw [e, lt_irrefl] at this
    cases this
theorem wth_less {l : List E} {a : ByteArray} {e : E} (h : srt a l = true) (he : e ∈ l) : isAt (less l e.1) e.1 = false ∧ wth (less l e.1) e = l := by
  obtain ⟨hi, hp⟩ := place_part h he
  have hl : less l e.1 = l.take (place l e.1) ++ l.drop (place l e.1 + 1) := by rw [less, hi]; rfl
  have hlow := place_low l e.1
  have h' := h
  rw [hp] at h'
  have hs := srt_tail h'
  rw [hl]
  generalize l.take (place l e.1) = P at *
  generalize l.drop (place l e.1 + 1) = Q at *
  obtain ⟨h1, h2⟩ := place_mid hlow hs
  refine ⟨h2, ?_⟩
  rw [wth, h2, if_neg (by decide), h1, List.take_left, List.drop_left]
  exact hp.symm
end PD
namespace PT
theorem set_same {t : List N} {k : Nat} {n : N} (h : t[k]? = some n) : t.set k n = t := by
  obtain ⟨hlt, rfl⟩ := List.getElem?_eq_some_iff.1 h
  exact List.set_getElem_self hlt
theorem withNames_back {n : N} {l : List E} (hk : n.kind = 2) (hs : shape n) : withNames (withNames n l) (ents n) = n := by
  obtain ⟨h, _⟩ := folder_took hk hs
  unfold withNames
  rw [PD.put_took h]
/-- A name put into a folder, and taken out again. -/
theorem take_put {t x : List N} {d : Nat} {n : N} {e : E} (hs : shape n) (h : t[d]? = some n) (hk : n.kind = 2) (hno : PD.has (ents n) e.1 = false) (hp : put t d e = some x) : take x d e.1 = t := by
  have hlt := (List.getElem?_eq_some_iff.1 h).1
  rw [put, h] at hp
  simp only at hp
  split at hp
  · rename_i hok
    rw [← PD.with_same e (ents_srt n)] at hok hp
    injection hp with hp
    subst hp
    have he := withNames_ents hk hok
    rw [take, List.getElem?_set_self hlt]
    simp only
    rw [← PD.less_same e.1 (ents_srt _), he, (PD.wth_isAt (by rw [has_isAt]; exact hno)).2.2, withNames_back hk hs, List.set_set]
    exact set_same h
  · cases hp
/-- A name taken out of a folder, and put into it again. -/
theorem put_take {t : List N} {d : Nat} {n : N} {e : E} (hs : shape n) (h : t[d]? = some n) (hk : n.kind = 2) (he : e ∈ ents n) : put (take t d e.1) d e = some t := by
  have hlt := (List.getElem?_eq_some_iff.1 h).1
  obtain ⟨htk, _⟩ := folder_took hk hs
  have hok0 := PD.ok_took htk
  obtain ⟨hm, hsh⟩ := more_take hk hs he
  rw [take, h]
  simp only
  rw [← PD.less_same e.1 (ents_srt n), put, List.getElem?_set_self hlt]
  simp only
  have hen : ents (withNames n (PD.less (ents n) e.1)) = PD.less (ents n) e.1 := by
    obtain ⟨hi, hp⟩ := PD.place_part (ents_srt n) he
    have hl : PD.less (ents n) e.1 = (ents n).take (PD.place (ents n) e.1) ++ (ents n).drop (PD.place (ents n) e.1 + 1) := by rw [PD.less, hi]; rfl
    refine withNames_ents hk ?_
    rw [hl]
    have h0 := hok0
    rw [hp] at h0
    exact PD.ok_drop h0
  rw [← PD.with_same e (ents_srt _), hen, (PD.wth_less (ents_srt n) he).2, if_pos hok0, withNames_back hk hs, List.set_set]
  congr 1
  exact set_same h
theorem Way.mono {t x : List N} (h : ∀ k e, e ∈ names t k → e ∈ names x k) {l : List ByteArray} {k : Nat} (hw : Way t l k) : Way x l k := by
  induction hw with
  | root => exact .root
  | step _ he ih => exact .step ih (h _ _ he)
theorem names_more {t : List N} {d : Nat} {n n' : N} {e : E} (h : t[d]? = some n) (m : More n n' e) (j : Nat) (x : E) : x ∈ names (t.set d n') j ↔ (d = j ∧ x = e) ∨ x ∈ names t j := by
  rcases Classical.em (d = j) with rfl | hne
  · rw [names_set_same h, names_at h, m.mem]
    constructor
    · rintro (h | h)
      · exact .inl ⟨rfl, h⟩
      · exact .inr h
    · rintro (⟨_, h⟩ | h)
      · exact .inl h
      · exact .inr h
  · rw [names_set_ne hne]
    constructor
    · exact .inr
    · rintro (⟨h, _⟩ | h)
      · exact absurd h hne
      · exact h
theorem place_of {x : List N} {l : List ByteArray} {d : Nat} {n : N} (h : Way x l.dropLast d) (hn : x[d]? = some n) (hk : n.kind = 2) : place x l = (((d + 1 : Nat) : Int), 0) := by
  unfold place
  rw [h.walk]
  simp only [px_succ, if_true]
  rw [if_pos (by rw [kindAt_at hn]; exact hk)]
/-- A name that is not in its folder. -/
theorem walk_missing {x : List N} {l : List ByteArray} {d : Nat} {n : N} (hl : l ≠ []) (h : Way x l.dropLast d) (hn : x[d]? = some n) (hk : n.kind = 2) (hno : PD.has (ents n) (last l) = false) : walk x 0 l = (0, 2) := by
  rw [last_append hl, walk_append, h.walk]
  simp only [if_true]
  rw [show (((d + 1 : Nat) : Int) - 1).toNat = d by omega]
  exact has_no hn hk (by rw [names_at hn]; exact hno) []
theorem walk_there {x : List N} {l : List ByteArray} {d : Nat} {e : E} (hl : l ≠ []) (h : Way x l.dropLast d) (he : e ∈ names x d) (hn : e.1 = last l) : Way x l (ix e) := by
  rw [last_append hl, ← hn]
  exact .step h he

/-- A link that went. -/
theorem link2_yes {t : List N} (g : Fine t) {f l : List ByteArray} (h : (link2 t f l).2 = 0) : ∃ (k : Nat) (nk : N) (d : Nat) (n : N) (x : List N), walk t 0 f = (((k + 1 : Nat) : Int), 0) ∧ k < 9 ∧ t[k]? = some nk ∧ nk.kind = 1 ∧ l ≠ [] ∧ Way t l.dropLast d ∧ t[d]? = some n ∧ n.kind = 2 ∧ PD.has (ents n) (last l) = false ∧ put t d (last l, ((k + 1 : Nat) : Int)) = some x ∧ link2 t f l = (x, 0) := by
  unfold link2 at h ⊢
  by_cases h1 : (walk t 0 f).2 ≠ 0
  · rw [if_pos h1] at h; exact absurd h h1
  rw [if_neg h1] at h ⊢
  obtain ⟨k, nk, hwk, hk9, hnk, hnk0, _⟩ := g.walk_yes (Classical.not_not.1 h1)
  rw [hwk] at h ⊢
  simp only [px_succ] at h ⊢
  by_cases h2 : kindAt t k = 2
  · rw [if_pos h2] at h; cases h
  rw [if_neg h2] at h ⊢
  rw [kindAt_at hnk] at h2
  have hk1 := g.file_kind hnk hnk0 h2
  by_cases h3 : l = []
  · rw [if_pos h3] at h; cases h
  rw [if_neg h3] at h ⊢
  by_cases h4 : (place t l).2 ≠ 0
  · rw [if_pos h4] at h; exact absurd h h4
  rw [if_neg h4] at h ⊢
  obtain ⟨d, n, hd, _, _, hn, hn2, hw⟩ := g.place_yes (Classical.not_not.1 h4)
  rw [hd] at h ⊢
  simp only [px_succ] at h ⊢
  rw [names_at hn] at h ⊢
  by_cases h5 : PD.has (ents n) (last l) = true
  · rw [if_pos h5] at h; cases h
  rw [if_neg h5] at h ⊢
  cases hp : put t d (last l, ((k + 1 : Nat) : Int)) with
  | none => rw [hp] at h; cases h
  | some x => exact ⟨k, nk, d, n, x, rfl, hk9, hnk, hk1, h3, hw, hn, hn2, by simpa using h5, hp, rfl⟩
theorem link2_no {t : List N} {f l : List ByteArray} (h : (link2 t f l).2 ≠ 0) : (link2 t f l).1 = t := by
  unfold link2 link3 at h ⊢
  repeat' split
  all_goals first | rfl | (exfalso; simp_all)
/-- What a link does, and that it is undone. -/
theorem link2_back {t : List N} (g : Fine t) {f l : List ByteArray} (h : (link2 t f l).2 = 0) : ∃ (k : Nat) (nk : N), walk t 0 f = (((k + 1 : Nat) : Int), 0) ∧ k < 9 ∧ 0 < k ∧ t[k]? = some nk ∧ nk.kind = 1 ∧ walk (link2 t f l).1 0 l = (((k + 1 : Nat) : Int), 0) ∧ walk t 0 l = (0, 2) ∧ named (link2 t f l).1 k = named t k + 1 ∧ drop2 (link2 t f l).1 l = (t, 0) := by
  obtain ⟨k, nk, d, n, x, hwk, hk9, hnk, hk1, hl, hw, hn, hn2, hno, hp, he⟩ := link2_yes g h
  rw [he]
  have hs := g.shape d n hn
  obtain ⟨n', hx, hm⟩ := put_some (e := (last l, ((k + 1 : Nat) : Int))) g hn hn2 hno hp
  have hix : ix ((last l, ((k + 1 : Nat) : Int)) : E) = k := by unfold ix; omega
  have hmono : ∀ j y, y ∈ names t j → y ∈ names x j := fun j y hy => by rw [hx]; exact (names_more hn hm j y).2 (.inr hy)
  have hnew : ((last l, ((k + 1 : Nat) : Int)) : E) ∈ names x d := by rw [hx]; exact (names_more hn hm d _).2 (.inl ⟨rfl, rfl⟩)
  have hk0 : 0 < k := by
    rcases Nat.eq_zero_or_pos k with h0 | h0
    · obtain ⟨r, hr, hr2⟩ := g.root
      rw [h0, hr] at hnk
      injection hnk with hnk
      rw [← hnk, hr2] at hk1
      cases hk1
    · exact h0
  have hdk : d ≠ k := fun e => by
    rw [e, hnk] at hn
    injection hn with hn
    rw [hn, hn2] at hk1
    cases hk1
  have hlt := (List.getElem?_eq_some_iff.1 hn).1
  have hxk : x[k]? = some nk := by rw [hx, List.getElem?_set_ne hdk]; exact hnk
  have hxd : x[d]? = some n' := by rw [hx, List.getElem?_set_self hlt]
  have hwx := hw.mono hmono
  have hxl : walk x 0 l = (((k + 1 : Nat) : Int), 0) := by
    have := (walk_there hl hwx hnew rfl).walk
    rw [hix] at this
    exact this
  have hnz : named t k ≠ 0 := by
    obtain ⟨j, e, he2, hix2⟩ : ∃ (j : Nat) (e : E), e ∈ names t j ∧ ix e = k := by
      have hr := g.reach k nk hnk (by rw [hk1]; decide)
      cases hr with
      | root => omega
      | step _ he => exact ⟨_, _, he, rfl⟩
    intro hz
    obtain ⟨m, hm1, hm2⟩ := names_some he2
    have := cnt_le (t := t) (k := j) (j := ix e)
    have h2 := cnt_pos he2
    rw [hix2] at this h2
    omega
  refine ⟨k, nk, hwk, hk9, hk0, hnk, hk1, hxl, walk_missing hl hw hn hn2 hno, ?_, ?_⟩
  · show named x k = named t k + 1
    have := named_set (j := k) (n' := n') hn
    rw [hm.cnt k, if_pos hix, ← hx] at this
    omega
  · show drop2 x l = (t, 0)
    unfold drop2
    rw [hxl]
    simp only [px_succ]
    rw [if_neg (by simp), if_neg (by omega), if_neg (by rw [kindAt_at hxk, hk1]; simp), place_of hwx hxd hm.kind']
    simp only [px_succ]
    rw [take_put (e := (last l, ((k + 1 : Nat) : Int))) hs hn hn2 hno hp, if_neg hnz]
end PT
end Go.Proofs.YtdnobplhfbgbaaaGreatDoor
namespace Go.Proofs.YtdnobplhfbgbaaaGreatDoor
open Go

namespace PT
theorem In.trans {t : List N} {a b d : Nat} (h : In t a b) (k : In t b d) : In t a d := by
  induction k with
  | self => exact h
  | step _ he ih => exact .step ih he
theorem In.chain {t : List N} {a b : Nat} (h : In t a b) : ∃ l, Chain t a l b := by
  induction h with
  | self => exact ⟨[], .here⟩
  | step _ he ih =>
    obtain ⟨l, hl⟩ := ih
    exact ⟨_, .step hl he⟩
/-- No folder lies in what it holds. -/
theorem Fine.not_in {t : List N} (g : Fine t) {d : Nat} {n : N} {e : E} (hn : t[d]? = some n) (he : e ∈ ents n) (h : In t (ix e) d) : False := by
  have he' : e ∈ names t d := by rw [names_at hn]; exact he
  obtain ⟨m, hm, hm0⟩ := g.there d e he'
  obtain ⟨l, hl⟩ := h.chain
  have hr := g.reach (ix e) m hm hm0
  exact g.acyclic hr d l (.step hl he')
theorem less_not {n : N} {a : ByteArray} : ∀ y ∈ PD.rless (ents n) a, y.1 ≠ a := by
  intro y hy
  unfold PD.rless at hy
  split at hy
  · have := (List.mem_filter.1 hy).2
    simpa using this
  · rename_i h
    intro e
    apply h
    rw [PD.has, List.any_eq_true]
    exact ⟨y, hy, by simpa using e⟩
/-- A move that went. -/
theorem move2_yes {t : List N} (g : Fine t) {f l : List ByteArray} (h : (move2 t f l).2 = 0) : (f = l ∧ move2 t f l = (t, 0)) ∨
    ∃ (d : Nat) (n nk : N) (e : E) (d2 : Nat) (n2 : N) (x : List N), f ≠ [] ∧ l ≠ [] ∧ walk t 0 f = (((ix e + 1 : Nat) : Int), 0) ∧ ix e < 9 ∧ 0 < ix e ∧ t[ix e]? = some nk ∧ nk.kind ≠ 0 ∧ Way t f.dropLast d ∧ t[d]? = some n ∧ n.kind = 2 ∧ e ∈ ents n ∧ e.1 = last f ∧
      Way t l.dropLast d2 ∧ t[d2]? = some n2 ∧ n2.kind = 2 ∧ PD.has (ents n2) (last l) = false ∧ ¬ In t (ix e) d2 ∧ ¬ (d = d2 ∧ last f = last l) ∧ put (take t d e.1) d2 (last l, e.2) = some x ∧ move2 t f l = (x, 0) := by
  unfold move2 at h ⊢
  by_cases h1 : (walk t 0 f).2 ≠ 0
  · rw [if_pos h1] at h; exact absurd h h1
  rw [if_neg h1] at h ⊢
  by_cases h2 : px (walk t 0 f).1 = 0
  · rw [if_pos h2] at h; cases h
  rw [if_neg h2] at h ⊢
  obtain ⟨d, n, nk, e, hf, hpf, hd9, hn, hk, he, he1, hwk, hnk, hnk0, hix9⟩ := g.walk_last (Classical.not_not.1 h1) h2
  by_cases h3 : l = []
  · rw [if_pos h3] at h; cases h
  rw [if_neg h3] at h ⊢
  by_cases h4 : (place t l).2 ≠ 0
  · rw [if_pos h4] at h; exact absurd h h4
  rw [if_neg h4] at h ⊢
  obtain ⟨d2, n2, hd2, _, hd29, hn2, hk2, hw2⟩ := g.place_yes (Classical.not_not.1 h4)
  have hpf2 : (place t f).2 = 0 := by rw [hpf]
  obtain ⟨d', n', hd', _, _, hn', hk', hw'⟩ := g.place_yes hpf2
  have hdd : d' = d := by
    rw [hpf] at hd'
    injection hd' with hd' _
    omega
  subst hdd
  have hez : e.2 = ((ix e + 1 : Nat) : Int) := ix_int (t := t) (k := d') (by rw [names_at hn]; exact he)
  rw [hpf, hd2, hwk] at h ⊢
  simp only [px_succ] at h ⊢
  rw [names_at hn2] at h ⊢
  by_cases h5 : ((d' + 1 : Nat) : Int) = ((d2 + 1 : Nat) : Int) ∧ last f = last l
  · rw [if_pos h5]
    left
    obtain ⟨h6, h7⟩ := h5
    have hdd : d' = d2 := by omega
    subst hdd
    have := g.one_way hw' hw2 ⟨n, hn, hk⟩
    refine ⟨?_, rfl⟩
    rw [last_append hf, last_append h3, this, h7]
  rw [if_neg h5] at h ⊢
  right
  by_cases h6 : PD.has (ents n2) (last l) = true
  · rw [if_pos h6] at h; cases h
  rw [if_neg h6] at h ⊢
  by_cases h7 : kindAt t (ix e) = 2 ∧ inB t 9 d2 (ix e) = true
  · rw [if_pos h7] at h; cases h
  rw [if_neg h7] at h ⊢
  have hin : ¬ In t (ix e) d2 := fun hi => h7 (by
    have hd2k : kindAt t d2 = 2 := by rw [kindAt_at hn2]; exact hk2
    have hkk := hi.folder hd2k
    obtain ⟨c, hc⟩ := g.chain_of hnk hnk0
    exact ⟨hkk, (g.inB_iff hd2k 9 c (ix e) hc (by omega)).2 hi⟩)
  rw [← hez, ← he1] at h ⊢
  cases hp : put (take t d' e.1) d2 (last l, e.2) with
  | none => rw [hp] at h; cases h
  | some x =>
    refine ⟨d', n, nk, e, d2, n2, x, hf, h3, by rw [hez], hix9, g.ix_pos (k := d') (by rw [names_at hn]; exact he), hnk, hnk0, hw', hn, hk, he, rfl, hw2, hn2, hk2, by simpa using h6, hin, fun hx => h5 ⟨by rw [hx.1], by rw [← he1]; exact hx.2⟩, hp, by first | rfl | (rw [hp]; rfl)⟩
theorem move2_no {t : List N} {f l : List ByteArray} (h : (move2 t f l).2 ≠ 0) : (move2 t f l).1 = t := by
  unfold move2 link3 at h ⊢
  repeat' split
  all_goals first | rfl | (exfalso; simp_all)
/-- What a move does, and that it is undone. -/
theorem move2_back {t : List N} (g : Fine t) {f l : List ByteArray} (h : (move2 t f l).2 = 0) (hne : f ≠ l) : ∃ (k : Nat) (nk : N), walk t 0 f = (((k + 1 : Nat) : Int), 0) ∧ k < 9 ∧ t[k]? = some nk ∧ (move2 t f l).1[k]? = some nk ∧ walk (move2 t f l).1 0 l = (((k + 1 : Nat) : Int), 0) ∧ walk (move2 t f l).1 0 f = (0, 2) ∧ move2 (move2 t f l).1 l f = (t, 0) := by
  have gx := move_fine g (some f) (some l)
  rw [show move t (some f) (some l) = move2 t f l from rfl] at gx
  rcases move2_yes g h with ⟨he, _⟩ | ⟨d, n, nk, e, d2, n2, x, hf, hl, hwk, hk9, hk0, hnk, hnk0, hwd, hn, hn2, hen, he1, hwd2, hm2, hm22, hno, hin, hnp, hp, hmv⟩
  · exact absurd he hne
  rw [hmv] at gx ⊢
  have gx : Fine x := gx
  show ∃ (k : Nat) (nk : N), walk t 0 f = (((k + 1 : Nat) : Int), 0) ∧ k < 9 ∧ t[k]? = some nk ∧ x[k]? = some nk ∧ walk x 0 l = (((k + 1 : Nat) : Int), 0) ∧ walk x 0 f = (0, 2) ∧ move2 x l f = (t, 0)
  obtain ⟨n', hy, hmo, hsh', _⟩ := take_at g hn hen
  have hltd := (List.getElem?_eq_some_iff.1 hn).1
  have hltd2 := (List.getElem?_eq_some_iff.1 hm2).1
  have hez : e.2 = ((ix e + 1 : Nat) : Int) := ix_int (t := t) (k := d) (by rw [names_at hn]; exact hen)
  have hind : ¬ In t (ix e) d := fun hi => g.not_in hn hen hi
  obtain ⟨y, hyy⟩ : ∃ y, take t d e.1 = y := ⟨_, rfl⟩
  have hyset : y = t.set d n' := hyy.symm.trans hy
  rw [hyy] at hp
  have hyd : y[d]? = some n' := by rw [hyset, List.getElem?_set_self hltd]
  -- t is y with one name more
  have hty : t = y.set d n := by rw [hyset, List.set_set]; exact (set_same hn).symm
  have hnames : ∀ j z, z ∈ names t j ↔ (d = j ∧ z = e) ∨ z ∈ names y j := fun j z => by
    have := names_more hyd hmo j z
    rw [← hty] at this
    exact this
  have hnoy : ∀ z ∈ ents n', z.1 ≠ e.1 := by
    intro z hz
    have h1 : take t d e.1 = t.set d (withNames n (PD.rless (ents n) e.1)) := by rw [take, hn]
    rw [hy] at h1
    have h2 : n' = withNames n (PD.rless (ents n) e.1) := by
      have a1 : (t.set d n')[d]? = some n' := List.getElem?_set_self hltd
      rw [h1, List.getElem?_set_self hltd] at a1
      injection a1 with a1
      exact a1.symm
    have h3 : ents n' = PD.rless (ents n) e.1 := by
      obtain ⟨htk, _⟩ := folder_took hn2 (g.shape d n hn)
      obtain ⟨hi, hpp⟩ := PD.place_part (ents_srt n) hen
      have hl : PD.less (ents n) e.1 = (ents n).take (PD.place (ents n) e.1) ++ (ents n).drop (PD.place (ents n) e.1 + 1) := by rw [PD.less, hi]; rfl
      have h0 := PD.ok_took htk
      rw [hpp] at h0
      rw [h2, ← PD.less_same e.1 (ents_srt n)]
      refine withNames_ents hn2 ?_
      rw [hl]
      exact PD.ok_drop h0
    rw [h3] at hz
    exact less_not z hz
  -- the other folder in y
  obtain ⟨m2, hym2, hym22, hms2, hmsub⟩ : ∃ m2 : N, y[d2]? = some m2 ∧ m2.kind = 2 ∧ PT.shape m2 ∧ ∀ z, z ∈ ents m2 → z ∈ ents n2 := by
    rcases Classical.em (d = d2) with hdd | hdd
    · subst hdd
      refine ⟨n', hyd, hmo.kind, hsh', fun z hz => ?_⟩
      rw [hn] at hm2
      injection hm2 with hm2
      subst hm2
      exact (hmo.mem z).2 (.inr hz)
    · exact ⟨n2, by rw [hyset, List.getElem?_set_ne hdd]; exact hm2, hm22, g.shape d2 n2 hm2, fun z hz => hz⟩
  have hno2 : PD.has (ents m2) (last l) = false := by
    rw [PD.has, List.any_eq_false] at hno ⊢
    exact fun z hz => hno z (hmsub z hz)
  have hlty2 : d2 < y.length := (List.getElem?_eq_some_iff.1 hym2).1
  obtain ⟨m2', hx, hmo2⟩ : ∃ m2', x = y.set d2 m2' ∧ More m2 m2' (last l, e.2) := by
    rw [put, hym2] at hp
    simp only at hp
    split at hp
    · rename_i hok
      rw [← PD.with_same (last l, e.2) (ents_srt m2)] at hok hp
      injection hp with hp
      exact ⟨_, hp.symm, more_put (e := (last l, e.2)) hym22 hms2 (by rw [has_isAt]; exact hno2) hok⟩
    · cases hp
  have hix : ix ((last l, e.2) : E) = ix e := rfl
  have hnx : ∀ j z, z ∈ names x j ↔ (d2 = j ∧ z = (last l, e.2)) ∨ z ∈ names y j := fun j z => by rw [hx]; exact names_more hym2 hmo2 j z
  have hxd2 : x[d2]? = some m2' := by rw [hx, List.getElem?_set_self hlty2]
  -- ways that do not go through what is moved stay
  have hway : ∀ {p : List ByteArray} {j : Nat}, Way t p j → ¬ In t (ix e) j → Way x p j := by
    intro p j hw
    induction hw with
    | root => intro _; exact .root
    | @step p k' e' _ he' ih =>
      intro hni
      have h1 : ¬ In t (ix e) k' := fun hi => hni (.step hi he')
      refine .step (ih h1) ((hnx _ _).2 (.inr ?_))
      rcases (hnames _ _).1 he' with ⟨_, hee⟩ | h2
      · rw [hee] at hni
        exact absurd .self hni
      · exact h2
  have hwx2 := hway hwd2 hin
  have hwx := hway hwd hind
  have hnew : ((last l, e.2) : E) ∈ names x d2 := (hnx _ _).2 (.inl ⟨rfl, rfl⟩)
  have hxl := walk_there hl hwx2 hnew rfl
  rw [hix] at hxl
  -- the folder that it was in
  obtain ⟨nd, hxd, hxd22⟩ : ∃ nd : N, x[d]? = some nd ∧ nd.kind = 2 := by
    rcases Classical.em (d2 = d) with hdd | hdd
    · rw [← hdd]; exact ⟨m2', hxd2, hmo2.kind'⟩
    · exact ⟨n', by rw [hx, List.getElem?_set_ne hdd]; exact hyd, hmo.kind⟩
  have hnof : PD.has (ents nd) (last f) = false := by
    rw [PD.has, List.any_eq_false]
    intro z hz hzf
    have hzf : z.1 = last f := by simpa using hzf
    rw [← names_at hxd] at hz
    rcases (hnx _ _).1 hz with ⟨hdd, hzz⟩ | hz2
    · rw [hzz] at hzf
      exact hnp ⟨hdd.symm, hzf.symm⟩
    · rw [names_at hyd] at hz2
      exact hnoy z hz2 (hzf.trans he1.symm)
  have hkd : d ≠ ix e := fun e' => hind (e' ▸ .self)
  have hkd2 : d2 ≠ ix e := fun e' => hin (e' ▸ .self)
  have hxk : x[ix e]? = some nk := by rw [hx, List.getElem?_set_ne hkd2, hyset, List.getElem?_set_ne hkd]; exact hnk
  refine ⟨ix e, nk, hwk, hk9, hnk, hxk, hxl.walk, walk_missing hf hwx hxd hxd22 hnof, ?_⟩
  -- back again
  have hinx : ¬ In x (ix e) d := by
    have : ∀ j, In x (ix e) j → In t (ix e) j := by
      intro j hj
      induction hj with
      | self => exact .self
      | @step k' e' _ he' ih =>
        rcases (hnx _ _).1 he' with ⟨hdd, _⟩ | h2
        · rw [← hdd] at ih; exact absurd ih hin
        · exact .step ih ((hnames _ _).2 (.inr h2))
    exact fun hi => hind (this d hi)
  have hpl := place_of hwx hxd hxd22
  have hpl2 := place_of hwx2 hxd2 hmo2.kind'
  unfold move2
  rw [hxl.walk, hpl, hpl2]
  simp only [px_succ]
  rw [if_neg (by simp), if_neg (by omega), if_neg hf, if_neg (by simp), if_neg (fun hx => hnp ⟨by omega, hx.2.symm⟩), names_at hxd, hnof, if_neg (by decide), if_neg (fun hx2 => hinx ?_)]
  · have htp : take x d2 (last l) = y := take_put (e := (last l, e.2)) hms2 hym2 hym22 hno2 hp
    have hpt : put (take t d e.1) d e = some t := put_take (g.shape d n hn) hn hn2 hen
    rw [hyy] at hpt
    rw [htp, show ((last f, ((ix e + 1 : Nat) : Int)) : E) = e from by rw [← he1, ← hez], hpt]
    rfl
  · obtain ⟨c, hc⟩ := gx.chain_of hxk hnk0
    exact (gx.inB_iff (by rw [kindAt_at hxd]; exact hxd22) 9 c (ix e) hc (by omega)).1 hx2.2
end PT
end Go.Proofs.YtdnobplhfbgbaaaGreatDoor
