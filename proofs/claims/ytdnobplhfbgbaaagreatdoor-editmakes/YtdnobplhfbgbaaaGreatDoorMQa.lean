/-
  The plain words for memory, on: a text of one's own, strings and their bytes; a row of entries, one of one's own, a piece of one; an entry in a box.
  Plain facts: which entries may be, that they rise, their bytes; where a name stands. No program in this text.
  Contracts: dir.may, dir.rise.
  Contract: dir.text.
  Contracts: dir.place, dir.joined.
-/
import Derived.Test.YtdnobplhfbgbaaaGreatDoorMNb
import Derived.Laws.Cover1
import Derived.Sort.Walk0
namespace Go.Proofs.YtdnobplhfbgbaaaGreatDoor
open Go.ChangeShapes Go.WideShapes Go.ChangeAt Go.RowKit Go.Joins

/-- v is the text bs, in memory of one's own, from block 'base' on. -/
def Ow (w : World) (base : Nat) (v : Value) (bs : List Nat) : Prop := w.ownsRow base 5 1 v bs.length (bs.map bv) ∧ ∀ b ∈ bs, b < 256
theorem Ow.text {w : World} {base : Nat} {v : Value} {bs : List Nat} (h : Ow w base v bs) (hm : bs.length ≤ 1048576) : Tx w v bs := ⟨Sl.own h.1, h.2, hm⟩

theorem Ow.on {w w' : World} {base : Nat} {v : Value} {bs : List Nat} (h : Ow w base v bs) (hb : Below w.heap.size w w') : Ow w' base v bs := by
  refine ⟨⟨h.1.1, ?_⟩, h.2⟩
  rcases h.1.2 with h0 | ⟨g, cap, cur, hv, hg, hh, hr⟩
  · exact .inl h0
  · exact .inr ⟨g, cap, cur, hv, hg, Bx.on (show Bx w g 5 cur from hh) hb, hr⟩
/-- A text as a string, a string as a text. -/
def str (l : List Nat) : ByteArray := strOfNums (l.map Int.ofNat)
def nums (s : ByteArray) : List Nat := s.data.toList.map fun b => b.toNat
theorem str_nums (s : ByteArray) : str (nums s) = s := by
  unfold str nums strOfNums
  cases s with
  | mk d =>
    congr 1
    apply Array.ext'
    simp [List.map_map, Function.comp_def]
theorem nums_length (s : ByteArray) : (nums s).length = s.size := by
  rw [nums, List.length_map, Array.length_toList]; rfl
theorem nums_lt (s : ByteArray) : ∀ b ∈ nums s, b < 256 := by
  intro b hb
  obtain ⟨x, _, rfl⟩ := List.mem_map.1 hb
  exact x.toNat_lt
theorem nums_cells (s : ByteArray) : Lib.strCells s = (nums s).map bv := by
  simp [Lib.strCells, nums, bv, List.map_map, Function.comp_def]

/-- A text, made a string. -/
theorem Tx.string {w : World} {v : Value} {bs : List Nat} (h : Tx w v bs) : (convert 30 9 v).run Tryz.prog w = .ok (.string (str bs)) w := by
  obtain ⟨⟨A, c, rfl, hl, hA⟩, hb, hm⟩ := h
  cases hbs : bs with
  | nil =>
    subst hbs
    simp [convert, run_underlying Tryz.underlying30, run_underlying Tryz.underlying9, run_underlying Tryz.underlying5, str, strOfNums]
    cases A <;> simp [Conv.bytesToString, loadCells] <;> rfl
  | cons x r =>
    obtain ⟨b, o, rfl, _, hc⟩ := hA (by rw [hbs]; simp)
    rw [← hbs]
    refine run_convert_bytes_arg w 30 5 Tryz.underlying30 Tryz.underlying5 b o bs.length c (bs.map Int.ofNat) (by simp) (fun i hi => ?_) 9 Tryz.underlying9
    rw [hc i (by omega)]
    simp [bv, hi]


theorem nums_str (l : List Nat) (h : ∀ b ∈ l, b < 256) : nums (str l) = l := by
  unfold nums str strOfNums
  simp only [List.map_map]
  have : (l.map ((fun b : UInt8 => b.toNat) ∘ ((fun n : Int => UInt8.ofNat n.toNat) ∘ Int.ofNat))) = l.map id := by
    apply List.map_congr_left
    intro b hb
    have := h b hb
    simp
    omega
  simpa using this
theorem str_inj {a b : List Nat} (ha : ∀ x ∈ a, x < 256) (hb : ∀ x ∈ b, x < 256) (h : str a = str b) : a = b := by
  rw [← nums_str a ha, ← nums_str b hb, h]
theorem nums_inj {a b : ByteArray} (h : nums a = nums b) : a = b := by
  rw [← str_nums a, ← str_nums b, h]


/-- An entry: its name, its number. -/
abbrev E := ByteArray × Int
def I64 (z : Int) : Prop := -9223372036854775808 ≤ z ∧ z ≤ 9223372036854775807
def ev (e : E) : Array Value := #[.string e.1, .int .i64 e.2]
/-- The cells of a row of entries. -/
def cs (l : List E) : List Value := l.flatMap fun e => [.string e.1, .int .i64 e.2]
theorem cs_length (l : List E) : (cs l).length = l.length * 2 := by
  induction l with
  | nil => rfl
  | cons e r ih => simp [cs] at ih ⊢; omega
theorem cs_cons (e : E) (r : List E) : cs (e :: r) = .string e.1 :: .int .i64 e.2 :: cs r := rfl
theorem cs_append (a b : List E) : cs (a ++ b) = cs a ++ cs b := by simp [cs]
theorem cs_one (e : E) : cs [e] = [.string e.1, .int .i64 e.2] := rfl
theorem cs_at : ∀ (l : List E) (k : Nat) (e : E), l[k]? = some e → (cs l)[k * 2]? = some (.string e.1) ∧ (cs l)[k * 2 + 1]? = some (.int .i64 e.2)
  | [], k, e, h => by simp at h
  | x :: r, 0, e, h => by
    simp at h
    subst h
    exact ⟨rfl, rfl⟩
  | x :: r, k + 1, e, h => by
    have := cs_at r k e (by simpa using h)
    rw [cs_cons, show (k + 1) * 2 = k * 2 + 1 + 1 by omega]
    exact this
theorem cs_take (l : List E) (k : Nat) : (cs l).take (k * 2) = cs (l.take k) := by
  induction l generalizing k with
  | nil => simp [cs]
  | cons e r ih =>
    cases k with
    | zero => simp [cs]
    | succ k => rw [cs_cons, show (k + 1) * 2 = k * 2 + 1 + 1 by omega, List.take_succ_cons, List.take_succ_cons, ih, List.take_succ_cons, cs_cons]
theorem cs_drop (l : List E) (k : Nat) : (cs l).drop (k * 2) = cs (l.drop k) := by
  induction l generalizing k with
  | nil => simp [cs]
  | cons e r ih =>
    cases k with
    | zero => simp
    | succ k => rw [cs_cons, show (k + 1) * 2 = k * 2 + 1 + 1 by omega, List.drop_succ_cons, List.drop_succ_cons, ih, List.drop_succ_cons]
theorem cs_cell (l : List E) : ∀ u ∈ cs l, u.oneCell' = true := by
  intro u hu
  obtain ⟨e, _, h⟩ := List.mem_flatMap.1 hu
  simp at h
  rcases h with rfl | rfl <;> rfl

theorem Tryz.info75 : (Tryz.prog.info? 75).map (fun i => (i.zero, i.size, i.bytes)) = some (some (.agg #[.string { data := #[] }, .int .i64 0]), 2, 24) := by kernel_rfl

/-- A row of entries. -/
def Fit (l : List E) : Prop := (∀ e ∈ l, e.1.size ≤ 1048576 ∧ I64 e.2) ∧ l.length ≤ 65536
def Es (w : World) (v : Value) (l : List E) : Prop := Sl w 2 v l.length (cs l) ∧ Fit l
theorem Es.below {w w' : World} {v : Value} {l : List E} (h : Es w v l) (hb : Below w.heap.size w w') : Es w' v l := ⟨h.1.below hb, h.2⟩
theorem Es.nil (w : World) : Es w (.slice none 0 0) [] := ⟨⟨none, 0, rfl, rfl, fun h => absurd h (by decide)⟩, by simp, by decide⟩
theorem Es.form {w : World} {v : Value} {l : List E} (h : Es w v l) : ∃ A c, v = .slice A l.length c := by
  obtain ⟨⟨A, c, hv, _⟩, _⟩ := h
  exact ⟨A, c, hv⟩
theorem Es.at {w : World} {A : Option Addr} {n c : Nat} {l : List E} (h : Es w (.slice A n c) l) (h0 : 0 < l.length) : ∃ b o, A = some ⟨b, o, none⟩ ∧ b < w.heap.size ∧ ∀ j x, l[j]? = some x → w.cell? ⟨b, o + j * 2, none⟩ = some (.string x.1) ∧ w.cell? ⟨b, o + j * 2 + 1, none⟩ = some (.int .i64 x.2) := by
  obtain ⟨A', c', hv, hl, hA⟩ := h.1
  injection hv with e1 e2 e3
  subst e1
  obtain ⟨b, o, e, hb, hc⟩ := hA h0
  refine ⟨b, o, e, hb, fun j x hj => ?_⟩
  have hlt : j < l.length := (List.getElem?_eq_some_iff.1 hj).1
  obtain ⟨c1, c2⟩ := cs_at l j x hj
  refine ⟨(hc _ (by omega)).trans c1, ?_⟩
  rw [Nat.add_assoc]
  exact (hc _ (by omega)).trans c2
theorem Sl.new2 (w : World) (cs : Array Value) (t : TypeId) (fr : Nat × Nat) (n c g : Nat) (hg : g = w.heap.size) (h : cs.size = n * 2) : Sl (w.alloc (.cells cs t fr)) 2 (.slice (some ⟨g, 0, none⟩) n c) n cs.toList := by
  refine ⟨_, _, rfl, by simpa using h, fun _ => ⟨_, 0, rfl, by simp [hg], fun j _ => ?_⟩⟩
  rw [Nat.zero_add, cell_alloc_mark_at w cs t fr g j hg]
  simp
theorem Es.new (w : World) (C : Array Value) (fr : Nat × Nat) (n c g : Nat) (hg : g = w.heap.size) (l : List E) (hc : C.toList = cs l) (hn : l.length = n) (hb : Fit l) : Es (w.alloc (.cells C 75 fr)) (.slice (some ⟨g, 0, none⟩) n c) l := by
  have := Sl.new2 w C 75 fr n c g hg (by rw [← Array.length_toList, hc, cs_length, hn])
  rw [hc] at this
  exact ⟨by rw [hn]; exact this, hb⟩

/-- A row of entries of one's own. -/
def Eo (w : World) (base : Nat) (v : Value) (l : List E) : Prop := w.ownsRow base 75 2 v l.length (cs l)
theorem Eo.on {w w' : World} {base : Nat} {v : Value} {l : List E} (h : Eo w base v l) (hb : Below w.heap.size w w') : Eo w' base v l := by
  refine ⟨h.1, ?_⟩
  rcases h.2 with h0 | ⟨g, cap, cur, hv, hg, hh, hr⟩
  · exact .inl h0
  · exact .inr ⟨g, cap, cur, hv, hg, Bx.on (show Bx w g 75 cur from hh) hb, hr⟩
theorem Eo.row {w : World} {base : Nat} {v : Value} {l : List E} (h : Eo w base v l) (hz : Fit l) : Es w v l := ⟨Sl.own h, hz⟩
theorem Eo.cap {w : World} {base : Nat} {v : Value} {l : List E} (h : Eo w base v l) : ∃ A c, v = .slice A l.length c ∧ l.length ≤ c := own_cap h
theorem Eo.nil (w : World) (base : Nat) : Eo w base (.slice none 0 0) [] := World.ownsRow_nil _ _ _ _

theorem Fit.sub {l m : List E} (h : Fit l) (hs : ∀ e ∈ m, e ∈ l) (hl : m.length ≤ l.length) : Fit m := ⟨fun e he => h.1 e (hs e he), by have := h.2; omega⟩
theorem Fit.take {l : List E} (h : Fit l) (k : Nat) : Fit (l.take k) := h.sub (fun _ he => List.mem_of_mem_take he) (by simp; omega)
theorem Fit.drop {l : List E} (h : Fit l) (k : Nat) : Fit (l.drop k) := h.sub (fun _ he => List.mem_of_mem_drop he) (by simp)

/-- The front and the rest of a row of entries. -/
theorem Es.front {A : Option Addr} {n c p : Nat} {l : List E} (l0 : l.length = n) (hp : p ≤ n) (hnc : n ≤ c) : ∃ A' c', p ≤ c' ∧ (∀ W, (Instr.slice 69 (.slice A n c) none (some (.int .i64 (p : Int))) none).run Tryz.prog W = .ok (.slice A' p c') W) ∧ ∀ W, Es W (.slice A n c) l → Es W (.slice A' p c') (l.take p) := by
  refine ⟨if c = 0 then A else A.map (·.add (0 * 2)), c - 0, by omega, fun W => ?_, fun W h => ?_⟩
  · rw [run_slice_h W 69 A n c (by kernel_rfl) .i64 (p : Int) (by omega) (by omega)]
    kernel_rfl
  · obtain ⟨⟨A', c', hv, hl, hA⟩, hb⟩ := h
    injection hv with e1 e2 e3
    subst e1 e3
    have hlen : (l.take p).length = p := by rw [List.length_take]; omega
    refine ⟨⟨_, c, by rw [hlen]; rfl, cs_length _, fun hn => ?_⟩, hb.take p⟩
    rw [hlen] at hn
    obtain ⟨b, o, rfl, hbs, hc⟩ := hA (by omega)
    refine ⟨b, o, ?_, hbs, fun j hj => ?_⟩
    · rw [if_neg (by omega)]
      simp [Addr.add_lit]
    · rw [hlen] at hj
      rw [hc j (by omega), ← cs_take, List.getElem?_take, if_pos hj]
theorem Es.rest {A : Option Addr} {n c p : Nat} {l : List E} (l0 : l.length = n) (hp : p ≤ n) (hnc : n ≤ c) : ∃ A' c', n - p ≤ c' ∧ (∀ W, (Instr.slice 69 (.slice A n c) (some (.int .i64 (p : Int))) none none).run Tryz.prog W = .ok (.slice A' (n - p) c') W) ∧ ∀ W, Es W (.slice A n c) l → Es W (.slice A' (n - p) c') (l.drop p) := by
  refine ⟨if c = p then A else A.map (·.add (p * 2)), c - p, by omega, fun W => ?_, fun W h => ?_⟩
  · rw [run_slice_l W 69 A n c (by kernel_rfl) .i64 (p : Int) (by omega) (by omega)]
    kernel_rfl
  · obtain ⟨⟨A', c', hv, hl, hA⟩, hb⟩ := h
    injection hv with e1 e2 e3
    subst e1 e3
    have hlen : (l.drop p).length = n - p := by rw [List.length_drop, l0]
    refine ⟨⟨_, c - p, by rw [hlen], cs_length _, fun hn => ?_⟩, hb.drop p⟩
    rw [hlen] at hn
    obtain ⟨b, o, rfl, hbs, hc⟩ := hA (by omega)
    refine ⟨b, o + p * 2, ?_, hbs, fun j hj => ?_⟩
    · rw [if_neg (by omega)]
      simp [Addr.add_lit]
    · rw [hlen] at hj
      have := hc (p * 2 + j) (by omega)
      rw [← Nat.add_assoc] at this
      rw [this, ← cs_drop, List.getElem?_drop]
end Go.Proofs.YtdnobplhfbgbaaaGreatDoor
namespace Go.Proofs.YtdnobplhfbgbaaaGreatDoor
open Go

namespace PD
/-- By bytes. -/
def lt (a b : ByteArray) : Bool := Op.bytesLess a.toList b.toList
theorem lt_eq (a b : ByteArray) : lt a b = decide (a.toList < b.toList) := bytesLess_eq _ _
theorem lt_irrefl (a : ByteArray) : lt a a = false := by rw [lt_eq]; simp
theorem lt_trans {a b c : ByteArray} (h : lt a b = true) (k : lt b c = true) : lt a c = true := by
  rw [lt_eq, decide_eq_true_eq] at *
  exact List.lt_trans h k
theorem lt_asymm {a b : ByteArray} (h : lt a b = true) : lt b a = false := by
  cases k : lt b a with
  | false => rfl
  | true => rw [lt_trans h k |>.symm.trans (lt_irrefl a)] at *
theorem toList_inj {a b : ByteArray} (h : a.toList = b.toList) : a = b := by
  rw [ByteArray.toList_eq, ByteArray.toList_eq] at h
  exact ByteArray.ext (Array.toList_inj.mp h)
theorem lt_total {a b : ByteArray} (h : lt a b = false) (k : a ≠ b) : lt b a = true := by
  rw [lt_eq, decide_eq_false_iff_not] at h
  rw [lt_eq, decide_eq_true_eq]
  rcases Std.lt_trichotomy a.toList b.toList with x | x | x
  · exact absurd x h
  · exact absurd (toList_inj x) k
  · exact x
def may (e : E) : Bool := PN.own e.1.data.toList && (decide (1 ≤ e.2) && decide (e.2 ≤ 9))
/-- Whether all of l may be and rise; the last name. -/
def step (a : Bool × ByteArray) (e : E) : Bool × ByteArray := (a.1 && (may e && lt a.2 e.1), e.1)
def rs (l : List E) : Bool × ByteArray := l.foldl step (true, { data := #[] })
def rise (l : List E) : Bool := (rs l).1
def ent (e : E) : List Nat := e.1.size :: (nums e.1 ++ [e.2.toNat])
def bytes (l : List E) : List Nat := l.flatMap ent
def ok (l : List E) : Bool := rise l && decide ((bytes l).length ≤ 120)
def put (l : List E) : ByteArray := if ok l = true then str (bytes l) else { data := #[] }

theorem rs_snoc (l : List E) (e : E) : rs (l ++ [e]) = step (rs l) e := by simp [rs]
theorem rs_false : ∀ (m : List E) (a : Bool × ByteArray), a.1 = false → (m.foldl step a).1 = false
  | [], _, h => h
  | e :: r, a, h => rs_false r _ (by simp [step, h])
theorem rise_front {l : List E} {k : Nat} (h : rise (l.take k) = false) : rise l = false := by
  rw [← List.take_append_drop k l, rise, rs, List.foldl_append]
  exact rs_false _ _ h
theorem bytes_snoc (l : List E) (e : E) : bytes (l ++ [e]) = bytes l ++ ent e := by simp [bytes]
theorem ent_length (e : E) : (ent e).length = e.1.size + 2 := by simp [ent, nums_length]
theorem may_size {e : E} (h : may e = true) : 1 ≤ e.1.size ∧ e.1.size ≤ 6 ∧ 1 ≤ e.2 ∧ e.2 ≤ 9 := by
  simp only [may, Bool.and_eq_true, decide_eq_true_eq] at h
  have := PN.own_pos h.1
  rw [← Lib.size_eq] at this
  exact ⟨this.1, this.2, h.2⟩
theorem rs_may : ∀ (m : List E) (a : Bool × ByteArray), (m.foldl step a).1 = true → ∀ e ∈ m, may e = true
  | [], _, _ => by simp
  | x :: r, a, h => by
    intro e he
    rcases List.mem_cons.1 he with rfl | he
    · cases hm : may e with
      | true => rfl
      | false => rw [List.foldl_cons, rs_false r _ (by simp [step, hm])] at h; cases h
    · exact rs_may r _ h e he
theorem rise_may {l : List E} (h : rise l = true) : ∀ e ∈ l, may e = true := rs_may l _ h
theorem bytes_le {l : List E} (h : ∀ e ∈ l, may e = true) : (bytes l).length ≤ 8 * l.length := by
  induction l with
  | nil => simp [bytes]
  | cons e r ih =>
    have h1 := may_size (h e (by simp))
    have h2 := ih fun x hx => h x (by simp [hx])
    have h3 : (bytes (e :: r)).length = (e.1.size + 2) + (bytes r).length := by
      rw [bytes, List.flatMap_cons, List.length_append, ent_length]; rfl
    rw [h3, List.length_cons]
    omega
theorem bytes_lt {l : List E} (h : ∀ e ∈ l, may e = true) : ∀ b ∈ bytes l, b < 256 := by
  intro b hb
  obtain ⟨e, he, hb⟩ := List.mem_flatMap.1 hb
  have := may_size (h e he)
  simp only [ent, List.mem_cons, List.mem_append, List.not_mem_nil, or_false] at hb
  rcases hb with rfl | hb | rfl
  · omega
  · exact nums_lt _ _ hb
  · omega

/-- Where a name stands, or would stand. -/
def place (l : List E) (n : ByteArray) : Nat := (l.takeWhile fun e => lt e.1 n).length
def isAt (l : List E) (n : ByteArray) : Bool := match l[place l n]? with
  | some e => e.1.toList == n.toList
  | none => false
def inoAt (l : List E) (n : ByteArray) : Int := match l[place l n]? with
  | some e => e.2
  | none => 0
theorem place_le (l : List E) (n : ByteArray) : place l n ≤ l.length := (List.takeWhile_sublist _).length_le
/-- Of the first k all are below n. -/
def low (l : List E) (n : ByteArray) (k : Nat) : Prop := ∀ e ∈ l.take k, lt e.1 n = true
theorem low_place : ∀ (l : List E) (n : ByteArray) (k : Nat) (e : E), low l n k → l[k]? = some e → lt e.1 n = false → place l n = k
  | [], n, k, e, _, hk, _ => by simp at hk
  | x :: r, n, 0, e, _, hk, hl => by
    simp at hk
    subst hk
    simp [place, hl]
  | x :: r, n, k + 1, e, h, hk, hl => by
    have hx : lt x.1 n = true := h x (by simp)
    have := low_place r n k e (fun y hy => h y (by simp [hy])) (by simpa using hk) hl
    rw [place] at this ⊢
    simp [hx, this]
theorem low_end {l : List E} {n : ByteArray} (h : low l n l.length) : place l n = l.length := by
  rw [low, List.take_length] at h
  rw [place]
  congr 1
  have : l.takeWhile (fun e => lt e.1 n) = l := by
    induction l with
    | nil => rfl
    | cons e r ih => rw [List.takeWhile_cons, if_pos (h e (by simp)), ih fun x hx => h x (by simp [hx])]
  exact this
theorem low_succ {l : List E} {n : ByteArray} {k : Nat} {e : E} (h : low l n k) (hk : l[k]? = some e) (hl : lt e.1 n = true) : low l n (k + 1) := by
  intro x hx
  rw [List.take_add_one, hk] at hx
  simp at hx
  rcases hx with hx | rfl
  · exact h x hx
  · exact hl
end PD
end Go.Proofs.YtdnobplhfbgbaaaGreatDoor
namespace Go.Proofs.YtdnobplhfbgbaaaGreatDoor
open Go.RowKit Go.Joins

theorem Bx.pair {w : World} {g : Nat} {s : ByteArray} {z : Int} (h : Bx w g 75 #[.string s, .int .i64 z]) : w.cell? ⟨g, 0, none⟩ = some (.string s) ∧ w.cell? ⟨g, 1, none⟩ = some (.int .i64 z) := ⟨h.cell 0, h.cell 1⟩

set_option maxHeartbeats 2000000 in
theorem dmay_any (s : ByteArray) (z : Int) (w : World) : Calls Tryz.prog 181 #[.agg #[.string s, .int .i64 z]] w fun e w' => e = .returned (.bool (PD.may (s, z))) ∧ Below w.heap.size w w' := by
  have hf : PD.may (s, z) = (PN.own s.data.toList && (decide (1 ≤ z) && decide (z ≤ 9))) := rfl
  rw [hf]
  have ho := own_any s
  have hB := al w (.cells #[.string s, .int .i64 z] 75)
  obtain ⟨c0, c1⟩ := (Bx.new w 75 #[.string s, .int .i64 z]).pair
  generalize PN.own s.data.toList = o at *
  clear hf
  cases o
  · go_enter Tryz.func181, Tryz.ntmps181
    go_wp2_with (go_at_call 140; refine (ho _).mono ?_; rintro e w1 ⟨rfl, rfl⟩)
    go_ret
    exact ⟨rfl, hB⟩
  · by_cases h1 : 1 ≤ z
    · have e1 : decide (1 ≤ z) = true := by simpa using h1
      rw [e1]
      go_enter Tryz.func181, Tryz.ntmps181
      go_wp2_with (go_at_call 140; refine (ho _).mono ?_; rintro e w1 ⟨rfl, rfl⟩)
      go_ret
      exact ⟨by simp, hB⟩
    · have e1 : decide (1 ≤ z) = false := by simpa using h1
      rw [e1]
      go_enter Tryz.func181, Tryz.ntmps181
      go_wp2_with (go_at_call 140; refine (ho _).mono ?_; rintro e w1 ⟨rfl, rfl⟩)
      go_ret
      exact ⟨rfl, hB⟩

set_option maxHeartbeats 4000000 in
theorem rise_any (v : Value) (l : List E) (w : World) (h : Es w v l) : Calls Tryz.prog 163 #[v] w fun e w' => e = .returned (.bool (PD.rise l)) ∧ Below w.heap.size w w' := by
  obtain ⟨A, c, rfl⟩ := h.form
  have hl := h.2.2
  obtain ⟨f, hf⟩ : ∃ f, PD.rise l = f := ⟨_, rfl⟩
  rw [hf]
  generalize hL : l.length = L at *
  have HF := Lib.hid hf
  have HS := Lib.hid h
  have HL := Lib.hid hL
  clear hf h hL
  go_enter Tryz.func163, Tryz.ntmps163
  go_wp2
  go_loopw [3, 8] (fun s i wr => ∃ (k : Nat) (t : ByteArray), k ≤ L ∧ i = .int .i64 (k : Int) ∧ s = .string t ∧ PD.rs (l.take k) = (true, t) ∧ Below w.heap.size w wr) (fun _ i _ => L - (intOf i).toNat)
  case atStart => exact ⟨0, _, Nat.zero_le _, rfl, rfl, rfl, Below.refl _ _⟩
  case round =>
    obtain ⟨k, t, hk, rfl, rfl, ht, hB⟩ := hrel
    by_cases hlt : k < L
    · obtain ⟨b0, o0, rfl, hb0, hcell⟩ := (HS.out.below hB).at (by rw [HL.out]; omega)
      obtain ⟨x, hx⟩ : ∃ x, l[k]? = some x := ⟨_, List.getElem?_eq_getElem (by rw [HL.out]; omega)⟩
      obtain ⟨g0, g1⟩ := hcell k x hx
      have hnx : PD.rs (l.take (k + 1)) = (PD.may x && PD.lt t x.1, x.1) := by
        rw [List.take_add_one, hx]
        have := PD.rs_snoc (l.take k) x
        rw [ht] at this
        simpa [PD.step] using this
      have hno : (PD.may x && PD.lt t x.1) = false → f = false := fun e => by
        rw [← HF.out]
        exact PD.rise_front (k := k + 1) (by rw [PD.rise, hnx]; exact e)
      have hm := dmay_any x.1 x.2
      obtain ⟨s, z⟩ := x
      have HN := Lib.hid hnx
      have HNO := Lib.hid hno
      have HT := Lib.hid ht
      clear hcell hx hnx hno ht
      have hb1 := hB.alloc hB.size (.cells #[.string s, .int .i64 z] 75)
      have hbx := Bx.new wr 75 #[.string s, .int .i64 z]
      go_upto_region 5 with fail
      generalize wr.alloc (.cells #[.string s, .int .i64 z] 75) = w2 at *
      generalize wr.heap.size = gx at *
      clear g0 g1 hb0 hB
      obtain ⟨c0, c1⟩ := hbx.pair
      have hm2 : ∀ W, Below w2.heap.size w2 W → W.cell? ⟨gx, 0, none⟩ = some (.string s) := fun W hW => (hbx.on hW).pair.1
      have HM2 := Lib.hid hm2
      clear hm2
      generalize PD.may (s, z) = mm at *
      cases mm with
      | false =>
        have hr := HNO.out rfl
        subst hr
        go_wp2_with (go_at_call 181; refine (hm _).mono ?_; rintro e w3 ⟨rfl, hB3⟩; have c2 := HM2.out _ hB3)
        go_ret
        exact ⟨rfl, hb1.trans (hB3.mono hb1.size)⟩
      | true =>
        cases hlt2 : PD.lt t s with
        | false =>
          have hr := HNO.out (by simpa using hlt2)
          subst hr
          cases hlt3 : PD.lt s t with
          | true =>
            rw [PD.lt] at hlt3
            clear hlt2 HN HNO HT
            go_wp2_with (go_at_call 181; refine (hm _).mono ?_; rintro e w3 ⟨rfl, hB3⟩; have c2 := HM2.out _ hB3)
            go_ret
            exact ⟨rfl, hb1.trans (hB3.mono hb1.size)⟩
          | false =>
            have hst : s = t := by
              rcases Classical.em (s = t) with h | h
              · exact h
              · rw [PD.lt_total hlt3 h] at hlt2; cases hlt2
            subst hst
            rw [PD.lt] at hlt3
            have hq : (s.toList == s.toList) = true := seq_yes s
            clear hlt2 HN HNO HT
            go_wp2_with (go_at_call 181; refine (hm _).mono ?_; rintro e w3 ⟨rfl, hB3⟩; have c2 := HM2.out _ hB3)
            go_ret
            exact ⟨rfl, hb1.trans (hB3.mono hb1.size)⟩
        | true =>
          have hp : Op.bytesLess s.toList t.toList = false := PD.lt_asymm hlt2
          have hq : (s.toList == t.toList) = false := seq_no fun e => by rw [e, PD.lt_irrefl] at hlt2; cases hlt2
          have hn : PD.rs (l.take (k + 1)) = (true, s) := by rw [HN.out]; simp [hlt2]
          have HN2 := Lib.hid hn
          clear hlt2 HN HNO HT hn
          go_wp2_with (go_at_call 181; refine (hm _).mono ?_; rintro e w3 ⟨rfl, hB3⟩; have c2 := HM2.out _ hB3)
          go_roundw
          case rel => exact ⟨k + 1, s, by omega, by go_num, rfl, HN2.out, hb1.trans (hB3.mono hb1.size)⟩
          case measure => simp [intOf]; omega
    · have hkn : k = L := by omega
      subst hkn
      have hr : f = true := by
        rw [← HF.out, PD.rise]
        rw [List.take_of_length_le (by rw [HL.out]; exact Nat.le_refl _)] at ht
        rw [ht]
      subst hr
      clear HF HS HL ht
      go_wp2
      go_ret
      exact ⟨rfl, hB⟩
end Go.Proofs.YtdnobplhfbgbaaaGreatDoor
namespace Go.Proofs.YtdnobplhfbgbaaaGreatDoor
open Go.RowKit Go.Joins

theorem Bx.grown {w w' : World} {g : Nat} {t : TypeId} {cs : Array Value} {row : Option Nat} (h : Bx w g t cs) (hg : w.grownBy w' row) (hne : row ≠ some g) : Bx w' g t cs := (hg.block g h.lt (fun e => hne e.symm)).trans h
theorem own_lt {w : World} {base size n k : Nat} {e : TypeId} {v : Value} {xs : List Value} (h : w.ownsRow base e size v n xs) (hk : v.ownBlock = some k) : k < w.heap.size := by
  rcases h.2 with ⟨rfl, rfl⟩ | ⟨g, cap, _, rfl, hg, hh, _⟩
  · simp [Value.ownBlock] at hk
  · simp [Value.ownBlock] at hk
    subst hk
    exact Bx.lt (cs := _) (t := e) hh
theorem own_ne {w : World} {base size n g : Nat} {e t : TypeId} {v : Value} {xs : List Value} {cs : Array Value} (h : w.ownsRow base e size v n xs) (hb : Bx w g t cs) (hte : t ≠ e) : v.ownBlock ≠ some g := by
  intro hk
  rcases h.2 with ⟨rfl, rfl⟩ | ⟨g', cap, _, rfl, hg, hh, _⟩
  · simp [Value.ownBlock] at hk
  · simp [Value.ownBlock] at hk
    subst hk
    unfold Bx at hb
    rw [hh] at hb
    injection hb with hb
    injection hb with _ hb
    exact hte hb.symm

theorem Ow.more {w : World} {base n m : Nat} {v : Value} {bs cs : List Nat} {xs : List Value} (h : w.ownsRow base 5 1 v (n + m) (bs.map bv ++ xs)) (hn : bs.length = n) (hm : cs.length = m) (hx : xs = cs.map bv) (hb : ∀ b ∈ bs, b < 256) (hc : ∀ b ∈ cs, b < 256) : Ow w base v (bs ++ cs) := by
  subst hn hm hx
  refine ⟨by rw [List.length_append, List.map_append]; exact h, fun b hb' => ?_⟩
  rcases List.mem_append.1 hb' with h | h
  · exact hb b h
  · exact hc b h

end Go.Proofs.YtdnobplhfbgbaaaGreatDoor
namespace Go.Proofs.YtdnobplhfbgbaaaGreatDoor
open Go.RowKit Go.Joins
set_option maxHeartbeats 4000000 in
theorem place_any (v : Value) (l : List E) (n : ByteArray) (w : World) (h : Es w v l) : Calls Tryz.prog 142 #[v, .string n] w fun e w' => e = .returned (.tuple #[.int .i64 (PD.place l n : Nat), .bool (PD.isAt l n)]) ∧ Below w.heap.size w w' := by
  obtain ⟨A, c, rfl⟩ := h.form
  have hl := h.2.2
  obtain ⟨f, hf⟩ : ∃ f, PD.place l n = f := ⟨_, rfl⟩
  obtain ⟨b, hb⟩ : ∃ b, PD.isAt l n = b := ⟨_, rfl⟩
  rw [hf, hb]
  generalize hL : l.length = L at *
  have HF := Lib.hid hf
  have HB := Lib.hid hb
  have HS := Lib.hid h
  have HL := Lib.hid hL
  clear hf h hL hb
  go_enter Tryz.func142, Tryz.ntmps142
  go_wp2
  go_loopw [10] (fun i wr => ∃ k : Nat, k ≤ L ∧ i = .int .i64 (k : Int) ∧ PD.low l n k ∧ Below w.heap.size w wr) (fun i _ => L - (intOf i).toNat)
  case atStart => exact ⟨0, Nat.zero_le _, rfl, fun e he => by simp at he, Below.refl _ _⟩
  case round =>
    obtain ⟨k, hk, rfl, hlow, hB⟩ := hrel
    by_cases hlt : k < L
    · obtain ⟨b0, o0, rfl, hb0, hcell⟩ := (HS.out.below hB).at (by rw [HL.out]; omega)
      obtain ⟨x, hx⟩ : ∃ x, l[k]? = some x := ⟨_, List.getElem?_eq_getElem (by rw [HL.out]; omega)⟩
      obtain ⟨g0, g1⟩ := hcell k x hx
      have hb1 := hB.alloc hB.size (.cells (ev x) 75)
      have hbx := Bx.new wr 75 (ev x)
      cases hlt2 : PD.lt x.1 n with
      | true =>
        have hlo := PD.low_succ hlow hx hlt2
        obtain ⟨s, z⟩ := x
        rw [PD.lt] at hlt2
        dsimp only [ev] at hb1 hbx g0 g1 hlt2
        have HLO := Lib.hid hlo
        clear hcell hx hlow hlo
        go_upto_region 4 with fail
        generalize wr.alloc (.cells #[.string s, .int .i64 z] 75) = w2 at *
        generalize wr.heap.size = gx at *
        clear g0 g1 hb0 hB
        obtain ⟨c0, c1⟩ := hbx.pair
        go_wp2
        go_roundw
        case rel => exact ⟨k + 1, by omega, by go_num, HLO.out, hb1⟩
        case measure => simp [intOf]; omega
      | false =>
        have hp := PD.low_place l n k x hlow hx hlt2
        have hfk : f = k := by rw [← HF.out]; exact hp
        have hbe : b = (x.1.toList == n.toList) := by rw [← HB.out, PD.isAt, hp, hx]
        obtain ⟨s, z⟩ := x
        rw [PD.lt] at hlt2
        dsimp only [ev] at hb1 hbx g0 g1 hlt2 hbe
        subst hfk
        have HBE := Lib.hid hbe
        clear hcell hx hlow hp hbe
        go_upto_region 4 with fail
        generalize wr.alloc (.cells #[.string s, .int .i64 z] 75) = w2 at *
        generalize wr.heap.size = gx at *
        clear g0 g1 hb0 hB
        obtain ⟨c0, c1⟩ := hbx.pair
        go_wp2_with fail
        go_quiet (fail)
        go_wp2
        go_ret2
        rw [HBE.out]
        exact ⟨rfl, drewN_below hb1 _⟩
    · have hkn : k = L := by omega
      subst hkn
      have hp := PD.low_end (l := l) (n := n) (by rw [HL.out]; exact hlow)
      have hfk : f = k := by rw [← HF.out, hp, HL.out]
      have hbe : b = false := by rw [← HB.out, PD.isAt, hp, List.getElem?_eq_none (Nat.le_refl _)]
      subst hfk hbe
      clear HF HS HL hp HB hlow
      go_wp2
      go_ret2
      exact ⟨rfl, hB⟩

theorem Eo.more {w : World} {base n : Nat} {v : Value} {l : List E} {e : E} {xs ys : List Value} (h : w.ownsRow base 75 2 v (n + 1) (xs ++ ys)) (hn : l.length = n) (hx : cs l = xs) (hy : ys = [.string e.1, .int .i64 e.2]) : Eo w base v (l ++ [e]) := by
  subst hn hx hy
  unfold Eo
  rw [List.length_append, cs_append]
  exact h

/-- As 'wp_region_rel'; what is done has its forerunners done; a slot that nothing done has written holds what it held. -/
theorem wp_region_rel3 {P : Program} {id : Nat} {ops : Array Oper} {Q : Exit → Act → World → Prop} {a0 : Act} {w0 : World} (hm : P.follows .mixedOrders = true)
    (ok : regionOk ops a0.tmps.size = true)
    (W : (Nat → Bool) → World → Prop) (R : Nat → Value → World → Prop)
    (start : W (fun _ => false) w0.drew)
    (each : ∀ i, i < ops.size → ∀ (done : Nat → Bool) a w, done i = false → Closed ops done → Closed ops (fun j => done j || j == i) → (∀ t, (∀ (j : Nat) o, ops[j]? = some o → done j = true → o.dst ≠ some t) → a.tmps[t]? = a0.tmps[t]?) →
      predsOf ops R a w i → W done w →
      ∀ K : Act → World → Prop, (∀ v w', (((ops[i]?).bind (·.dst)) = none → v = undef) → W (fun j => done j || j == i) w' → (∀ j v', done j = true → R j v' w → R j v' w') → R i v w' → K (a.put ((ops[i]?).bind (·.dst)) v) w') → wpOp P ops Q i K a w)
    (fin : ∀ (vs : Option Tmp → Value) w done, (∀ j, j < ops.size → R j (vs ((ops[j]?).bind (·.dst))) w) → (∀ j, j < ops.size → done j = true) → W done w → Q .normal (putAll vs ops.toList a0) w) :
    (Code.region id ops true).wp P Q a0 w0 := by
  refine wp_region_rel hm ok (fun done w => W done w ∧ Closed ops done) R ⟨start, fun _ _ _ h => by cases h⟩ (fun i o ho done a w hi0 hedge hF hRs hWw K hK => ?_) (fun vs w done hRs hall hWw => ?_)
  · have hi : i < ops.size := by
      rcases Nat.lt_or_ge i ops.size with h' | h'
      · exact h'
      · rw [Array.getElem?_eq_none h'] at ho; cases ho
    have hcl : Closed ops (fun j => done j || j == i) := by
      intro j oj hoj hj e he hb
      by_cases hji : j = i
      · subst hji
        obtain rfl : o = oj := Option.some.inj (ho.symm.trans hoj)
        simp [hedge e he hb]
      · have hj' : done j = true := by simpa [hji] using hj
        simp [hWw.2 j oj hoj hj' e he hb]
    refine each i hi done a w hi0 hWw.2 hcl (fun t ht => hF.rest t ht) ?_ hWw.1 K fun v w' hv hW' hst hRi => ?_
    · unfold predsOf
      rw [ho]
      intro e he hb
      cases hoe : ops[e.on]? with
      | none => trivial
      | some oe => exact hRs e.on oe hoe (hedge e (by simpa using he) hb)
    · rw [ho] at hv ⊢
      exact hK v w' hv ⟨hW', hcl⟩ hst hRi
  · refine fin vs w done (fun j hj => ?_) (fun j hj => hall j _ (Array.getElem?_eq_getElem hj)) hWw.1
    rw [Array.getElem?_eq_getElem hj]
    exact hRs j _ (Array.getElem?_eq_getElem hj)


end Go.Proofs.YtdnobplhfbgbaaaGreatDoor
