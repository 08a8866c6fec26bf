/-
  The plain words for memory, on: a text of one's own, strings and their bytes; a row of entries, one of one's own, a piece of one; an entry in a box.
-/
import Derived.Test.YtckkljiaicmljaaNc
import Derived.Laws.Cover1
namespace Go.Proofs.Ytckkljiaicmljaa
open Go.ChangeShapes Go.WideShapes Go.ChangeAt Go.RowKit Go.Joins

/-- v is the text bs, in memory of one's own, from block 'base' on. -/
def Ow (w : World) (base : Nat) (v : Value) (bs : List Nat) : Prop := w.ownsRow base 5 1 v bs.length (bs.map bv) ∧ ∀ b ∈ bs, b < 256
theorem Ow.text {w : World} {base : Nat} {v : Value} {bs : List Nat} (h : Ow w base v bs) (hm : bs.length ≤ 1048576) : Tx w v bs := ⟨Sl.own h.1, h.2, hm⟩

theorem Ow.on {w w' : World} {base : Nat} {v : Value} {bs : List Nat} (h : Ow w base v bs) (hb : Below w.heap.size w w') : Ow w' base v bs := by
  refine ⟨⟨h.1.1, ?_⟩, h.2⟩
  rcases h.1.2 with h0 | ⟨g, cap, cur, hv, hg, hh, hr⟩
  · exact .inl h0
  · exact .inr ⟨g, cap, cur, hv, hg, Bx.on (show Bx w g 5 cur from hh) hb, hr⟩
/-- A text as a string, a string as a text. -/
def str (l : List Nat) : ByteArray := strOfNums (l.map Int.ofNat)
def nums (s : ByteArray) : List Nat := s.data.toList.map fun b => b.toNat
theorem str_nums (s : ByteArray) : str (nums s) = s := by
  unfold str nums strOfNums
  cases s with
  | mk d =>
    congr 1
    apply Array.ext'
    simp [List.map_map, Function.comp_def]
theorem nums_length (s : ByteArray) : (nums s).length = s.size := by
  rw [nums, List.length_map, Array.length_toList]; rfl
theorem nums_lt (s : ByteArray) : ∀ b ∈ nums s, b < 256 := by
  intro b hb
  obtain ⟨x, _, rfl⟩ := List.mem_map.1 hb
  exact x.toNat_lt
theorem nums_cells (s : ByteArray) : Lib.strCells s = (nums s).map bv := by
  simp [Lib.strCells, nums, bv, List.map_map, Function.comp_def]

/-- A text, made a string. -/
theorem Tx.string {w : World} {v : Value} {bs : List Nat} (h : Tx w v bs) : (convert 22 9 v).run Try.prog w = .ok (.string (str bs)) w := by
  obtain ⟨⟨A, c, rfl, hl, hA⟩, hb, hm⟩ := h
  cases hbs : bs with
  | nil =>
    subst hbs
    simp [convert, run_underlying Try.underlying22, run_underlying Try.underlying9, run_underlying Try.underlying5, str, strOfNums]
    cases A <;> simp [Conv.bytesToString, loadCells] <;> rfl
  | cons x r =>
    obtain ⟨b, o, rfl, _, hc⟩ := hA (by rw [hbs]; simp)
    rw [← hbs]
    refine run_convert_bytes_arg w 22 5 Try.underlying22 Try.underlying5 b o bs.length c (bs.map Int.ofNat) (by simp) (fun i hi => ?_) 9 Try.underlying9
    rw [hc i (by omega)]
    simp [bv, hi]


theorem nums_str (l : List Nat) (h : ∀ b ∈ l, b < 256) : nums (str l) = l := by
  unfold nums str strOfNums
  simp only [List.map_map]
  have : (l.map ((fun b : UInt8 => b.toNat) ∘ ((fun n : Int => UInt8.ofNat n.toNat) ∘ Int.ofNat))) = l.map id := by
    apply List.map_congr_left
    intro b hb
    have := h b hb
    simp
    omega
  simpa using this
theorem str_inj {a b : List Nat} (ha : ∀ x ∈ a, x < 256) (hb : ∀ x ∈ b, x < 256) (h : str a = str b) : a = b := by
  rw [← nums_str a ha, ← nums_str b hb, h]
theorem nums_inj {a b : ByteArray} (h : nums a = nums b) : a = b := by
  rw [← str_nums a, ← str_nums b, h]


/-- An entry: its name, its number. -/
abbrev E := ByteArray × Int
def I64 (z : Int) : Prop := -9223372036854775808 ≤ z ∧ z ≤ 9223372036854775807
def ev (e : E) : Array Value := #[.string e.1, .int .i64 e.2]
/-- The cells of a row of entries. -/
def cs (l : List E) : List Value := l.flatMap fun e => [.string e.1, .int .i64 e.2]
theorem cs_length (l : List E) : (cs l).length = l.length * 2 := by
  induction l with
  | nil => rfl
  | cons e r ih => simp [cs] at ih ⊢; omega
theorem cs_cons (e : E) (r : List E) : cs (e :: r) = .string e.1 :: .int .i64 e.2 :: cs r := rfl
theorem cs_append (a b : List E) : cs (a ++ b) = cs a ++ cs b := by simp [cs]
theorem cs_one (e : E) : cs [e] = [.string e.1, .int .i64 e.2] := rfl
theorem cs_at : ∀ (l : List E) (k : Nat) (e : E), l[k]? = some e → (cs l)[k * 2]? = some (.string e.1) ∧ (cs l)[k * 2 + 1]? = some (.int .i64 e.2)
  | [], k, e, h => by simp at h
  | x :: r, 0, e, h => by
    simp at h
    subst h
    exact ⟨rfl, rfl⟩
  | x :: r, k + 1, e, h => by
    have := cs_at r k e (by simpa using h)
    rw [cs_cons, show (k + 1) * 2 = k * 2 + 1 + 1 by omega]
    exact this
theorem cs_take (l : List E) (k : Nat) : (cs l).take (k * 2) = cs (l.take k) := by
  induction l generalizing k with
  | nil => simp [cs]
  | cons e r ih =>
    cases k with
    | zero => simp [cs]
    | succ k => rw [cs_cons, show (k + 1) * 2 = k * 2 + 1 + 1 by omega, List.take_succ_cons, List.take_succ_cons, ih, List.take_succ_cons, cs_cons]
theorem cs_drop (l : List E) (k : Nat) : (cs l).drop (k * 2) = cs (l.drop k) := by
  induction l generalizing k with
  | nil => simp [cs]
  | cons e r ih =>
    cases k with
    | zero => simp
    | succ k => rw [cs_cons, show (k + 1) * 2 = k * 2 + 1 + 1 by omega, List.drop_succ_cons, List.drop_succ_cons, ih, List.drop_succ_cons]
theorem cs_cell (l : List E) : ∀ u ∈ cs l, u.oneCell' = true := by
  intro u hu
  obtain ⟨e, _, h⟩ := List.mem_flatMap.1 hu
  simp at h
  rcases h with rfl | rfl <;> rfl

theorem Try.info26 : (Try.prog.info? 26).map (fun i => (i.zero, i.size, i.bytes)) = some (some (.agg #[.string { data := #[] }, .int .i64 0]), 2, 24) := by kernel_rfl

/-- A row of entries. -/
def Fit (l : List E) : Prop := (∀ e ∈ l, e.1.size ≤ 1048576 ∧ I64 e.2) ∧ l.length ≤ 65536
def Es (w : World) (v : Value) (l : List E) : Prop := Sl w 2 v l.length (cs l) ∧ Fit l
theorem Es.below {w w' : World} {v : Value} {l : List E} (h : Es w v l) (hb : Below w.heap.size w w') : Es w' v l := ⟨h.1.below hb, h.2⟩
theorem Es.nil (w : World) : Es w (.slice none 0 0) [] := ⟨⟨none, 0, rfl, rfl, fun h => absurd h (by decide)⟩, by simp, by decide⟩
theorem Es.form {w : World} {v : Value} {l : List E} (h : Es w v l) : ∃ A c, v = .slice A l.length c := by
  obtain ⟨⟨A, c, hv, _⟩, _⟩ := h
  exact ⟨A, c, hv⟩
theorem Es.at {w : World} {A : Option Addr} {n c : Nat} {l : List E} (h : Es w (.slice A n c) l) (h0 : 0 < l.length) : ∃ b o, A = some ⟨b, o, none⟩ ∧ b < w.heap.size ∧ ∀ j x, l[j]? = some x → w.cell? ⟨b, o + j * 2, none⟩ = some (.string x.1) ∧ w.cell? ⟨b, o + j * 2 + 1, none⟩ = some (.int .i64 x.2) := by
  obtain ⟨A', c', hv, hl, hA⟩ := h.1
  injection hv with e1 e2 e3
  subst e1
  obtain ⟨b, o, e, hb, hc⟩ := hA h0
  refine ⟨b, o, e, hb, fun j x hj => ?_⟩
  have hlt : j < l.length := (List.getElem?_eq_some_iff.1 hj).1
  obtain ⟨c1, c2⟩ := cs_at l j x hj
  refine ⟨(hc _ (by omega)).trans c1, ?_⟩
  rw [Nat.add_assoc]
  exact (hc _ (by omega)).trans c2
theorem Sl.new2 (w : World) (cs : Array Value) (t : TypeId) (fr : Nat × Nat) (n c g : Nat) (hg : g = w.heap.size) (h : cs.size = n * 2) : Sl (w.alloc (.cells cs t fr)) 2 (.slice (some ⟨g, 0, none⟩) n c) n cs.toList := by
  refine ⟨_, _, rfl, by simpa using h, fun _ => ⟨_, 0, rfl, by simp [hg], fun j _ => ?_⟩⟩
  rw [Nat.zero_add, cell_alloc_mark_at w cs t fr g j hg]
  simp
theorem Es.new (w : World) (C : Array Value) (fr : Nat × Nat) (n c g : Nat) (hg : g = w.heap.size) (l : List E) (hc : C.toList = cs l) (hn : l.length = n) (hb : Fit l) : Es (w.alloc (.cells C 26 fr)) (.slice (some ⟨g, 0, none⟩) n c) l := by
  have := Sl.new2 w C 26 fr n c g hg (by rw [← Array.length_toList, hc, cs_length, hn])
  rw [hc] at this
  exact ⟨by rw [hn]; exact this, hb⟩

/-- A row of entries of one's own. -/
def Eo (w : World) (base : Nat) (v : Value) (l : List E) : Prop := w.ownsRow base 26 2 v l.length (cs l)
theorem Eo.on {w w' : World} {base : Nat} {v : Value} {l : List E} (h : Eo w base v l) (hb : Below w.heap.size w w') : Eo w' base v l := by
  refine ⟨h.1, ?_⟩
  rcases h.2 with h0 | ⟨g, cap, cur, hv, hg, hh, hr⟩
  · exact .inl h0
  · exact .inr ⟨g, cap, cur, hv, hg, Bx.on (show Bx w g 26 cur from hh) hb, hr⟩
theorem Eo.row {w : World} {base : Nat} {v : Value} {l : List E} (h : Eo w base v l) (hz : Fit l) : Es w v l := ⟨Sl.own h, hz⟩
theorem Eo.cap {w : World} {base : Nat} {v : Value} {l : List E} (h : Eo w base v l) : ∃ A c, v = .slice A l.length c ∧ l.length ≤ c := own_cap h
theorem Eo.nil (w : World) (base : Nat) : Eo w base (.slice none 0 0) [] := World.ownsRow_nil _ _ _ _

theorem Fit.sub {l m : List E} (h : Fit l) (hs : ∀ e ∈ m, e ∈ l) (hl : m.length ≤ l.length) : Fit m := ⟨fun e he => h.1 e (hs e he), by have := h.2; omega⟩
theorem Fit.take {l : List E} (h : Fit l) (k : Nat) : Fit (l.take k) := h.sub (fun _ he => List.mem_of_mem_take he) (by simp; omega)
theorem Fit.drop {l : List E} (h : Fit l) (k : Nat) : Fit (l.drop k) := h.sub (fun _ he => List.mem_of_mem_drop he) (by simp)

/-- The front and the rest of a row of entries. -/
theorem Es.front {A : Option Addr} {n c p : Nat} {l : List E} (l0 : l.length = n) (hp : p ≤ n) (hnc : n ≤ c) : ∃ A' c', p ≤ c' ∧ (∀ W, (Instr.slice 23 (.slice A n c) none (some (.int .i64 (p : Int))) none).run Try.prog W = .ok (.slice A' p c') W) ∧ ∀ W, Es W (.slice A n c) l → Es W (.slice A' p c') (l.take p) := by
  refine ⟨if c = 0 then A else A.map (·.add (0 * 2)), c - 0, by omega, fun W => ?_, fun W h => ?_⟩
  · rw [run_slice_h W 23 A n c (by kernel_rfl) .i64 (p : Int) (by omega) (by omega)]
    kernel_rfl
  · obtain ⟨⟨A', c', hv, hl, hA⟩, hb⟩ := h
    injection hv with e1 e2 e3
    subst e1 e3
    have hlen : (l.take p).length = p := by rw [List.length_take]; omega
    refine ⟨⟨_, c, by rw [hlen]; rfl, cs_length _, fun hn => ?_⟩, hb.take p⟩
    rw [hlen] at hn
    obtain ⟨b, o, rfl, hbs, hc⟩ := hA (by omega)
    refine ⟨b, o, ?_, hbs, fun j hj => ?_⟩
    · rw [if_neg (by omega)]
      simp [Addr.add_lit]
    · rw [hlen] at hj
      rw [hc j (by omega), ← cs_take, List.getElem?_take, if_pos hj]
theorem Es.rest {A : Option Addr} {n c p : Nat} {l : List E} (l0 : l.length = n) (hp : p ≤ n) (hnc : n ≤ c) : ∃ A' c', n - p ≤ c' ∧ (∀ W, (Instr.slice 23 (.slice A n c) (some (.int .i64 (p : Int))) none none).run Try.prog W = .ok (.slice A' (n - p) c') W) ∧ ∀ W, Es W (.slice A n c) l → Es W (.slice A' (n - p) c') (l.drop p) := by
  refine ⟨if c = p then A else A.map (·.add (p * 2)), c - p, by omega, fun W => ?_, fun W h => ?_⟩
  · rw [run_slice_l W 23 A n c (by kernel_rfl) .i64 (p : Int) (by omega) (by omega)]
    kernel_rfl
  · obtain ⟨⟨A', c', hv, hl, hA⟩, hb⟩ := h
    injection hv with e1 e2 e3
    subst e1 e3
    have hlen : (l.drop p).length = n - p := by rw [List.length_drop, l0]
    refine ⟨⟨_, c - p, by rw [hlen], cs_length _, fun hn => ?_⟩, hb.drop p⟩
    rw [hlen] at hn
    obtain ⟨b, o, rfl, hbs, hc⟩ := hA (by omega)
    refine ⟨b, o + p * 2, ?_, hbs, fun j hj => ?_⟩
    · rw [if_neg (by omega)]
      simp [Addr.add_lit]
    · rw [hlen] at hj
      have := hc (p * 2 + j) (by omega)
      rw [← Nat.add_assoc] at this
      rw [this, ← cs_drop, List.getElem?_drop]
end Go.Proofs.Ytckkljiaicmljaa
