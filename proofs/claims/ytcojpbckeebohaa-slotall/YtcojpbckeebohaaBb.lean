/-
  The plain words for memory: a slice that reads as a list of cells, a text, a row of numbers, a text in memory of one's own; texts and rows that the call lays itself; 'append' onto one's own; conversions to strings.
-/
import Derived.Test.YtcojpbckeebohaaRows
import Derived.Test.YtcojpbckeebohaaBa
import Derived.WalkKit
import Derived.WalkSpells
import Derived.WalkLawsBesides
import Derived.Lib.Hide
import Derived.Laws.BitsAll
import Derived.Lib.SmallJoins
import Derived.Lib.AppendStr
import Derived.ProofKit
import Derived.OpenShut
import Derived.Below
namespace Go.Proofs.Ytcojpbckeebohaa
open Go.ChangeShapes Go.WideShapes Go.ChangeAt Go.RowKit Go.Joins

theorem Try.info5 : (Try.prog.info? 5).map (fun i => (i.zero, i.size, i.bytes)) = some (some (.int .u8 0), 1, 1) := by kernel_rfl
theorem Try.info3 : (Try.prog.info? 3).map (fun i => (i.zero, i.size, i.bytes)) = some (some (.int .i64 0), 1, 8) := by kernel_rfl

/-- The slice value v has n elements of 'size' cells each; the cells are xs; they lie in a block that is there. -/
def Sl (w : World) (size : Nat) (v : Value) (n : Nat) (xs : List Value) : Prop :=
  ∃ A c, v = .slice A n c ∧ xs.length = n * size ∧ (0 < n → ∃ b o, A = some ⟨b, o, none⟩ ∧ b < w.heap.size ∧ ∀ j, j < n * size → w.cell? ⟨b, o + j, none⟩ = xs[j]?)

theorem Sl.keep {w w' : World} {size : Nat} {v : Value} {n : Nat} {xs : List Value} (h : Sl w size v n xs) (hs : w.heap.size ≤ w'.heap.size) (hk : ∀ p : Addr, p.block < w.heap.size → w'.cell? p = w.cell? p) : Sl w' size v n xs := by
  obtain ⟨A, c, rfl, hl, h⟩ := h
  refine ⟨A, c, rfl, hl, fun hn => ?_⟩
  obtain ⟨b, o, hA, hb, hc⟩ := h hn
  exact ⟨b, o, hA, by omega, fun j hj => (hk _ hb).trans (hc j hj)⟩
theorem Sl.below {w w' : World} {size : Nat} {v : Value} {n : Nat} {xs : List Value} (h : Sl w size v n xs) (hb : Below w.heap.size w w') : Sl w' size v n xs :=
  h.keep hb.size fun _ hp => hb.cell hp
theorem Sl.own {w : World} {base : Nat} {e : TypeId} {size : Nat} {v : Value} {n : Nat} {xs : List Value} (h : w.ownsRow base e size v n xs) : Sl w size v n xs := by
  obtain ⟨hl, h⟩ := h
  rcases h with ⟨rfl, rfl⟩ | ⟨g, cap, cur, rfl, hb, hh, hn, hm, hs, ht⟩
  · exact ⟨_, _, rfl, hl, fun h => absurd h (by omega)⟩
  · refine ⟨_, _, rfl, hl, fun _ => ⟨g, 0, rfl, ?_, fun j hj => ?_⟩⟩
    · rcases Nat.lt_or_ge g w.heap.size with h | h
      · exact h
      · rw [Array.getElem?_eq_none h] at hh; cases hh
    · have hx : xs[j]? = cur[j]? := by
        rw [← ht, List.getElem?_take, if_pos (by omega)]; simp
      rw [hx]
      simp [World.cell?, hh]
theorem Sl.new (w : World) (cs : Array Value) (t : TypeId) (fr : Nat × Nat) (n c g : Nat) (hg : g = w.heap.size) (h : cs.size = n) : Sl (w.alloc (.cells cs t fr)) 1 (.slice (some ⟨g, 0, none⟩) n c) n cs.toList := by
  refine ⟨_, _, rfl, by simpa using h, fun _ => ⟨_, 0, rfl, by simp [hg], fun j _ => ?_⟩⟩
  rw [Nat.zero_add, cell_alloc_mark_at w cs t fr g j hg]
  simp
theorem Sl.cells {w : World} {size : Nat} {ad : Addr} {n c : Nat} {xs : List Value} (h : Sl w size (.slice (some ad) n c) n xs) : xs.length = n * size ∧ ∀ j u, xs[j]? = some u → w.cell? (ad.add j) = some u := by
  obtain ⟨A, c', hv, hl, h⟩ := h
  injection hv with hA _ _
  refine ⟨hl, fun j u hj => ?_⟩
  have hj' : j < xs.length := (List.getElem?_eq_some_iff.1 hj).1
  have hn : 0 < n := by
    rcases Nat.eq_zero_or_pos n with rfl | h0
    · simp at hl; subst hl; simp at hj'
    · exact h0
  obtain ⟨b, o, rfl, _, hc⟩ := h hn
  injection hA with hA
  subst hA
  rw [Addr.add_lit]
  exact (hc j (by omega)).trans hj
theorem Sl.nil {w : World} {size : Nat} {n c : Nat} {xs : List Value} (h : Sl w size (.slice none n c) n xs) : n = 0 ∧ xs = [] := by
  obtain ⟨A, c', hv, hl, h⟩ := h
  injection hv with hA _ _
  rcases Nat.eq_zero_or_pos n with rfl | h0
  · exact ⟨rfl, List.eq_nil_of_length_eq_zero (by simpa using hl)⟩
  · obtain ⟨b, o, rfl, _⟩ := h h0
    cases hA
theorem al (w : World) (o : Obj) : Below w.heap.size w (w.alloc o) := (Below.refl _ _).alloc (Nat.le_refl _) _

/-- A byte's cell, a number's. -/
def bv (b : Nat) : Value := .int .u8 (b : Int)
def iv (z : Int) : Value := .int .i64 z
theorem bytes_one (l : List Nat) : ∀ u ∈ l.map bv, u.oneCell' = true := by
  intro u hu
  obtain ⟨s, _, rfl⟩ := List.mem_map.1 hu
  rfl
theorem ints_one (l : List Int) : ∀ u ∈ l.map iv, u.oneCell' = true := by
  intro u hu
  obtain ⟨s, _, rfl⟩ := List.mem_map.1 hu
  rfl

/-- v is the text bs. -/
def Tx (w : World) (v : Value) (bs : List Nat) : Prop := Sl w 1 v bs.length (bs.map bv) ∧ (∀ b ∈ bs, b < 256) ∧ bs.length ≤ 1048576
theorem Tx.below {w w' : World} {v : Value} {bs : List Nat} (h : Tx w v bs) (hb : Below w.heap.size w w') : Tx w' v bs := ⟨h.1.below hb, h.2⟩
theorem Tx.alloc {w : World} {v : Value} {bs : List Nat} (h : Tx w v bs) (o : Obj) : Tx (w.alloc o) v bs := h.below (al _ _)
theorem Tx.nil (w : World) : Tx w (.slice none 0 0) [] := ⟨⟨none, 0, rfl, rfl, fun h => absurd h (by decide)⟩, by simp, by decide⟩
theorem Tx.new (w : World) (cs : Array Value) (fr : Nat × Nat) (n c g : Nat) (hg : g = w.heap.size) (bs : List Nat) (hc : cs.toList = bs.map bv) (hn : bs.length = n) (hb : ∀ b ∈ bs, b < 256) (hm : n ≤ 1048576) : Tx (w.alloc (.cells cs 5 fr)) (.slice (some ⟨g, 0, none⟩) n c) bs := by
  subst hn
  refine ⟨?_, hb, hm⟩
  rw [← hc]
  refine Sl.new w cs 5 fr _ c g hg ?_
  rw [← Array.length_toList, hc, List.length_map]
theorem Tx.form {w : World} {v : Value} {bs : List Nat} (h : Tx w v bs) : ∃ A c, v = .slice A bs.length c := by
  obtain ⟨⟨A, c, hv, _⟩, _⟩ := h
  exact ⟨A, c, hv⟩

/-- v is the row zs of numbers. -/
def In (w : World) (v : Value) (zs : List Int) : Prop := Sl w 1 v zs.length (zs.map iv) ∧ (∀ z ∈ zs, -9223372036854775808 ≤ z ∧ z ≤ 9223372036854775807) ∧ zs.length ≤ 65536
theorem In.below {w w' : World} {v : Value} {zs : List Int} (h : In w v zs) (hb : Below w.heap.size w w') : In w' v zs := ⟨h.1.below hb, h.2⟩
theorem In.alloc {w : World} {v : Value} {zs : List Int} (h : In w v zs) (o : Obj) : In (w.alloc o) v zs := h.below (al _ _)
theorem In.nil (w : World) : In w (.slice none 0 0) [] := ⟨⟨none, 0, rfl, rfl, fun h => absurd h (by decide)⟩, by simp, by decide⟩
theorem In.new (w : World) (cs : Array Value) (fr : Nat × Nat) (n c g : Nat) (hg : g = w.heap.size) (zs : List Int) (hc : cs.toList = zs.map iv) (hn : zs.length = n) (hb : ∀ z ∈ zs, -9223372036854775808 ≤ z ∧ z ≤ 9223372036854775807) (hm : n ≤ 65536) : In (w.alloc (.cells cs 3 fr)) (.slice (some ⟨g, 0, none⟩) n c) zs := by
  subst hn
  refine ⟨?_, hb, hm⟩
  rw [← hc]
  refine Sl.new w cs 3 fr _ c g hg ?_
  rw [← Array.length_toList, hc, List.length_map]
theorem In.form {w : World} {v : Value} {zs : List Int} (h : In w v zs) : ∃ A c, v = .slice A zs.length c := by
  obtain ⟨⟨A, c, hv, _⟩, _⟩ := h
  exact ⟨A, c, hv⟩

/-- v is the text bs, in memory of one's own, from block 'base' on. -/
def Ow (w : World) (base : Nat) (v : Value) (bs : List Nat) : Prop := w.ownsRow base 5 1 v bs.length (bs.map bv) ∧ ∀ b ∈ bs, b < 256
theorem Ow.text {w : World} {base : Nat} {v : Value} {bs : List Nat} (h : Ow w base v bs) (hm : bs.length ≤ 1048576) : Tx w v bs := ⟨Sl.own h.1, h.2, hm⟩
theorem own_form {w : World} {base size n : Nat} {e : TypeId} {v : Value} {xs : List Value} (h : w.ownsRow base e size v n xs) : ∃ A c, v = .slice A n c := by
  rcases h.2 with ⟨rfl, rfl⟩ | ⟨g, cap, _, hv, _⟩
  · exact ⟨_, _, rfl⟩
  · exact ⟨_, _, hv⟩
theorem own_cap {w : World} {base size n : Nat} {e : TypeId} {v : Value} {xs : List Value} (h : w.ownsRow base e size v n xs) : ∃ A c, v = .slice A n c ∧ n ≤ c := by
  rcases h.2 with ⟨rfl, rfl⟩ | ⟨g, cap, _, hv, _, _, hn, _⟩
  · exact ⟨_, _, rfl, Nat.le_refl _⟩
  · exact ⟨_, _, hv, hn⟩
theorem own_ge {w : World} {base size n k : Nat} {e : TypeId} {v : Value} {xs : List Value} (h : w.ownsRow base e size v n xs) (hk : v.ownBlock = some k) : base ≤ k := by
  rcases h.2 with ⟨rfl, rfl⟩ | ⟨g, cap, _, rfl, hg, _⟩
  · simp [Value.ownBlock] at hk
  · simp [Value.ownBlock] at hk; omega

/-- 'append' onto a row of one's own of what a slice value reads as, nil or not. -/
theorem wpList_append_sl {w : World} {ops : Array Oper} {rest : List Oper} {o : Oper} {a : Act} {Q : Exit → Act → World → Prop} (hgd : Region.wanted o (yielded ops a.tmps) = true) (s x : Operand) (t : TypeId)
    (ho : o.op = .call { callee := .builtin .append, args := #[s, x], argTypes := #[t, t] })
    (base : Nat) (e : TypeId) (i : TypeInfo) (z : Value) (size bytes : Nat) (ht : Try.prog.underlying t = some (.slice e)) (hi : Try.prog.info? e = some i) (hz : i.zero = some z)
    (hsize : i.size = size) (hby : i.bytes = bytes) (hzs : z.cells.size = size) (hsz : 0 < size)
    (v : Value) (n : Nat) (xs : List Value) (hs : a.eval s = v) (hown : w.ownsRow base e size v n xs)
    (A : Option Addr) (m c : Nat) (news : List Value) (hx : a.eval x = .slice A m c) (hr : Sl w size (.slice A m c) m news) (h1 : ∀ u ∈ news, u.oneCell' = true)
    (h63 : n + m ≤ maxLen) (hbytes : (n + m) * bytes ≤ 140737488355328) (hbase : base ≤ w.heap.size)
    (h : ∀ v' w', w'.ownsRow base e size v' (n + m) (xs ++ news) → w.grownBy w' v.ownBlock → wpList Try.prog ops Q rest (a.put o.dst v') w') : wpList Try.prog ops Q (o :: rest) a w := by
  cases A with
  | some ad =>
    obtain ⟨hl, hc⟩ := hr.cells
    exact wpList_step fun K hK => by
      rw [if_pos hgd]
      exact wp_append_own w s x t ho base e i z size bytes ht hi hz hsize hby hzs hsz v n xs hs hown ad m c news hx hl hc h1 h63 hbytes hbase fun v' w' p q _ => hK _ _ (h v' w' p q)
  | none =>
    obtain ⟨rfl, rfl⟩ := hr.nil
    refine wpList_step fun K hK => ?_
    rw [if_pos hgd]
    have hrun : (Builtin.append_ #[t, t] o.type #[v, .slice none 0 c]).run Try.prog w = .ok v w := by
      rcases hown.2 with ⟨rfl, rfl⟩ | ⟨g, cap, cur, rfl, _, _, hnc, _⟩
      · simp [Builtin.append_, run_underlying ht, sizeOf, typeInfo, hi, Builtin.lenOf, Builtin.firstCells]
      · simp [Builtin.append_, run_underlying ht, sizeOf, typeInfo, hi, Builtin.lenOf, Builtin.firstCells, hnc, storeCells]
    unfold Oper.wp
    simp [execOp, ho, resolve, invoke, builtin, hs, hx, hrun, Result.andThen]
    exact hK _ _ (h v w (by simpa using hown) (World.grownBy.refl w _))

/-- A text as a string, a string as a text. -/
def str (l : List Nat) : ByteArray := strOfNums (l.map Int.ofNat)
def nums (s : ByteArray) : List Nat := s.data.toList.map fun b => b.toNat
theorem str_nums (s : ByteArray) : str (nums s) = s := by
  unfold str nums strOfNums
  cases s with
  | mk d =>
    congr 1
    apply Array.ext'
    simp [List.map_map, Function.comp_def]
theorem nums_length (s : ByteArray) : (nums s).length = s.size := by
  rw [nums, List.length_map, Array.length_toList]; rfl
theorem nums_lt (s : ByteArray) : ∀ b ∈ nums s, b < 256 := by
  intro b hb
  obtain ⟨x, _, rfl⟩ := List.mem_map.1 hb
  exact x.toNat_lt
theorem nums_cells (s : ByteArray) : Lib.strCells s = (nums s).map bv := by
  simp [Lib.strCells, nums, bv, List.map_map, Function.comp_def]

/-- A text, made a string. -/
theorem Tx.string {w : World} {v : Value} {bs : List Nat} (h : Tx w v bs) : (convert 30 9 v).run Try.prog w = .ok (.string (str bs)) w := by
  obtain ⟨⟨A, c, rfl, hl, hA⟩, hb, hm⟩ := h
  cases hbs : bs with
  | nil =>
    subst hbs
    simp [convert, run_underlying Try.underlying30, run_underlying Try.underlying9, run_underlying Try.underlying5, str, strOfNums]
    cases A <;> simp [Conv.bytesToString, loadCells] <;> rfl
  | cons x r =>
    obtain ⟨b, o, rfl, _, hc⟩ := hA (by rw [hbs]; simp)
    rw [← hbs]
    refine run_convert_bytes_arg w 30 5 Try.underlying30 Try.underlying5 b o bs.length c (bs.map Int.ofNat) (by simp) (fun i hi => ?_) 9 Try.underlying9
    rw [hc i (by omega)]
    simp [bv, hi]

/-- '[]byte("..")' of a constant. -/
theorem conv24 (w : World) (C : Array Value) (n c g : Nat) (hg : g = w.heap.size) : (convert 30 30 (.slice (some ⟨g, 0, none⟩) n c)).run Try.prog (w.alloc (.cells C 5)) = .ok (.slice (some ⟨g, 0, none⟩) n c) (w.alloc (.cells C 5 (C.size, C.size + 1))) :=
  run_convert_bytes_const_at w 30 5 C n c g hg Try.underlying30 Try.underlying5

/-- 'or' of two numbers that are not below nought. -/
theorem or_i64 (a b : Nat) (ha : a < 9223372036854775808) (hb : b < 9223372036854775808) : bits .or .i64 (a : Int) (b : Int) = ((a ||| b : Nat) : Int) := by
  have hx : a ||| b < 2 ^ 63 := Nat.or_lt_two_pow (by omega) (by omega)
  show IntKind.i64.wrap ((BitVec.ofInt 64 (a : Int) ||| BitVec.ofInt 64 (b : Int)).toNat : Int) = _
  rw [BitVec.toNat_or, ofInt_u64 a (by omega), ofInt_u64 b (by omega), IntKind.wrap_i64]
  omega
end Go.Proofs.Ytcojpbckeebohaa
