/-
  A region that draws its order, shown by what holds of each operation's value: each operation is looked at once, whatever the order.
  A region that draws its order, on: what holds of the world may speak of the slots, too.
-/
import Derived.Orders
import Derived.Laws.World
import Derived.Below
namespace Go.Proofs.YtdnobplhfbgbaaaGreatDoor
open Go Go.RowKit

/-- The value in a slot. -/
def slotV (a : Act) : Option Tmp → Value
  | some d => a.tmps.getD d undef
  | none => undef

/-- The frame a is a0, but for the slots of the operations that are done. -/
structure Fr (ops : Array Oper) (a0 : Act) (done : Nat → Bool) (a : Act) : Prop where
  size : a.tmps.size = a0.tmps.size
  defers : a.defers = a0.defers
  rest : ∀ t, (∀ (j : Nat) o, ops[j]? = some o → done j = true → o.dst ≠ some t) → a.tmps[t]? = a0.tmps[t]?

theorem Fr.old {ops : Array Oper} {a0 a : Act} {done : Nat → Bool} (h : Fr ops a0 done a) (t : Tmp) (ht : (ops.toList.all fun o => o.dst != some t) = true) : a.tmps[t]? = a0.tmps[t]? := by
  refine h.rest t fun j o ho _ => ?_
  have hm : o ∈ ops.toList := List.mem_of_getElem? (i := j) (by simpa using ho)
  simpa using List.all_eq_true.1 ht o hm

/-- The edges go back; no two operations have one slot; each slot is there. -/
def regionOk (ops : Array Oper) (n : Nat) : Bool :=
  (List.range ops.size).all fun i => match ops[i]? with
    | none => true
    | some o => (o.after.all fun e => !Region.binds .any e || decide (e.on < i)) && (match o.dst with
      | none => true
      | some d => decide (d < n) && (List.range ops.size).all fun j => j == i || (match ops[j]? with
        | none => true
        | some o' => o'.dst != some d))

theorem regionOk_spec {ops : Array Oper} {n : Nat} (h : regionOk ops n = true) (i : Nat) (o : Oper) (ho : ops[i]? = some o) :
    (∀ e ∈ o.after, Region.binds .any e = true → e.on < i) ∧ ∀ d, o.dst = some d → d < n ∧ ∀ (j : Nat) o', j ≠ i → ops[j]? = some o' → o'.dst ≠ some d := by
  have hi : i < ops.size := by
    rcases Nat.lt_or_ge i ops.size with h' | h'
    · exact h'
    · rw [Array.getElem?_eq_none h'] at ho; cases ho
  have h1 := List.all_eq_true.1 h i (List.mem_range.2 hi)
  rw [ho] at h1
  simp only [Bool.and_eq_true] at h1
  refine ⟨fun e he hb => ?_, fun d hd => ?_⟩
  · have := Array.all_eq_true'.1 h1.1 e he
    simpa [hb] using this
  · have h2 := h1.2
    rw [hd] at h2
    simp only [Bool.and_eq_true, decide_eq_true_eq] at h2
    refine ⟨h2.1, fun j o' hj ho' => ?_⟩
    have hjs : j < ops.size := by
      rcases Nat.lt_or_ge j ops.size with h' | h'
      · exact h'
      · rw [Array.getElem?_eq_none h'] at ho'; cases ho'
    have h3 := List.all_eq_true.1 h2.2 j (List.mem_range.2 hjs)
    rw [ho'] at h3
    simp only [Bool.or_eq_true, beq_iff_eq] at h3
    rcases h3 with h3 | h3
    · exact absurd h3 hj
    · simpa using h3

theorem act_get {a : Act} {d : Tmp} {v : Value} (h : d < a.tmps.size) : slotV (a.put (some d) v) (some d) = v := by
  simp [slotV, Act.put, h]

theorem act_other {a : Act} {x : Option Tmp} {t : Tmp} {v : Value} (h : x ≠ some t) : (a.put x v).tmps[t]? = a.tmps[t]? := by
  cases x with
  | none => rfl
  | some d =>
    have hne : d ≠ t := fun e => h (by rw [e])
    simp [Act.put, Array.getElem?_setIfInBounds_ne hne]

theorem act_size (a : Act) (x : Option Tmp) (v : Value) : (a.put x v).tmps.size = a.tmps.size := by
  cases x <;> simp [Act.put]
theorem act_defers (a : Act) (x : Option Tmp) (v : Value) : (a.put x v).defers = a.defers := by
  cases x <;> rfl

def doneOf (listed : Array Bool) (j : Nat) : Bool := listed.getD j false
def undone (listed : Array Bool) : Nat := listed.toList.count false

/-- The frame behind all operations, written out. -/
def putAll (vs : Option Tmp → Value) (l : List Oper) (a : Act) : Act := l.foldl (fun b o => b.put o.dst (vs o.dst)) a

theorem putAll_size (vs : Option Tmp → Value) (l : List Oper) : ∀ a : Act, (putAll vs l a).tmps.size = a.tmps.size := by
  induction l with
  | nil => intro a; rfl
  | cons o l ih => intro a; show (putAll vs l (a.put o.dst (vs o.dst))).tmps.size = _; rw [ih, act_size]
theorem putAll_defers (vs : Option Tmp → Value) (l : List Oper) : ∀ a : Act, (putAll vs l a).defers = a.defers := by
  induction l with
  | nil => intro a; rfl
  | cons o l ih => intro a; show (putAll vs l (a.put o.dst (vs o.dst))).defers = _; rw [ih, act_defers]
theorem putAll_at (vs : Option Tmp → Value) (l : List Oper) (t : Tmp) : ∀ a : Act, t < a.tmps.size →
    (putAll vs l a).tmps[t]? = if (l.any fun o => o.dst == some t) then some (vs (some t)) else a.tmps[t]? := by
  induction l with
  | nil => intro a _; rfl
  | cons o l ih =>
    intro a ht
    show (putAll vs l (a.put o.dst (vs o.dst))).tmps[t]? = _
    rw [ih _ (by rw [act_size]; exact ht), List.any_cons]
    by_cases h1 : (l.any fun o => o.dst == some t) = true
    · rw [if_pos h1, if_pos (by simp [h1])]
    · by_cases h2 : o.dst = some t
      · rw [if_neg h1, if_pos (by simp [h2]), h2]
        simp [Act.put, ht]
      · rw [if_neg h1, if_neg (by simp [h2, h1]), act_other h2]

theorem Fr.all {ops : Array Oper} {a0 a : Act} {done : Nat → Bool} (h : Fr ops a0 done a) : 
    (∀ (j : Nat) o, ops[j]? = some o → done j = true) → a = putAll (slotV a) ops.toList a0 := by
  intro hd
  have hs := putAll_size (slotV a) ops.toList a0
  have ht : a.tmps = (putAll (slotV a) ops.toList a0).tmps := by
    apply Array.ext_getElem?
    intro t
    by_cases hlt : t < a0.tmps.size
    · rw [putAll_at _ _ _ _ hlt]
      split
      · rename_i hany
        have : t < a.tmps.size := by rw [h.size]; exact hlt
        simp [slotV, this]
      · rename_i hany
        refine h.rest t fun j o ho _ hdst => hany ?_
        exact List.any_eq_true.2 ⟨o, List.mem_of_getElem? (i := j) (by simpa using ho), by simp [hdst]⟩
    · rw [Array.getElem?_eq_none (by rw [h.size]; omega), Array.getElem?_eq_none (by rw [hs]; omega)]
  have hdf : a.defers = (putAll (slotV a) ops.toList a0).defers := by rw [putAll_defers, h.defers]
  generalize putAll (slotV a) ops.toList a0 = b at ht hdf
  cases a; cases b
  simp_all

/-- **A region that draws its order.** W: what holds of the world, by what is done; R: what holds of an operation's value once it is done. -/
theorem wp_region_rel {P : Program} {id : Nat} {ops : Array Oper} {Q : Exit → Act → World → Prop} {a0 : Act} {w0 : World} (hm : P.follows .mixedOrders = true)
    (ok : regionOk ops a0.tmps.size = true)
    (W : (Nat → Bool) → World → Prop) (R : Nat → Value → World → Prop)
    (start : W (fun _ => false) w0.drew)
    (each : ∀ (i : Nat) o, ops[i]? = some o → ∀ (done : Nat → Bool) a w, done i = false → (∀ e ∈ o.after, Region.binds .any e = true → done e.on = true) → Fr ops a0 done a →
      (∀ (j : Nat) oj, ops[j]? = some oj → done j = true → R j (slotV a oj.dst) w) → W done w →
      ∀ K : Act → World → Prop, (∀ v w', (o.dst = none → v = undef) → W (fun j => done j || j == i) w' → (∀ j v', done j = true → R j v' w → R j v' w') → R i v w' → K (a.put o.dst v) w') → wpOp P ops Q i K a w)
    (fin : ∀ (vs : Option Tmp → Value) w done, (∀ (j : Nat) oj, ops[j]? = some oj → R j (vs oj.dst) w) → (∀ (j : Nat) o, ops[j]? = some o → done j = true) → W done w → Q .normal (putAll vs ops.toList a0) w) :
    (Code.region id ops true).wp P Q a0 w0 := by
  have main : ∀ (fuel : Nat) (listed : Array Bool) (a : Act) (w : World), listed.size = ops.size → undone listed ≤ fuel → Fr ops a0 (doneOf listed) a →
      (∀ (j : Nat) oj, ops[j]? = some oj → doneOf listed j = true → R j (slotV a oj.dst) w) → W (doneOf listed) w → wpAny P .any ops Q fuel listed a w := by
    have finish : ∀ (listed : Array Bool) (a : Act) (w : World), listed.size = ops.size → Fr ops a0 (doneOf listed) a →
        (∀ (j : Nat) oj, ops[j]? = some oj → doneOf listed j = true → R j (slotV a oj.dst) w) → W (doneOf listed) w → Region.ready .any ops listed = [] → Q .normal a w := by
      intro listed a w hs hF hR hW hr
      have hall : ∀ (n j : Nat), j < n → ∀ o, ops[j]? = some o → doneOf listed j = true := by
        intro n
        induction n with
        | zero => intro j hj; omega
        | succ n ih =>
          intro j hj o ho
          rcases Nat.lt_or_ge j n with h' | h'
          · exact ih j h' o ho
          · have hjn : j = n := by omega
            subst hjn
            have hjs : j < ops.size := by
              rcases Nat.lt_or_ge j ops.size with h' | h'
              · exact h'
              · rw [Array.getElem?_eq_none h'] at ho; cases ho
            by_cases hd : doneOf listed j = true
            · exact hd
            · exfalso
              have hmem : j ∈ Region.ready .any ops listed := mem_ready.2 ⟨by
                have hlt : j < listed.size := by omega
                simp only [doneOf, Array.getD_eq_getD_getElem?, Array.getElem?_eq_getElem hlt, Option.getD_some, Bool.not_eq_true] at hd ⊢
                exact hd, o, ho, fun e he hb => by
                have hlt := (regionOk_spec ok j o ho).1 e he hb
                obtain ⟨oe, hoe⟩ : ∃ oe, ops[e.on]? = some oe := ⟨_, Array.getElem?_eq_getElem (by omega)⟩
                exact ih e.on hlt oe hoe⟩
              rw [hr] at hmem
              cases hmem
      have hall' : ∀ (j : Nat) o, ops[j]? = some o → doneOf listed j = true := fun j o ho => hall (j + 1) j (by omega) o ho
      rw [hF.all hall']
      exact fin (slotV a) w (doneOf listed) (fun j oj hoj => hR j oj hoj (hall' j oj hoj)) hall' hW
    intro fuel
    induction fuel with
    | zero =>
      intro listed a w hs hu hF hR hW
      have hr : Region.ready .any ops listed = [] := by
        cases hc : Region.ready .any ops listed with
        | nil => rfl
        | cons j l =>
          exfalso
          have hj : j ∈ Region.ready .any ops listed := by rw [hc]; simp
          obtain ⟨h0, _⟩ := mem_ready.1 hj
          have hlt : j < listed.size := by
            rcases Nat.lt_or_ge j listed.size with h' | h'
            · exact h'
            · simp [Array.getElem?_eq_none h'] at h0
          have hf : false ∈ listed.toList := by
            refine List.mem_of_getElem? (i := j) ?_
            simp [hlt] at h0
            simp [hlt, h0]
          have := List.count_pos_iff.2 hf
          unfold undone at hu
          omega
      exact ⟨hr, finish listed a w hs hF hR hW hr⟩
    | succ fuel ih =>
      intro listed a w hs hu hF hR hW
      refine ⟨finish listed a w hs hF hR hW, fun i hi => ?_⟩
      obtain ⟨h0, o, ho, hall⟩ := mem_ready.1 hi
      have hlt : i < listed.size := by
        rcases Nat.lt_or_ge i listed.size with h' | h'
        · exact h'
        · simp [Array.getElem?_eq_none h'] at h0
      have hi0 : listed[i]? = some false := by simp [hlt] at h0; simp [hlt, h0]
      have hdi : doneOf listed i = false := by simp [doneOf, hi0]
      obtain ⟨_, hdst⟩ := regionOk_spec ok i o ho
      refine each i o ho (doneOf listed) a w hdi hall hF hR hW _ fun v w' hv hW' hst hRi => ?_
      have hdone : doneOf (listed.setIfInBounds i true) = fun j => doneOf listed j || j == i := by
        funext j
        by_cases hij : i = j
        · subst hij; simp [doneOf, hlt]
        · have : (j == i) = false := by simp; omega
          rw [this, Bool.or_false]
          exact getD_set_ne false hij
      refine ih _ _ _ (by simpa using hs) ?_ ?_ ?_ ?_
      · unfold undone at hu ⊢
        have hl : i < listed.toList.length := by simpa using hlt
        have hx : listed.toList[i] = false := by
          have : listed.toList[i]? = some false := by simpa using hi0
          rw [List.getElem?_eq_getElem hl] at this
          exact Option.some.inj this
        have hp : 0 < listed.toList.count false := List.count_pos_iff.2 (hx ▸ List.getElem_mem hl)
        have e : (listed.toList.set i true).count false = listed.toList.count false - 1 := by rw [List.count_set hl, hx]; rfl
        rw [Array.toList_setIfInBounds, e]
        omega
      · rw [hdone]
        refine ⟨by rw [act_size]; exact hF.size, by rw [act_defers]; exact hF.defers, fun t ht => ?_⟩
        rw [act_other (ht i o ho (by simp))]
        exact hF.rest t fun j oj hoj hj => ht j oj hoj (by simp [hj])
      · rw [hdone]
        intro j oj hoj hj
        by_cases hji : j = i
        · subst hji
          obtain rfl : o = oj := Option.some.inj (ho.symm.trans hoj)
          cases hd : o.dst with
          | none =>
            have := hv hd
            subst this
            exact hRi
          | some d =>
            rw [act_get (by rw [hF.size]; exact (hdst d hd).1)]
            exact hRi
        · have hj' : doneOf listed j = true := by simpa [hji] using hj
          have hsl : slotV (a.put o.dst v) oj.dst = slotV a oj.dst := by
            cases hd : oj.dst with
            | none => rfl
            | some d =>
              have hne : o.dst ≠ some d := by
                intro he
                exact (hdst d he).2 j oj hji hoj hd
              simp only [slotV, Array.getD_eq_getD_getElem?, act_other hne]
          rw [hsl]
          exact hst j _ hj' (hR j oj hoj hj')
      · rw [hdone]; exact hW'
  refine wp_region_any hm (main ops.size _ a0 _ (by simp) ?_ ?_ ?_ ?_)
  · unfold undone
    exact Nat.le_trans List.count_le_length (by simp)
  · exact ⟨rfl, rfl, fun _ _ => rfl⟩
  · intro j oj _ hj
    exfalso
    simp only [doneOf, Array.getD_eq_getD_getElem?, Array.getElem?_replicate] at hj
    split at hj <;> simp at hj
  · have : doneOf (Array.replicate ops.size false) = fun _ => false := by
      funext j
      simp only [doneOf, Array.getD_eq_getD_getElem?, Array.getElem?_replicate]
      split <;> rfl
    rw [this]
    exact start

/-- What is known of the operations that number i waits for. -/
def predsOf (ops : Array Oper) (R : Nat → Value → World → Prop) (a : Act) (w : World) (i : Nat) : Prop :=
  match ops[i]? with
  | none => True
  | some o => ∀ e ∈ o.after.toList, Region.binds .any e = true → match ops[e.on]? with
    | none => True
    | some oe => R e.on (slotV a oe.dst) w

/-- What is done has its forerunners done. -/
def Closed (ops : Array Oper) (done : Nat → Bool) : Prop := ∀ (j : Nat) o, ops[j]? = some o → done j = true → ∀ e ∈ o.after, Region.binds .any e = true → done e.on = true

/-- As 'wp_region_rel'; what is done has its forerunners done. -/
theorem wp_region_rel2 {P : Program} {id : Nat} {ops : Array Oper} {Q : Exit → Act → World → Prop} {a0 : Act} {w0 : World} (hm : P.follows .mixedOrders = true)
    (ok : regionOk ops a0.tmps.size = true)
    (W : (Nat → Bool) → World → Prop) (R : Nat → Value → World → Prop)
    (start : W (fun _ => false) w0.drew)
    (each : ∀ i, i < ops.size → ∀ (done : Nat → Bool) a w, done i = false → Closed ops done → Closed ops (fun j => done j || j == i) → (∀ t, (ops.toList.all fun o => o.dst != some t) = true → a.tmps[t]? = a0.tmps[t]?) →
      predsOf ops R a w i → W done w →
      ∀ K : Act → World → Prop, (∀ v w', (((ops[i]?).bind (·.dst)) = none → v = undef) → W (fun j => done j || j == i) w' → (∀ j v', done j = true → R j v' w → R j v' w') → R i v w' → K (a.put ((ops[i]?).bind (·.dst)) v) w') → wpOp P ops Q i K a w)
    (fin : ∀ (vs : Option Tmp → Value) w done, (∀ j, j < ops.size → R j (vs ((ops[j]?).bind (·.dst))) w) → (∀ j, j < ops.size → done j = true) → W done w → Q .normal (putAll vs ops.toList a0) w) :
    (Code.region id ops true).wp P Q a0 w0 := by
  refine wp_region_rel hm ok (fun done w => W done w ∧ Closed ops done) R ⟨start, fun _ _ _ h => by cases h⟩ (fun i o ho done a w hi0 hedge hF hRs hWw K hK => ?_) (fun vs w done hRs hall hWw => ?_)
  · have hi : i < ops.size := by
      rcases Nat.lt_or_ge i ops.size with h' | h'
      · exact h'
      · rw [Array.getElem?_eq_none h'] at ho; cases ho
    have hcl : Closed ops (fun j => done j || j == i) := by
      intro j oj hoj hj e he hb
      by_cases hji : j = i
      · subst hji
        obtain rfl : o = oj := Option.some.inj (ho.symm.trans hoj)
        simp [hedge e he hb]
      · have hj' : done j = true := by simpa [hji] using hj
        simp [hWw.2 j oj hoj hj' e he hb]
    refine each i hi done a w hi0 hWw.2 hcl (fun t ht => hF.old t ht) ?_ hWw.1 K fun v w' hv hW' hst hRi => ?_
    · unfold predsOf
      rw [ho]
      intro e he hb
      cases hoe : ops[e.on]? with
      | none => trivial
      | some oe => exact hRs e.on oe hoe (hedge e (by simpa using he) hb)
    · rw [ho] at hv ⊢
      exact hK v w' hv ⟨hW', hcl⟩ hst hRi
  · refine fin vs w done (fun j hj => ?_) (fun j hj => hall j _ (Array.getElem?_eq_getElem hj)) hWw.1
    rw [Array.getElem?_eq_getElem hj]
    exact hRs j _ (Array.getElem?_eq_getElem hj)

theorem wpOp_of {P : Program} {ops : Array Oper} {Q : Exit → Act → World → Prop} {i : Nat} {o : Oper} {K : Act → World → Prop} {a : Act} {w : World} (ho : ops[i]? = some o)
    (hg : Region.wanted o (yielded ops a.tmps) = true) (h : o.wp P a w K Q) : wpOp P ops Q i K a w := by
  unfold wpOp
  rw [ho]
  simp only [hg, if_true]
  exact .inl h
theorem wpOp_off {P : Program} {ops : Array Oper} {Q : Exit → Act → World → Prop} {i : Nat} {o : Oper} {K : Act → World → Prop} {a : Act} {w : World} (ho : ops[i]? = some o)
    (hg : Region.wanted o (yielded ops a.tmps) = false) (h : K (a.put o.dst undef) w) : wpOp P ops Q i K a w := by
  unfold wpOp
  rw [ho]
  simp only [hg]
  exact h

/-- **A region that draws its order and only makes memory.** S: what holds of the world; R: what holds of an operation's value once it is done: both stay where memory only grows. -/
theorem wp_region_grow {P : Program} {id : Nat} {ops : Array Oper} {Q : Exit → Act → World → Prop} {a0 : Act} {w0 : World} (hm : P.follows .mixedOrders = true)
    (ok : regionOk ops a0.tmps.size = true) (S : World → Prop) (R : Nat → Value → World → Prop)
    (hS : ∀ w w', S w → Below w.heap.size w w' → S w') (hR : ∀ j v w w', R j v w → Below w.heap.size w w' → R j v w')
    (start : S w0.drew)
    (each : ∀ i, i < ops.size → ∀ a w, (∀ t, (ops.toList.all fun o => o.dst != some t) = true → a.tmps[t]? = a0.tmps[t]?) → predsOf ops R a w i → S w →
      ∀ K : Act → World → Prop, (∀ v w', (((ops[i]?).bind (·.dst)) = none → v = undef) → Below w.heap.size w w' → R i v w' → K (a.put ((ops[i]?).bind (·.dst)) v) w') → wpOp P ops Q i K a w)
    (fin : ∀ (vs : Option Tmp → Value) w, (∀ j, j < ops.size → R j (vs ((ops[j]?).bind (·.dst))) w) → S w → Q .normal (putAll vs ops.toList a0) w) :
    (Code.region id ops true).wp P Q a0 w0 := by
  refine wp_region_rel hm ok (fun _ w => S w) R start (fun i o ho done a w _ hedge hF hRs hSw K hK => ?_) (fun vs w done hRs _ hSw => ?_)
  · have hi : i < ops.size := by
      rcases Nat.lt_or_ge i ops.size with h' | h'
      · exact h'
      · rw [Array.getElem?_eq_none h'] at ho; cases ho
    refine each i hi a w (fun t ht => hF.old t ht) ?_ hSw K fun v w' hv hb hRi => ?_
    · unfold predsOf
      rw [ho]
      intro e he hb
      cases hoe : ops[e.on]? with
      | none => trivial
      | some oe => exact hRs e.on oe hoe (hedge e (by simpa using he) hb)
    · rw [ho] at hv ⊢
      exact hK v w' hv (hS w w' hSw hb) (fun j v' _ h => hR j v' w w' h hb) hRi
  · exact fin vs w (fun j hj => by
      rw [Array.getElem?_eq_getElem hj]
      exact hRs j _ (Array.getElem?_eq_getElem hj)) hSw
end Go.Proofs.YtdnobplhfbgbaaaGreatDoor
namespace Go.Proofs.YtdnobplhfbgbaaaGreatDoor
open Go Go.RowKit

/-- A region that draws its order, where what holds of the world may speak of the slots, too: W by what is done, the frame and the world; R: what holds of an operation's value once it is done. -/
theorem wp_region_act {P : Program} {id : Nat} {ops : Array Oper} {Q : Exit → Act → World → Prop} {a0 : Act} {w0 : World} (hm : P.follows .mixedOrders = true)
    (ok : regionOk ops a0.tmps.size = true)
    (W : (Nat → Bool) → Act → World → Prop) (R : Nat → Value → World → Prop)
    (start : W (fun _ => false) a0 w0.drew)
    (each : ∀ (i : Nat) o, ops[i]? = some o → ∀ (done : Nat → Bool) a w, done i = false → (∀ e ∈ o.after, Region.binds .any e = true → done e.on = true) → Fr ops a0 done a →
      (∀ (j : Nat) oj, ops[j]? = some oj → done j = true → R j (slotV a oj.dst) w) → W done a w →
      ∀ K : Act → World → Prop, (∀ v w', (o.dst = none → v = undef) → W (fun j => done j || j == i) (a.put o.dst v) w' → (∀ (j : Nat) oj, ops[j]? = some oj → done j = true → R j (slotV a oj.dst) w → R j (slotV a oj.dst) w') → R i v w' → K (a.put o.dst v) w') → wpOp P ops Q i K a w)
    (fin : ∀ (vs : Option Tmp → Value) w done, (∀ (j : Nat) oj, ops[j]? = some oj → R j (vs oj.dst) w) → (∀ (j : Nat) o, ops[j]? = some o → done j = true) → W done (putAll vs ops.toList a0) w → Q .normal (putAll vs ops.toList a0) w) :
    (Code.region id ops true).wp P Q a0 w0 := by
  have main : ∀ (fuel : Nat) (listed : Array Bool) (a : Act) (w : World), listed.size = ops.size → undone listed ≤ fuel → Fr ops a0 (doneOf listed) a →
      (∀ (j : Nat) oj, ops[j]? = some oj → doneOf listed j = true → R j (slotV a oj.dst) w) → W (doneOf listed) a w → wpAny P .any ops Q fuel listed a w := by
    have finish : ∀ (listed : Array Bool) (a : Act) (w : World), listed.size = ops.size → Fr ops a0 (doneOf listed) a →
        (∀ (j : Nat) oj, ops[j]? = some oj → doneOf listed j = true → R j (slotV a oj.dst) w) → W (doneOf listed) a w → Region.ready .any ops listed = [] → Q .normal a w := by
      intro listed a w hs hF hR hW hr
      have hall : ∀ (n j : Nat), j < n → ∀ o, ops[j]? = some o → doneOf listed j = true := by
        intro n
        induction n with
        | zero => intro j hj; omega
        | succ n ih =>
          intro j hj o ho
          rcases Nat.lt_or_ge j n with h' | h'
          · exact ih j h' o ho
          · have hjn : j = n := by omega
            subst hjn
            have hjs : j < ops.size := by
              rcases Nat.lt_or_ge j ops.size with h' | h'
              · exact h'
              · rw [Array.getElem?_eq_none h'] at ho; cases ho
            by_cases hd : doneOf listed j = true
            · exact hd
            · exfalso
              have hmem : j ∈ Region.ready .any ops listed := mem_ready.2 ⟨by
                have hlt : j < listed.size := by omega
                simp only [doneOf, Array.getD_eq_getD_getElem?, Array.getElem?_eq_getElem hlt, Option.getD_some, Bool.not_eq_true] at hd ⊢
                exact hd, o, ho, fun e he hb => by
                have hlt := (regionOk_spec ok j o ho).1 e he hb
                obtain ⟨oe, hoe⟩ : ∃ oe, ops[e.on]? = some oe := ⟨_, Array.getElem?_eq_getElem (by omega)⟩
                exact ih e.on hlt oe hoe⟩
              rw [hr] at hmem
              cases hmem
      have hall' : ∀ (j : Nat) o, ops[j]? = some o → doneOf listed j = true := fun j o ho => hall (j + 1) j (by omega) o ho
      have hput := hF.all hall'
      rw [hput] at hW
      rw [hput]
      refine fin (slotV a) w (doneOf listed) (fun j oj hoj => hR j oj hoj (hall' j oj hoj)) hall' hW
    intro fuel
    induction fuel with
    | zero =>
      intro listed a w hs hu hF hR hW
      have hr : Region.ready .any ops listed = [] := by
        cases hc : Region.ready .any ops listed with
        | nil => rfl
        | cons j l =>
          exfalso
          have hj : j ∈ Region.ready .any ops listed := by rw [hc]; simp
          obtain ⟨h0, _⟩ := mem_ready.1 hj
          have hlt : j < listed.size := by
            rcases Nat.lt_or_ge j listed.size with h' | h'
            · exact h'
            · simp [Array.getElem?_eq_none h'] at h0
          have hf : false ∈ listed.toList := by
            refine List.mem_of_getElem? (i := j) ?_
            simp [hlt] at h0
            simp [hlt, h0]
          have := List.count_pos_iff.2 hf
          unfold undone at hu
          omega
      exact ⟨hr, finish listed a w hs hF hR hW hr⟩
    | succ fuel ih =>
      intro listed a w hs hu hF hR hW
      refine ⟨finish listed a w hs hF hR hW, fun i hi => ?_⟩
      obtain ⟨h0, o, ho, hall⟩ := mem_ready.1 hi
      have hlt : i < listed.size := by
        rcases Nat.lt_or_ge i listed.size with h' | h'
        · exact h'
        · simp [Array.getElem?_eq_none h'] at h0
      have hi0 : listed[i]? = some false := by simp [hlt] at h0; simp [hlt, h0]
      have hdi : doneOf listed i = false := by simp [doneOf, hi0]
      obtain ⟨_, hdst⟩ := regionOk_spec ok i o ho
      refine each i o ho (doneOf listed) a w hdi hall hF hR hW _ fun v w' hv hW' hst hRi => ?_
      have hdone : doneOf (listed.setIfInBounds i true) = fun j => doneOf listed j || j == i := by
        funext j
        by_cases hij : i = j
        · subst hij; simp [doneOf, hlt]
        · have : (j == i) = false := by simp; omega
          rw [this, Bool.or_false]
          exact getD_set_ne false hij
      refine ih _ _ _ (by simpa using hs) ?_ ?_ ?_ ?_
      · unfold undone at hu ⊢
        have hl : i < listed.toList.length := by simpa using hlt
        have hx : listed.toList[i] = false := by
          have : listed.toList[i]? = some false := by simpa using hi0
          rw [List.getElem?_eq_getElem hl] at this
          exact Option.some.inj this
        have hp : 0 < listed.toList.count false := List.count_pos_iff.2 (hx ▸ List.getElem_mem hl)
        have e : (listed.toList.set i true).count false = listed.toList.count false - 1 := by rw [List.count_set hl, hx]; rfl
        rw [Array.toList_setIfInBounds, e]
        omega
      · rw [hdone]
        refine ⟨by rw [act_size]; exact hF.size, by rw [act_defers]; exact hF.defers, fun t ht => ?_⟩
        rw [act_other (ht i o ho (by simp))]
        exact hF.rest t fun j oj hoj hj => ht j oj hoj (by simp [hj])
      · rw [hdone]
        intro j oj hoj hj
        by_cases hji : j = i
        · subst hji
          obtain rfl : o = oj := Option.some.inj (ho.symm.trans hoj)
          cases hd : o.dst with
          | none =>
            have := hv hd
            subst this
            exact hRi
          | some d =>
            rw [act_get (by rw [hF.size]; exact (hdst d hd).1)]
            exact hRi
        · have hj' : doneOf listed j = true := by simpa [hji] using hj
          have hsl : slotV (a.put o.dst v) oj.dst = slotV a oj.dst := by
            cases hd : oj.dst with
            | none => rfl
            | some d =>
              have hne : o.dst ≠ some d := by
                intro he
                exact (hdst d he).2 j oj hji hoj hd
              simp only [slotV, Array.getD_eq_getD_getElem?, act_other hne]
          rw [hsl]
          exact hst j oj hoj hj' (hR j oj hoj hj')
      · rw [hdone]; exact hW'
  refine wp_region_any hm (main ops.size _ a0 _ (by simp) ?_ ?_ ?_ ?_)
  · unfold undone
    exact Nat.le_trans List.count_le_length (by simp)
  · exact ⟨rfl, rfl, fun _ _ => rfl⟩
  · intro j oj _ hj
    exfalso
    simp only [doneOf, Array.getD_eq_getD_getElem?, Array.getElem?_replicate] at hj
    split at hj <;> simp at hj
  · have : doneOf (Array.replicate ops.size false) = fun _ => false := by
      funext j
      simp only [doneOf, Array.getD_eq_getD_getElem?, Array.getElem?_replicate]
      split <;> rfl
    rw [this]
    exact start


theorem slot_put {a : Act} {d t : Tmp} {v : Value} (h : d ≠ t) : slotV (a.put (some d) v) (some t) = slotV a (some t) := by
  simp only [slotV, Array.getD_eq_getD_getElem?, act_other (show (some d : Option Tmp) ≠ some t from fun e => h (Option.some.inj e))]
theorem slot_none {a : Act} {t : Tmp} {v : Value} : slotV (a.put none v) (some t) = slotV a (some t) := rfl
/-- As 'wp_region_act'; what is done has its forerunners done. -/
theorem wp_region_act2 {P : Program} {id : Nat} {ops : Array Oper} {Q : Exit → Act → World → Prop} {a0 : Act} {w0 : World} (hm : P.follows .mixedOrders = true)
    (ok : regionOk ops a0.tmps.size = true)
    (W : (Nat → Bool) → Act → World → Prop) (R : Nat → Value → World → Prop)
    (start : W (fun _ => false) a0 w0.drew)
    (each : ∀ i, i < ops.size → ∀ (done : Nat → Bool) a w, done i = false → Closed ops done → Closed ops (fun j => done j || j == i) → (∀ t, (ops.toList.all fun o => o.dst != some t) = true → a.tmps[t]? = a0.tmps[t]?) →
      predsOf ops R a w i → W done a w →
      ∀ K : Act → World → Prop, (∀ v w', (((ops[i]?).bind (·.dst)) = none → v = undef) → W (fun j => done j || j == i) (a.put ((ops[i]?).bind (·.dst)) v) w' → (∀ j v', done j = true → R j v' w → R j v' w') → R i v w' → K (a.put ((ops[i]?).bind (·.dst)) v) w') → wpOp P ops Q i K a w)
    (fin : ∀ (vs : Option Tmp → Value) w done, (∀ j, j < ops.size → R j (vs ((ops[j]?).bind (·.dst))) w) → (∀ j, j < ops.size → done j = true) → W done (putAll vs ops.toList a0) w → Q .normal (putAll vs ops.toList a0) w) :
    (Code.region id ops true).wp P Q a0 w0 := by
  refine wp_region_act hm ok (fun done a w => W done a w ∧ Closed ops done) R ⟨start, fun _ _ _ h => by cases h⟩ (fun i o ho done a w hi0 hedge hF hRs hWw K hK => ?_) (fun vs w done hRs hall hWw => ?_)
  · have hi : i < ops.size := by
      rcases Nat.lt_or_ge i ops.size with h' | h'
      · exact h'
      · rw [Array.getElem?_eq_none h'] at ho; cases ho
    have hcl : Closed ops (fun j => done j || j == i) := by
      intro j oj hoj hj e he hb
      by_cases hji : j = i
      · subst hji
        obtain rfl : o = oj := Option.some.inj (ho.symm.trans hoj)
        simp [hedge e he hb]
      · have hj' : done j = true := by simpa [hji] using hj
        simp [hWw.2 j oj hoj hj' e he hb]
    refine each i hi done a w hi0 hWw.2 hcl (fun t ht => hF.old t ht) ?_ hWw.1 K fun v w' hv hW' hst hRi => ?_
    · unfold predsOf
      rw [ho]
      intro e he hb
      cases hoe : ops[e.on]? with
      | none => trivial
      | some oe => exact hRs e.on oe hoe (hedge e (by simpa using he) hb)
    · rw [ho] at hv hW' ⊢
      exact hK v w' hv ⟨hW', hcl⟩ (fun j oj _ hj hR => hst j _ hj hR) hRi
  · refine fin vs w done (fun j hj => ?_) (fun j hj => hall j _ (Array.getElem?_eq_getElem hj)) hWw.1
    rw [Array.getElem?_eq_getElem hj]
    exact hRs j _ (Array.getElem?_eq_getElem hj)

end Go.Proofs.YtdnobplhfbgbaaaGreatDoor
