/-
  Entries made of numbers: plain facts; contract of glacislaw7.entries.
-/
import Derived.Test.YtckkljiaicmljaaQl
namespace Go.Proofs.Ytckkljiaicmljaa
open Go.RowKit Go.Joins

namespace PD
/-- The entry of a number. -/
def nm (b : Nat) : ByteArray := (str [97 + b % 16, 97 + b / 16]).extract 0 (1 + b % 2)
def mk (b : Nat) : E := (nm b, ((1 + b % 9 : Nat) : Int))
theorem mk_may : ∀ b < 256, may (mk b) = true ∧ lt { data := #[] } (mk b).1 = true ∧ (mk b).1.size ≤ 2 := by decide +kernel
def made (l : List Nat) : List E := l.foldl (fun out b => rwth out (mk b)) []
theorem made_snoc (l : List Nat) (b : Nat) : made (l ++ [b]) = rwth (made l) (mk b) := by simp [made]
theorem rwth_length (l : List E) (e : E) : (rwth l e).length ≤ l.length + 1 := by
  rw [rwth]
  split
  · omega
  · simp; omega
theorem rwth_mem {l : List E} {e x : E} (h : x ∈ rwth l e) : x ∈ l ∨ x = e := by
  rw [rwth] at h
  split at h
  · exact .inl h
  · rcases List.mem_append.1 h with h | h
    · exact .inl (List.mem_of_mem_take h)
    · rcases List.mem_cons.1 h with h | h
      · exact .inr h
      · exact .inl (List.mem_of_mem_drop h)
theorem snoc_induct {P : List Nat → Prop} (h0 : P []) (h1 : ∀ l b, P l → P (l ++ [b])) (l : List Nat) : P l := by
  have : ∀ n (l : List Nat), l.length = n → P l := by
    intro n
    induction n with
    | zero => intro l hl; rw [List.eq_nil_of_length_eq_zero hl]; exact h0
    | succ n ih =>
      intro l hl
      have hne : l ≠ [] := fun e => by subst e; simp at hl
      rw [← List.dropLast_concat_getLast hne]
      exact h1 _ _ (ih _ (by rw [List.length_dropLast, hl]; rfl))
  exact this _ l rfl
theorem made_length (l : List Nat) : (made l).length ≤ l.length := by
  induction l using snoc_induct with
  | h0 => exact Nat.le_refl _
  | h1 l b ih =>
    rw [made_snoc, List.length_append]
    have := rwth_length (made l) (mk b)
    simp; omega
theorem made_mem (l : List Nat) : ∀ e ∈ made l, ∃ b ∈ l, e = mk b := by
  induction l using snoc_induct with
  | h0 => intro e he; simp [made] at he
  | h1 l b ih =>
    intro e he
    rw [made_snoc] at he
    rcases rwth_mem he with he | rfl
    · obtain ⟨b', hb', rfl⟩ := ih e he
      exact ⟨b', by simp [hb'], rfl⟩
    · exact ⟨b, by simp, rfl⟩
theorem made_srt (l : List Nat) (h : ∀ b ∈ l, b < 256) : srt { data := #[] } (made l) = true := by
  induction l using snoc_induct with
  | h0 => rfl
  | h1 l b ih =>
    have hs := ih fun x hx => h x (by simp [hx])
    obtain ⟨h1, h2, _⟩ := mk_may b (h b (by simp))
    rw [made_snoc, ← with_same _ hs]
    exact srt_wth hs h1 h2
theorem mk_int (b : Nat) : 1 ≤ (mk b).2 ∧ (mk b).2 ≤ 9 := by
  show (1 : Int) ≤ ((1 + b % 9 : Nat) : Int) ∧ ((1 + b % 9 : Nat) : Int) ≤ 9
  omega
theorem made_fit (l : List Nat) (h : ∀ b ∈ l, b < 256) (k : l.length ≤ 60000) : Fit (made l) := by
  refine ⟨fun e he => ?_, by have := made_length l; omega⟩
  obtain ⟨b, hb, rfl⟩ := made_mem l e he
  have h1 := (mk_may b (h b hb)).2.2
  have h2 := mk_int b
  exact ⟨by omega, by unfold I64; omega⟩
theorem made_rise (l : List Nat) (h : ∀ b ∈ l, b < 256) : rise (made l) = true := by rw [rise_srt]; exact made_srt l h
end PD

theorem Tx.at {w : World} {A : Option Addr} {n c : Nat} {bs : List Nat} (h : Tx w (.slice A n c) bs) (h0 : 0 < bs.length) : ∃ b o, A = some ⟨b, o, none⟩ ∧ b < w.heap.size ∧ ∀ (j x : Nat), bs[j]? = some x → w.cell? ⟨b, o + j, none⟩ = some (.int .u8 (x : Int)) := by
  obtain ⟨⟨A', c', hv, hl, hA⟩, _⟩ := h
  injection hv with e1 e2 e3
  subst e1
  obtain ⟨b, o, e, hb, hc⟩ := hA h0
  refine ⟨b, o, e, hb, fun j x hj => ?_⟩
  have hlt := (List.getElem?_eq_some_iff.1 hj).1
  rw [hc j (by omega), List.getElem?_map, hj]; rfl
theorem Bx.tx {w : World} {g p q : Nat} (h : Bx w g 5 #[.int .u8 (p : Int), .int .u8 (q : Int)]) (hp : p < 256) (hq : q < 256) : Tx w (.slice (some ⟨g, 0, none⟩) 2 2) [p, q] := by
  refine ⟨⟨_, _, rfl, rfl, fun _ => ⟨g, 0, rfl, h.lt, fun j hj => ?_⟩⟩, by simp; omega, by simp⟩
  rw [Nat.zero_add, h.cell j]
  rcases j with _ | _ | j
  · rfl
  · rfl
  · simp at hj; omega
theorem Bx.type_ne {w : World} {g g' : Nat} {t t' : TypeId} {cs cs' : Array Value} (h : Bx w g t cs) (h' : Bx w g' t' cs') (hne : t ≠ t') : g ≠ g' := by
  rintro rfl
  unfold Bx at h h'
  rw [h] at h'
  injection h' with h'
  injection h' with _ h'
  exact hne h'
theorem Bx.same {w : World} {g : Nat} {t : TypeId} {cs cs' : Array Value} (h : Bx w g t cs) (h' : Bx w g t cs') : cs = cs' := by
  unfold Bx at h h'
  rw [h] at h'
  injection h' with h'
  injection h'

/-- What holds of the operations of the region that draws. -/
def JE (b0 o0 L c k b y16 q16 y2 y9 n0 : Nat) (P2 s : ByteArray) (i : Nat) (v : Value) (W : World) : Prop := match i with
  | 0 => v = .slice (some ⟨b0, o0, none⟩) L c
  | 1 => v = .int .i64 (k : Int)
  | 2 => v = .pointer (some ⟨b0, o0 + k, none⟩)
  | 3 => v = .int .u8 (b : Int)
  | 4 => v = .int .u8 (y16 : Int)
  | 5 => v = .int .u8 ((97 + y16 : Nat) : Int)
  | 6 => v = .slice (some ⟨b0, o0, none⟩) L c
  | 7 => v = .int .i64 (k : Int)
  | 8 => v = .pointer (some ⟨b0, o0 + k, none⟩)
  | 9 => v = .int .u8 (b : Int)
  | 10 => v = .int .u8 (q16 : Int)
  | 11 => v = .int .u8 ((97 + q16 : Nat) : Int)
  | 12 => ∃ g, v = .slice (some ⟨g, 0, none⟩) 2 2 ∧ Bx W g 5 #[.int .u8 ((97 + y16 : Nat) : Int), .int .u8 ((97 + q16 : Nat) : Int)]
  | 13 => v = .string P2
  | 14 => v = .slice (some ⟨b0, o0, none⟩) L c
  | 15 => v = .int .i64 (k : Int)
  | 16 => v = .pointer (some ⟨b0, o0 + k, none⟩)
  | 17 => v = .int .u8 (b : Int)
  | 18 => v = .int .u8 (y2 : Int)
  | 19 => v = .int .i64 (y2 : Int)
  | 20 => v = .int .i64 ((1 + y2 : Nat) : Int)
  | 21 => v = .string s
  | 22 => v = .slice (some ⟨b0, o0, none⟩) L c
  | 23 => v = .int .i64 (k : Int)
  | 24 => v = .pointer (some ⟨b0, o0 + k, none⟩)
  | 25 => v = .int .u8 (b : Int)
  | 26 => v = .int .u8 (y9 : Int)
  | 27 => v = .int .i64 (y9 : Int)
  | 28 => v = .int .i64 ((1 + y9 : Nat) : Int)
  | 29 => v = .agg #[.string s, .int .i64 ((1 + y9 : Nat) : Int)]
  | 30 => ∃ g, v = .pointer (some ⟨g, 0, none⟩) ∧ n0 ≤ g ∧ ∃ x y, Bx W g 26 #[x, y]
  | _ => v = undef

theorem JE.keep {b0 o0 L c k b y16 q16 y2 y9 n0 : Nat} {P2 s : ByteArray} {W W' : World} (hb : Below W.heap.size W W') : ∀ j v, JE b0 o0 L c k b y16 q16 y2 y9 n0 P2 s j v W → JE b0 o0 L c k b y16 q16 y2 y9 n0 P2 s j v W' := by
  intro j v h
  rcases j with _ | _ | _ | _ | _ | _ | _ | _ | _ | _ | _ | _ | _ | _ | _ | _ | _ | _ | _ | _ | _ | _ | _ | _ | _ | _ | _ | _ | _ | _ | _ | j
  · exact h
  · exact h
  · exact h
  · exact h
  · exact h
  · exact h
  · exact h
  · exact h
  · exact h
  · exact h
  · exact h
  · exact h
  · obtain ⟨g, h1, h2⟩ := h
    exact ⟨g, h1, h2.on hb⟩
  · exact h
  · exact h
  · exact h
  · exact h
  · exact h
  · exact h
  · exact h
  · exact h
  · exact h
  · exact h
  · exact h
  · exact h
  · exact h
  · exact h
  · exact h
  · exact h
  · exact h
  · obtain ⟨g, h1, h2, x, y, h3⟩ := h
    exact ⟨g, h1, h2, x, y, h3.on hb⟩
  · exact h

theorem JE.far {b0 o0 L c k b y16 q16 y2 y9 n0 : Nat} {P2 s : ByteArray} {W : World} {g : Nat} {x y : Value} (hx : Bx W g 26 #[x, y]) (u1 u2 : Value) : ∀ j v, JE b0 o0 L c k b y16 q16 y2 y9 n0 P2 s j v W → JE b0 o0 L c k b y16 q16 y2 y9 n0 P2 s j v ((W.setCell ⟨g, 0, none⟩ u1).setCell ⟨g, 1, none⟩ u2) := by
  intro j v h
  rcases j with _ | _ | _ | _ | _ | _ | _ | _ | _ | _ | _ | _ | _ | _ | _ | _ | _ | _ | _ | _ | _ | _ | _ | _ | _ | _ | _ | _ | _ | _ | _ | j
  · exact h
  · exact h
  · exact h
  · exact h
  · exact h
  · exact h
  · exact h
  · exact h
  · exact h
  · exact h
  · exact h
  · exact h
  · obtain ⟨g', h1, h2⟩ := h
    have hne := h2.type_ne hx (by decide)
    exact ⟨g', h1, (h2.far (p := ⟨g, 0, none⟩) hne u1).far (p := ⟨g, 1, none⟩) hne u2⟩
  · exact h
  · exact h
  · exact h
  · exact h
  · exact h
  · exact h
  · exact h
  · exact h
  · exact h
  · exact h
  · exact h
  · exact h
  · exact h
  · exact h
  · exact h
  · exact h
  · exact h
  · obtain ⟨g', h1, h2, x', y', h3⟩ := h
    rcases Classical.em (g' = g) with rfl | hne
    · exact ⟨g', h1, h2, u1, u2, (hx.set 0 u1).set 1 u2⟩
    · exact ⟨g', h1, h2, x', y', (h3.far (p := ⟨g, 0, none⟩) hne u1).far (p := ⟨g, 1, none⟩) hne u2⟩
  · exact h


/-- What holds of the world in the region: one box of an entry, laid once it is stored. -/
def St (w0 : World) (full : Array Value) (done : Nat → Bool) (W : World) : Prop := Below w0.heap.size w0 W ∧ ∃ g0, ∀ g cs, w0.heap.size ≤ g → Bx W g 26 cs → done 30 = true ∧ g = g0 ∧ (done 31 = true → cs = full)
theorem St.keep {w0 W : World} {full : Array Value} {done : Nat → Bool} {i : Nat} (h : St w0 full done W) (h1 : i ≠ 30) (h2 : i ≠ 31) : St w0 full (fun j => done j || j == i) W := by
  have e1 : (30 == i) = false := by simp; omega
  have e2 : (31 == i) = false := by simp; omega
  obtain ⟨hb, g0, hg⟩ := h
  refine ⟨hb, g0, fun g cs hn hx => ?_⟩
  obtain ⟨a1, a2, a3⟩ := hg g cs hn hx
  exact ⟨by simp [a1], a2, fun e => a3 (by simpa [e2] using e)⟩
theorem St.alloc5 {w0 W : World} {full : Array Value} {done : Nat → Bool} {i : Nat} (h : St w0 full done W) (h1 : i ≠ 30) (h2 : i ≠ 31) (C : Array Value) : St w0 full (fun j => done j || j == i) (W.alloc (.cells C 5)) := by
  obtain ⟨hb, g0, hg⟩ := h.keep h1 h2
  refine ⟨hb.alloc hb.size _, g0, fun g cs hn hx => ?_⟩
  have hne := hx.type_ne (Bx.new W 5 C) (by decide)
  have hlt := hx.lt
  simp at hlt
  have hx' : Bx W g 26 cs := by
    have := (al W (.cells C 5)).block g (by omega)
    unfold Bx at hx ⊢
    rw [← this]; exact hx
  exact hg g cs hn hx'
theorem St.made {w0 W : World} {full : Array Value} {done : Nat → Bool} (h : St w0 full done W) (h30 : done 30 = false) (h31 : done 31 = false) (x y : Value) : St w0 full (fun j => done j || j == 30) (W.alloc (.cells #[x, y] 26)) := by
  obtain ⟨hb, g0, hg⟩ := h
  refine ⟨hb.alloc hb.size _, W.heap.size, fun g cs hn hx => ?_⟩
  have hlt := hx.lt
  simp at hlt
  rcases Nat.lt_or_ge g W.heap.size with hl | hl
  · have hx' : Bx W g 26 cs := by
      have := (al W (.cells #[x, y] 26)).block g hl
      unfold Bx at hx ⊢
      rw [← this]; exact hx
    have := (hg g cs hn hx').1
    rw [h30] at this; cases this
  · exact ⟨by simp, by omega, fun e => by simp [h31] at e⟩
theorem St.laid {w0 W : World} {u1 u2 x y : Value} {done : Nat → Bool} {g : Nat} (h : St w0 #[u1, u2] done W) (hn : w0.heap.size ≤ g) (hx : Bx W g 26 #[x, y]) : St w0 #[u1, u2] (fun j => done j || j == 31) ((W.setCell ⟨g, 0, none⟩ u1).setCell ⟨g, 1, none⟩ u2) := by
  obtain ⟨hb, g0, hg⟩ := h
  obtain ⟨a1, a2, _⟩ := hg g _ hn hx
  refine ⟨(hb.setCell (p := ⟨g, 0, none⟩) hn u1).setCell (p := ⟨g, 1, none⟩) hn u2, g0, fun g' cs hn' hx' => ?_⟩
  have hnew : Bx ((W.setCell ⟨g, 0, none⟩ u1).setCell ⟨g, 1, none⟩ u2) g 26 #[u1, u2] := (hx.set 0 u1).set 1 u2
  rcases Classical.em (g' = g) with rfl | hne
  · exact ⟨by simp [a1], a2, fun _ => hx'.same hnew⟩
  · have hx2 : Bx W g' 26 cs := by
      have e1 := Below.heap_setCell (W.setCell ⟨g, 0, none⟩ u1) ⟨g, 1, none⟩ u2 g' hne
      have e2 := Below.heap_setCell W ⟨g, 0, none⟩ u1 g' hne
      unfold Bx at hx' ⊢
      rw [← e2, ← e1]; exact hx'
    obtain ⟨b1, b2, _⟩ := hg g' cs hn' hx2
    exact absurd (b2.trans a2.symm) hne

set_option maxRecDepth 100000 in
set_option maxHeartbeats 8000000 in
theorem made_any (v : Value) (l : List Nat) (w : World) (h : Tx w v l) (hl : l.length ≤ 60000) : Calls Try.prog 8 #[v] w fun e w' => ∃ v', e = .returned v' ∧ Eo w' w.heap.size v' (PD.made l) ∧ Below w.heap.size w w' := by
  obtain ⟨A, c, rfl⟩ := h.form
  have h256 := h.2.1
  generalize hL : l.length = L at *
  have HS := Lib.hid h
  have HL := Lib.hid hL
  have H256 := Lib.hid h256
  clear h hL h256
  go_enter Try.func8, Try.ntmps8
  go_wp2
  go_loopw [3, 4, 5] (fun o i x5 wr => ∃ k : Nat, k ≤ L ∧ i = .int .i64 (k : Int) ∧ Eo wr w.heap.size o (PD.made (l.take k)) ∧ Below w.heap.size w wr) (fun _ i _ _ => L - (intOf i).toNat)
  case atStart => exact ⟨0, Nat.zero_le _, rfl, World.ownsRow_nil _ _ _ _, Below.refl _ _⟩
  case round =>
    obtain ⟨k, hk, rfl, hO, hB⟩ := hrel
    by_cases hlt : k < L
    · obtain ⟨b0, o0, rfl, hb0, hcell⟩ := (HS.out.below hB).at (by rw [HL.out]; omega)
      obtain ⟨b, hx⟩ : ∃ x, l[k]? = some x := ⟨_, List.getElem?_eq_getElem (by rw [HL.out]; omega)⟩
      have g0 := hcell k b hx
      have hb256 := H256.out b (List.mem_of_getElem? hx)
      have hnx : PD.made (l.take (k + 1)) = PD.rwth (PD.made (l.take k)) (PD.mk b) := by
        rw [List.take_add_one, hx]; exact PD.made_snoc _ _
      have hmk : PD.mk b = (PD.nm b, ((1 + b % 9 : Nat) : Int)) := rfl
      obtain ⟨s, hs⟩ : ∃ s, PD.nm b = s := ⟨_, rfl⟩
      have hce : ∀ W, Below wr.heap.size wr W → W.cell? ⟨b0, o0 + k, none⟩ = some (.int .u8 (b : Int)) := fun W hW => (hW.cell hb0).trans g0
      obtain ⟨P2, hP2⟩ : ∃ P, str [97 + b % 16, 97 + b / 16] = P := ⟨_, rfl⟩
      have hPs : P2.size = 2 := by rw [← hP2, PD.str_size]; rfl
      have hPe : P2.extract 0 (1 + b % 2) = s := by rw [← hs, ← hP2, PD.nm]
      rw [hs] at hmk
      obtain ⟨y16, hy16⟩ : ∃ y, b % 16 = y := ⟨_, rfl⟩
      obtain ⟨q16, hq16⟩ : ∃ y, b / 16 = y := ⟨_, rfl⟩
      obtain ⟨y2, hy2⟩ : ∃ y, b % 2 = y := ⟨_, rfl⟩
      obtain ⟨y9, hy9⟩ : ∃ y, b % 9 = y := ⟨_, rfl⟩
      rw [hy9] at hmk
      rw [hy2] at hPe
      rw [hy16, hq16] at hP2
      have m16 : (b : Int).tmod 16 = (y16 : Int) := by rw [← hy16, Int.tmod_eq_emod_of_nonneg (by omega)]; omega
      have d16 : (b : Int).tdiv 16 = (q16 : Int) := by rw [← hq16, Int.tdiv_eq_ediv_of_nonneg (by omega)]; omega
      have m2 : (b : Int).tmod 2 = (y2 : Int) := by rw [← hy2, Int.tmod_eq_emod_of_nonneg (by omega)]; omega
      have m9 : (b : Int).tmod 9 = (y9 : Int) := by rw [← hy9, Int.tmod_eq_emod_of_nonneg (by omega)]; omega
      have b16 : y16 < 16 := by omega
      have c16 : q16 < 16 := by omega
      have b2 : y2 < 2 := by omega
      have b9 : y9 < 9 := by omega
      have w16 : IntKind.u8.wrap (97 + (y16 : Int)) = 97 + (y16 : Int) := by rw [IntKind.wrap_u8]; omega
      have wq : IntKind.u8.wrap (97 + (q16 : Int)) = 97 + (q16 : Int) := by rw [IntKind.wrap_u8]; omega
      have w2 : IntKind.i64.wrap (y2 : Int) = y2 := by rw [IntKind.wrap_i64]; omega
      have w2' : IntKind.i64.wrap (1 + (y2 : Int)) = 1 + (y2 : Int) := by rw [IntKind.wrap_i64]; omega
      have w9 : IntKind.i64.wrap (y9 : Int) = y9 := by rw [IntKind.wrap_i64]; omega
      have w9' : IntKind.i64.wrap (1 + (y9 : Int)) = 1 + (y9 : Int) := by rw [IntKind.wrap_i64]; omega
      have hb97 : 97 + y16 < 256 := by omega
      have hq97 : 97 + q16 < 256 := by omega
      have u16 : IntKind.u8.wrap (y16 : Int) = y16 := by rw [IntKind.wrap_u8]; omega
      have uq : IntKind.u8.wrap (q16 : Int) = q16 := by rw [IntKind.wrap_u8]; omega
      rw [hmk] at hnx
      have hfit := PD.made_fit (l.take k) (fun x hx => H256.out x (List.mem_of_mem_take hx)) (by rw [List.length_take]; omega)
      have hml := PD.made_length (l.take k)
      have hml' : (PD.made (l.take k)).length ≤ 65535 := by rw [List.length_take] at hml; omega
      have HNX := Lib.hid hnx
      have HP2 := Lib.hid hP2
      have HFT := Lib.hid hfit
      have HML := Lib.hid hml'
      have HO := Lib.hid hO
      clear hcell hx g0 hnx hmk hs hP2 hy16 hq16 hy2 hy9 hfit hml hml' hO
      go_upto_region 5 with fail
      refine wp_region_rel2 Try.checked.mixed (by kernel_rfl) (St wr #[.string s, .int .i64 ((1 + y9 : Nat) : Int)]) (JE b0 o0 L c k b y16 q16 y2 y9 wr.heap.size P2 s) ?start ?each ?fin
      case start =>
        refine ⟨(Below.refl _ _).drew, 0, fun g cs hn hx => ?_⟩
        have := hx.lt
        simp at this
        omega
      case each =>
        intro i hi' done a W hi0 hcl hcl2 hold hp hW K hK
        rcases i with _ | _ | _ | _ | _ | _ | _ | _ | _ | _ | _ | _ | _ | _ | _ | _ | _ | _ | _ | _ | _ | _ | _ | _ | _ | _ | _ | _ | _ | _ | _ | i
        · have s := hold 0 rfl
          simp [predsOf, Region.binds, slotV, JE] at hp
          refine wpOp_of rfl rfl ?_
          simp at s
          go_simp
          exact hK _ _ (by simp) (hW.keep (by decide) (by decide)) (fun _ _ _ h => h) rfl
        · have s := hold 4 rfl
          simp [predsOf, Region.binds, slotV, JE] at hp
          refine wpOp_of rfl rfl ?_
          simp at s
          go_simp
          exact hK _ _ (by simp) (hW.keep (by decide) (by decide)) (fun _ _ _ h => h) rfl
        · simp [predsOf, Region.binds, slotV, JE] at hp
          refine wpOp_of rfl rfl ?_
          go_simp
          exact hK _ _ (by simp) (hW.keep (by decide) (by decide)) (fun _ _ _ h => h) rfl
        · simp [predsOf, Region.binds, slotV, JE] at hp
          refine wpOp_of rfl rfl ?_
          have d0 := hce W hW.1
          go_simp
          exact hK _ _ (by simp) (hW.keep (by decide) (by decide)) (fun _ _ _ h => h) rfl
        · simp [predsOf, Region.binds, slotV, JE] at hp
          refine wpOp_of rfl rfl ?_
          go_simp
          exact hK _ _ (by simp) (hW.keep (by decide) (by decide)) (fun _ _ _ h => h) (by simp [JE])
        · simp [predsOf, Region.binds, slotV, JE] at hp
          refine wpOp_of rfl rfl ?_
          go_simp
          exact hK _ _ (by simp) (hW.keep (by decide) (by decide)) (fun _ _ _ h => h) (by simp [JE])
        · have s := hold 0 rfl
          simp [predsOf, Region.binds, slotV, JE] at hp
          refine wpOp_of rfl rfl ?_
          simp at s
          go_simp
          exact hK _ _ (by simp) (hW.keep (by decide) (by decide)) (fun _ _ _ h => h) rfl
        · have s := hold 4 rfl
          simp [predsOf, Region.binds, slotV, JE] at hp
          refine wpOp_of rfl rfl ?_
          simp at s
          go_simp
          exact hK _ _ (by simp) (hW.keep (by decide) (by decide)) (fun _ _ _ h => h) rfl
        · simp [predsOf, Region.binds, slotV, JE] at hp
          refine wpOp_of rfl rfl ?_
          go_simp
          exact hK _ _ (by simp) (hW.keep (by decide) (by decide)) (fun _ _ _ h => h) rfl
        · simp [predsOf, Region.binds, slotV, JE] at hp
          refine wpOp_of rfl rfl ?_
          have d0 := hce W hW.1
          go_simp
          exact hK _ _ (by simp) (hW.keep (by decide) (by decide)) (fun _ _ _ h => h) rfl
        · simp [predsOf, Region.binds, slotV, JE] at hp
          refine wpOp_of rfl rfl ?_
          go_simp
          exact hK _ _ (by simp) (hW.keep (by decide) (by decide)) (fun _ _ _ h => h) (by simp [JE])
        · simp [predsOf, Region.binds, slotV, JE] at hp
          refine wpOp_of rfl rfl ?_
          go_simp
          exact hK _ _ (by simp) (hW.keep (by decide) (by decide)) (fun _ _ _ h => h) (by simp [JE])
        · simp [predsOf, Region.binds, slotV, JE] at hp
          refine wpOp_of rfl rfl ?_
          go_simp
          exact hK _ _ (by simp) (hW.alloc5 (by decide) (by decide) _) (fun j v' _ h => JE.keep (al _ _) j v' h) ⟨_, rfl, Bx.new W 5 _⟩
        · simp [predsOf, Region.binds, slotV, JE] at hp
          refine wpOp_of rfl rfl ?_
          obtain ⟨g, p1, p2⟩ := hp
          have hst := (p2.tx hb97 hq97).string
          rw [HP2.out] at hst
          go_simp
          exact hK _ _ (by simp) (hW.keep (by decide) (by decide)) (fun _ _ _ h => h) rfl
        · have s := hold 0 rfl
          simp [predsOf, Region.binds, slotV, JE] at hp
          refine wpOp_of rfl rfl ?_
          simp at s
          go_simp
          exact hK _ _ (by simp) (hW.keep (by decide) (by decide)) (fun _ _ _ h => h) rfl
        · have s := hold 4 rfl
          simp [predsOf, Region.binds, slotV, JE] at hp
          refine wpOp_of rfl rfl ?_
          simp at s
          go_simp
          exact hK _ _ (by simp) (hW.keep (by decide) (by decide)) (fun _ _ _ h => h) rfl
        · simp [predsOf, Region.binds, slotV, JE] at hp
          refine wpOp_of rfl rfl ?_
          go_simp
          exact hK _ _ (by simp) (hW.keep (by decide) (by decide)) (fun _ _ _ h => h) rfl
        · simp [predsOf, Region.binds, slotV, JE] at hp
          refine wpOp_of rfl rfl ?_
          have d0 := hce W hW.1
          go_simp
          exact hK _ _ (by simp) (hW.keep (by decide) (by decide)) (fun _ _ _ h => h) rfl
        · simp [predsOf, Region.binds, slotV, JE] at hp
          refine wpOp_of rfl rfl ?_
          go_simp
          exact hK _ _ (by simp) (hW.keep (by decide) (by decide)) (fun _ _ _ h => h) (by simp [JE])
        · simp [predsOf, Region.binds, slotV, JE] at hp
          refine wpOp_of rfl rfl ?_
          go_simp
          exact hK _ _ (by simp) (hW.keep (by decide) (by decide)) (fun _ _ _ h => h) (by simp [JE])
        · simp [predsOf, Region.binds, slotV, JE] at hp
          refine wpOp_of rfl rfl ?_
          go_simp
          exact hK _ _ (by simp) (hW.keep (by decide) (by decide)) (fun _ _ _ h => h) (by simp [JE])
        · simp [predsOf, Region.binds, slotV, JE] at hp
          refine wpOp_of rfl rfl ?_
          go_simp
          rw [if_pos ⟨by omega, by omega⟩, show (1 + (y2 : Int)).toNat = 1 + y2 by omega, hPe]
          go_simp
          exact hK _ _ (by simp) (hW.keep (by decide) (by decide)) (fun _ _ _ h => h) rfl
        · have s := hold 0 rfl
          simp [predsOf, Region.binds, slotV, JE] at hp
          refine wpOp_of rfl rfl ?_
          simp at s
          go_simp
          exact hK _ _ (by simp) (hW.keep (by decide) (by decide)) (fun _ _ _ h => h) rfl
        · have s := hold 4 rfl
          simp [predsOf, Region.binds, slotV, JE] at hp
          refine wpOp_of rfl rfl ?_
          simp at s
          go_simp
          exact hK _ _ (by simp) (hW.keep (by decide) (by decide)) (fun _ _ _ h => h) rfl
        · simp [predsOf, Region.binds, slotV, JE] at hp
          refine wpOp_of rfl rfl ?_
          go_simp
          exact hK _ _ (by simp) (hW.keep (by decide) (by decide)) (fun _ _ _ h => h) rfl
        · simp [predsOf, Region.binds, slotV, JE] at hp
          refine wpOp_of rfl rfl ?_
          have d0 := hce W hW.1
          go_simp
          exact hK _ _ (by simp) (hW.keep (by decide) (by decide)) (fun _ _ _ h => h) rfl
        · simp [predsOf, Region.binds, slotV, JE] at hp
          refine wpOp_of rfl rfl ?_
          go_simp
          exact hK _ _ (by simp) (hW.keep (by decide) (by decide)) (fun _ _ _ h => h) (by simp [JE])
        · simp [predsOf, Region.binds, slotV, JE] at hp
          refine wpOp_of rfl rfl ?_
          go_simp
          exact hK _ _ (by simp) (hW.keep (by decide) (by decide)) (fun _ _ _ h => h) (by simp [JE])
        · simp [predsOf, Region.binds, slotV, JE] at hp
          refine wpOp_of rfl rfl ?_
          go_simp
          exact hK _ _ (by simp) (hW.keep (by decide) (by decide)) (fun _ _ _ h => h) (by simp [JE])
        · simp [predsOf, Region.binds, slotV, JE] at hp
          refine wpOp_of rfl rfl ?_
          go_simp
          exact hK _ _ (by simp) (hW.keep (by decide) (by decide)) (fun _ _ _ h => h) rfl
        · simp [predsOf, Region.binds, slotV, JE] at hp
          refine wpOp_of rfl rfl ?_
          have h31 : done 31 = false := by
            cases h : done 31 with
            | false => rfl
            | true => exact absurd (hcl 31 _ rfl h ⟨30, .data⟩ (by simp) rfl) (by rw [hi0]; decide)
          have hsz := hW.1.size
          go_simp
          exact hK _ _ (by simp) (hW.made hi0 h31 (.string { data := #[] }) (.int .i64 0)) (fun j v' _ h => JE.keep (al _ _) j v' h) ⟨_, rfl, hsz, _, _, Bx.new W 26 _⟩
        · have j0 : i = 0 := by simp at hi'; omega
          subst j0
          simp [predsOf, Region.binds, slotV, JE] at hp
          refine wpOp_of rfl rfl ?_
          obtain ⟨⟨g, p1, p2, x, y, p3⟩, p4⟩ := hp
          obtain ⟨c0, c1, f0, f1⟩ := p3.two
          go_simp
          exact hK _ _ (by simp) (hW.laid p2 p3) (fun j v' hd h => JE.far p3 _ _ j v' h) rfl
      case fin =>
        intro vs W done hRs hdn hW
        have r30 : ∃ g, vs (some 5) = .pointer (some ⟨g, 0, none⟩) ∧ wr.heap.size ≤ g ∧ ∃ x y, Bx W g 26 #[x, y] := hRs 30 (by decide)
        obtain ⟨g, hv, hg, x, y, hx⟩ := r30
        obtain ⟨hBW, g0, huniq⟩ := hW
        have hful := (huniq g _ hg hx).2.2 (hdn 31 (by decide))
        rw [hful] at hx
        simp only [putAll, List.foldl_cons, List.foldl_nil, Act.put, List.setIfInBounds_toArray, List.set_cons_succ, List.set_cons_zero, hv]
        clear hRs hdn huniq hful hv
        generalize vs (some 12) = V12 at *
        generalize vs (some 13) = V13 at *
        generalize vs (some 14) = V14 at *
        generalize vs (some 15) = V15 at *
        generalize vs (some 16) = V16 at *
        generalize vs (some 17) = V17 at *
        generalize vs (some 18) = V18 at *
        generalize vs (some 19) = V19 at *
        generalize vs (some 20) = V20 at *
        generalize vs (some 21) = V21 at *
        generalize vs (some 22) = V22 at *
        generalize vs (some 23) = V23 at *
        generalize vs (some 24) = V24 at *
        generalize vs (some 25) = V25 at *
        generalize vs (some 26) = V26 at *
        generalize vs (some 27) = V27 at *
        generalize vs (some 28) = V28 at *
        generalize vs (some 29) = V29 at *
        generalize vs (some 30) = V30 at *
        generalize vs (some 31) = V31 at *
        generalize vs (some 32) = V32 at *
        generalize vs (some 33) = V33 at *
        generalize vs (some 34) = V34 at *
        generalize vs (some 35) = V35 at *
        generalize vs (some 36) = V36 at *
        generalize vs (some 37) = V37 at *
        generalize vs (some 38) = V38 at *
        generalize vs (some 39) = V39 at *
        generalize vs (some 40) = V40 at *
        generalize vs (some 41) = V41 at *
        obtain ⟨c0, c1⟩ := hx.pair
        have hbW := hB.trans (hBW.mono hB.size)
        have hOW := HO.out.on hBW
        have hc := rwith_any u3 (PD.made (l.take k)) s ((1 + y9 : Nat) : Int) W (hOW.row HFT.out) HML.out
        have HOW := Lib.hid hOW
        clear hOW HO hx hce m16 d16 m2 m9 w16 wq w2 w2' w9 w9' u16 uq hPe
        go_wp2_with fail
        refine hc.mono ?_
        rintro e w5 ⟨v5, rfl, hs1, hs2, hB5⟩
        have hO5 : Eo w5 w.heap.size v5 (PD.made (l.take (k + 1))) := by
          rw [HNX.out]
          cases hh : PD.has (PD.made (l.take k)) s with
          | true => rw [hs1 hh, PD.rwth, if_pos hh]; exact HOW.out.on hB5
          | false => exact (hs2 hh).base hbW.size
        have hb5 := hbW.trans (hB5.mono hbW.size)
        have HO5 := Lib.hid hO5
        clear hc hs1 hs2 hO5 hB5 HOW
        go_wp2
        go_roundw
        case rel => exact ⟨k + 1, by omega, by go_num, HO5.out, hb5⟩
        case measure => simp [intOf]; omega
    · have hkn : k = L := by omega
      subst hkn
      rw [List.take_of_length_le (by rw [HL.out]; exact Nat.le_refl _)] at hO
      have HO := Lib.hid hO
      clear hO HS HL H256
      go_wp2
      go_ret
      exact ⟨_, rfl, HO.out, hB⟩
end Go.Proofs.Ytckkljiaicmljaa
