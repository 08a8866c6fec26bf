/-
  Contracts: dir.Put, dir.entries, dir.Take.
-/
import Derived.Test.YtckkljiaicmljaaQe
import Derived.Test.YtckkljiaicmljaaQf
namespace Go.Proofs.Ytckkljiaicmljaa
open Go.RowKit Go.Joins

set_option maxHeartbeats 4000000 in
theorem put_any (v : Value) (l : List E) (w : World) (h : Es w v l) : Calls Try.prog 9 #[v] w fun e w' => e = .returned (.tuple #[.string (PD.put l), .bool (PD.ok l)]) ∧ Below w.heap.size w w' := by
  have hr := rise_any v l w h
  obtain ⟨A, c, rfl⟩ := h.form
  cases hri : PD.rise l with
  | false =>
    have e1 : PD.ok l = false := by simp [PD.ok, hri]
    have e2 : PD.put l = { data := #[] } := by rw [PD.put, e1]; rfl
    rw [e1, e2]
    rw [hri] at hr
    clear e1 e2 h
    go_enter Try.func9, Try.ntmps9
    go_wp2_with (go_at_call 20; refine hr.mono ?_; rintro e w1 ⟨rfl, hB1⟩)
    go_ret2
    exact ⟨rfl, hB1⟩
  | true =>
    rw [hri] at hr
    have ht : ∀ W, Below w.heap.size w W → Calls Try.prog 21 #[.slice A l.length c] W fun e w' => e = .returned (.string (str (PD.bytes l))) ∧ Below W.heap.size W w' := fun W hW => text_any _ l W (h.below hW) (PD.rise_may hri)
    have hsz := PD.str_size (PD.bytes l)
    by_cases hl : (PD.bytes l).length ≤ 120
    · have e1 : PD.ok l = true := by simp [PD.ok, hri, hl]
      have e2 : PD.put l = str (PD.bytes l) := by rw [PD.put, e1]; rfl
      rw [e1, e2]
      generalize str (PD.bytes l) = s at *
      have h8 : ¬ (120 : Int) < (s.size : Int) := by omega
      clear e1 e2 h hsz
      generalize l.length = L at *
      go_enter Try.func9, Try.ntmps9
      go_wp2_with (first | (go_at_call 20; refine hr.mono ?_; rintro e w1 ⟨rfl, hB1⟩) | (go_at_call 21; refine (ht _ hB1).mono ?_; rintro e w2 ⟨rfl, hB2⟩))
      go_ret2
      exact ⟨rfl, hB1.trans (hB2.mono hB1.size)⟩
    · have e1 : PD.ok l = false := by simp [PD.ok, hl]
      have e2 : PD.put l = { data := #[] } := by rw [PD.put, e1]; rfl
      rw [e1, e2]
      generalize str (PD.bytes l) = s at *
      have h8 : (120 : Int) < (s.size : Int) := by omega
      clear e1 e2 h hsz
      generalize l.length = L at *
      go_enter Try.func9, Try.ntmps9
      go_wp2_with (first | (go_at_call 20; refine hr.mono ?_; rintro e w1 ⟨rfl, hB1⟩) | (go_at_call 21; refine (ht _ hB1).mono ?_; rintro e w2 ⟨rfl, hB2⟩))
      go_ret2
      exact ⟨rfl, hB1.trans (hB2.mono hB1.size)⟩

def strLen : Value → Nat
  | .string s => s.size
  | _ => 0
theorem nums_at (s : ByteArray) (k : Nat) (h : k < s.size) : ∃ b : UInt8, s[k] = b ∧ (nums s)[k]? = some b.toNat := by
  obtain ⟨b, h1, h2⟩ := ix_data s k h
  exact ⟨b, h2, by rw [nums, List.getElem?_map, h1]; rfl⟩
theorem nums_extract (s : ByteArray) (a b : Nat) : nums (s.extract a b) = ((nums s).take b).drop a := by
  simp only [nums, ByteArray.data_extract, Array.toList_extract, List.extract_eq_take_drop, List.map_take, List.map_drop]
  rw [List.drop_take]
theorem extract_str (s : ByteArray) (a b : Nat) : s.extract a b = str (((nums s).take b).drop a) := by
  rw [← nums_extract, str_nums]

set_option maxRecDepth 100000 in
set_option maxHeartbeats 8000000 in
theorem entries_any (s : ByteArray) (w : World) (hs : s.size ≤ 65536) : Calls Try.prog 23 #[.string s] w fun e w' => ∃ v L b, e = .returned (.tuple #[v, .bool b]) ∧ Eo w' w.heap.size v L ∧ Fit L ∧ PD.ents (nums s) = (if b = true then some L else none) ∧ Below w.heap.size w w' := by
  obtain ⟨i0, hi, hz0, hz1, hz2⟩ := info_parts Try.info26
  obtain ⟨N, hN⟩ : ∃ N, PD.ents (nums s) = N := ⟨_, rfl⟩
  rw [hN]
  obtain ⟨S, hS⟩ : ∃ S, s.size = S := ⟨_, rfl⟩
  rw [hS] at hs
  have HN := Lib.hid hN
  have HSS := Lib.hid hS
  clear hN hS
  go_enter Try.func23, Try.ntmps23
  go_wp2
  go_loopw [0, 4, 5, 6] (fun b o x5 x6 wr => ∃ (t : ByteArray) (L : List E), b = .string t ∧ Eo wr w.heap.size o L ∧ Below w.heap.size w wr ∧ N = (PD.ents (nums t)).map (L ++ ·) ∧ L.length + t.size ≤ S ∧ ∀ e ∈ L, e.1.size ≤ 1048576 ∧ I64 e.2) (fun b _ _ _ _ => strLen b)
  case atStart => exact ⟨s, [], rfl, World.ownsRow_nil _ _ _ _, Below.refl _ _, by rw [HN.out]; cases N <;> simp, by simp [HSS.out], by simp⟩
  case round =>
    obtain ⟨t, L, rfl, hO, hB, hn, hlt, hf⟩ := hrel
    by_cases h0 : t.size = 0
    · have ht : t = { data := #[] } := by
        apply ByteArray.ext
        exact Array.eq_empty_of_size_eq_zero h0
      subst ht
      rw [show nums { data := #[] } = [] from rfl, PD.ents_nil, Option.map_some, List.append_nil] at hn
      have hr : Fit L := ⟨hf, by omega⟩
      subst hn
      clear h0 hlt
      go_wp2
      go_ret2
      exact ⟨_, L, true, rfl, hO, hr, rfl, hB⟩
    · obtain ⟨b, hb, hbn⟩ := nums_at t 0 (by omega)
      obtain ⟨n, hbe⟩ : ∃ n, b.toNat = n := ⟨_, rfl⟩
      have hn256 : n < 256 := by rw [← hbe]; exact b.toNat_lt
      rw [hbe] at hbn
      obtain ⟨r, hr⟩ : ∃ r, nums t = n :: r := by
        cases hc : nums t with
        | nil => rw [hc] at hbn; simp at hbn
        | cons x r =>
          rw [hc] at hbn
          simp at hbn
          exact ⟨r, by rw [hbn]⟩
      have hrl : r.length + 1 = t.size := by rw [← nums_length, hr]; rfl
      have hemp : t.toList.isEmpty = false := by
        cases hc : t.toList with
        | nil =>
          exfalso
          have : t.data.toList = [] := by rw [← Lib.toList_data]; exact hc
          have : t.size = 0 := by rw [Lib.size_eq, this]; rfl
          omega
        | cons _ _ => rfl
      have hw0 : IntKind.i64.wrap (n : Int) = n := by rw [IntKind.wrap_i64]; omega
      have h0' : 0 < t.size := by omega
      by_cases h2 : n + 2 ≤ t.size
      · rw [hr, PD.ents_yes (by omega)] at hn
        have h2' : ¬ (t.size : Int) < (n : Int) + 2 := by omega
        have hw2 : IntKind.i64.wrap ((n : Int) + 2) = (n : Int) + 2 := by rw [IntKind.wrap_i64]; omega
        have hw1 : IntKind.i64.wrap (1 + (n : Int)) = 1 + (n : Int) := by rw [IntKind.wrap_i64]; omega
        obtain ⟨b2, hb2, hbn2⟩ := nums_at t (1 + n) (by omega)
        obtain ⟨z, hze⟩ : ∃ z, b2.toNat = z := ⟨_, rfl⟩
        have hz256 : z < 256 := by rw [← hze]; exact b2.toNat_lt
        have hwz : IntKind.i64.wrap (z : Int) = z := by rw [IntKind.wrap_i64]; omega
        rw [hze] at hbn2
        have e1 : t.extract 1 (1 + n) = str (r.take n) := by
          rw [extract_str, hr, show 1 + n = n + 1 by omega, List.take_succ_cons, List.drop_succ_cons, List.drop_zero]
        have e2 : r.getD n 0 = z := by
          rw [hr, show 1 + n = n + 1 by omega, List.getElem?_cons_succ] at hbn2
          rw [List.getD_eq_getElem?_getD, hbn2]; rfl
        have e3 : nums (t.extract (n + 2) t.size) = r.drop (n + 1) := by
          rw [nums_extract, hr, List.take_of_length_le (by simp; omega), List.drop_succ_cons]
        have e4 : (t.extract (n + 2) t.size).size = t.size - (n + 2) := by rw [← nums_length, e3, List.length_drop]; omega
        have e5 : (t.extract 1 (1 + n)).size = n := by rw [e1, PD.str_size, List.length_take]; omega
        rw [e2, ← e1, ← e3] at hn
        have hi1 : (1 : Int) + (n : Int) < (t.size : Int) := by omega
        obtain ⟨P, hP⟩ : ∃ P, t.extract 1 (1 + n) = P := ⟨_, rfl⟩
        rw [hP] at hn e5
        have hc := fun W => clone_any P W (by omega)
        have hnx : N = (PD.ents (nums (t.extract (n + 2) t.size))).map ((L ++ [(P, (z : Int))]) ++ ·) := by
          rw [hn, Option.map_map]
          congr 1
          funext x
          simp
        have hfx : ∀ e ∈ L ++ [(P, (z : Int))], e.1.size ≤ 1048576 ∧ I64 e.2 := by
          intro e he
          rcases List.mem_append.1 he with he | he
          · exact hf e he
          · simp at he
            subst he
            exact ⟨by simp; omega, by simp [I64]; omega⟩
        have HN := Lib.hid hnx
        have HF := Lib.hid hfx
        clear hn hnx hr hbn hbn2 e1 e2 e3 hf hfx e5
        go_wp2_with fail
        refine (hc _).mono ?_
        rintro e w1 ⟨rfl, hB1⟩
        have hO1 := hO.on hB1
        have hb1 := hB.trans (hB1.mono hB.size)
        have hz1' := hb1.size
        unfold Eo at hO1
        obtain ⟨ll, hll⟩ : ∃ ll, L.length = ll := ⟨_, rfl⟩
        rw [hll] at hO1 hlt
        have HLL := Lib.hid hll
        obtain ⟨lm, hlm⟩ : ∃ lm, cs L = lm := ⟨_, rfl⟩
        rw [hlm] at hO1
        have HLM := Lib.hid hlm
        clear hO hB hB1 hll hlm hc h2'
        go_wp2_with (at_builtin; refine wpList_append_sl rfl _ _ 23 rfl w.heap.size 26 i0 (.agg #[.string { data := #[] }, .int .i64 0]) 2 24 Try.underlying23 hi hz0 hz1 hz2 rfl (by decide) _ _ _ rfl (hO1.alloc _) _ 1 1 _ rfl (Sl.new2 w1 _ 26 _ 1 1 _ rfl rfl) ?q1 ?q2 ?q3 ?q4 ?_)
        case q1 => exact ⟨rfl, rfl⟩
        case q2 => unfold maxLen; omega
        case q3 => omega
        case q4 => simp; omega
        intro v5 w5 hown hgrow
        have hb5 : Below w.heap.size w w5 := (hb1.alloc hb1.size _).grown hgrow (by simp; omega) (fun k hk => own_ge hO1 hk)
        have hE := Eo.more (e := (P, (z : Int))) hown HLL.out HLM.out rfl
        have HE := Lib.hid hE
        clear hown hgrow hO1 hb1 hE
        go_wp2
        go_roundw
        case rel => exact ⟨_, L ++ [(P, (z : Int))], rfl, HE.out, hb5, HN.out, by rw [List.length_append, HLL.out, e4]; simp; omega, HF.out⟩
        case measure => simp [strLen, e4]; omega
      · rw [hr, PD.ents_no (by omega)] at hn
        have h2' : (t.size : Int) < (n : Int) + 2 := by omega
        have hw2 : IntKind.i64.wrap ((n : Int) + 2) = (n : Int) + 2 := by rw [IntKind.wrap_i64]; omega
        have HN := Lib.hid hn
        clear hn hr hrl h2 hlt hf hO hbn
        go_wp2
        go_ret2
        exact ⟨_, [], false, rfl, World.ownsRow_nil _ _ _ _, ⟨by simp, by decide⟩, HN.out, hB⟩

set_option maxRecDepth 100000 in
set_option maxHeartbeats 8000000 in
theorem take_any (s : ByteArray) (w : World) : Calls Try.prog 11 #[.string s] w fun e w' => ∃ v, e = .returned (.tuple #[v, .bool (PD.tk s)]) ∧ Eo w' w.heap.size v (PD.tl s) ∧ Fit (PD.tl s) ∧ Below w.heap.size w w' := by
  have hno : Fit [] := ⟨by simp, by decide⟩
  by_cases hs : s.size ≤ 120
  · have he := fun W => entries_any s W (by omega)
    have hs' : ¬ (120 : Int) < (s.size : Int) := by omega
    have hcut := PD.took_cut hs
    have his := fun l h => PD.took_is (l := l) hs h
    obtain ⟨T, hT⟩ : ∃ T, PD.tk s = T := ⟨_, rfl⟩
    obtain ⟨M, hM⟩ : ∃ M, PD.tl s = M := ⟨_, rfl⟩
    rw [hT, hM]
    have HT := Lib.hid hT
    have HM := Lib.hid hM
    have HC := Lib.hid hcut
    have HI := Lib.hid his
    have HNO := Lib.hid hno
    clear hcut his hT hM hno
    go_enter Try.func11, Try.ntmps11
    go_wp2_with fail
    refine (he _).mono ?_
    rintro e w1 ⟨v1, L, b, rfl, hO1, hF1, hE, hB1⟩
    clear he
    cases b with
    | false =>
      obtain ⟨e1, e2⟩ := PD.took_none (HC.out hE)
      rw [HT.out] at e1
      rw [HM.out] at e2
      subst e1 e2
      clear hE HT HM HC HI hO1 hF1
      go_wp2
      go_ret2
      exact ⟨_, rfl, World.ownsRow_nil _ _ _ _, HNO.out, hB1⟩
    | true =>
      have hk := HI.out L hE
      have hr := rise_any v1 L w1 (hO1.row hF1)
      cases hri : PD.rise L with
      | true =>
        rw [hri, if_pos rfl] at hk
        rw [hri] at hr
        obtain ⟨e1, e2⟩ := PD.took_some hk
        rw [HT.out] at e1
        rw [HM.out] at e2
        subst e1 e2
        have HO := Lib.hid hO1
        have HF := Lib.hid hF1
        clear hE HT HM HC HI hk hri hO1 hF1
        go_wp2_with (go_at_call 20; refine hr.mono ?_; rintro e w2 ⟨rfl, hB2⟩)
        go_ret2
        exact ⟨_, rfl, HO.out.on hB2, HF.out, hB1.trans (hB2.mono hB1.size)⟩
      | false =>
        rw [hri, if_neg (by decide)] at hk
        rw [hri] at hr
        obtain ⟨e1, e2⟩ := PD.took_none hk
        rw [HT.out] at e1
        rw [HM.out] at e2
        subst e1 e2
        clear hE HT HM HC HI hk hri hO1 hF1
        go_wp2_with (go_at_call 20; refine hr.mono ?_; rintro e w2 ⟨rfl, hB2⟩)
        go_ret2
        exact ⟨_, rfl, World.ownsRow_nil _ _ _ _, HNO.out, hB1.trans (hB2.mono hB1.size)⟩
  · obtain ⟨e1, e2⟩ := PD.took_none (PD.took_long hs)
    rw [e1, e2]
    have hs' : (120 : Int) < (s.size : Int) := by omega
    clear e1 e2
    go_enter Try.func11, Try.ntmps11
    go_wp2
    go_ret2
    exact ⟨_, rfl, World.ownsRow_nil _ _ _ _, hno, Below.refl _ _⟩
end Go.Proofs.Ytckkljiaicmljaa
