/-
  Contract: the law's turned: a tree of which something is another one.
-/
import Derived.Test.YtniegpdllijjfaaGreatDoorWd
namespace Go.Proofs.YtniegpdllijjfaaGreatDoor
open Go.RowKit Go.Joins

theorem ns_kind : ∀ (l : List PT.N) (k : Nat) (n : PT.N) (z : Int), l[k]? = some n → (ns l).set (k * 3) (.int .i64 z) = ns (l.set k ⟨z, n.mode, n.body⟩)
  | [], k, n, z, h => by simp at h
  | x :: r, 0, n, z, h => by
    simp at h
    subst h
    rfl
  | x :: r, k + 1, n, z, h => by
    have := ns_kind r k n z (by simpa using h)
    rw [ns_cons, show (k + 1) * 3 = k * 3 + 1 + 1 + 1 by omega, List.set_cons_succ, List.set_cons_succ, List.set_cons_succ, this, List.set_cons_succ, ns_cons]
theorem ns_mode : ∀ (l : List PT.N) (k : Nat) (n : PT.N) (z : Int), l[k]? = some n → (ns l).set (k * 3 + 1) (.int .i64 z) = ns (l.set k ⟨n.kind, z, n.body⟩)
  | [], k, n, z, h => by simp at h
  | x :: r, 0, n, z, h => by
    simp at h
    subst h
    rfl
  | x :: r, k + 1, n, z, h => by
    have := ns_mode r k n z (by simpa using h)
    rw [ns_cons, show (k + 1) * 3 + 1 = k * 3 + 1 + 1 + 1 + 1 by omega, List.set_cons_succ, List.set_cons_succ, List.set_cons_succ, this, List.set_cons_succ, ns_cons]
theorem ns_body : ∀ (l : List PT.N) (k : Nat) (n : PT.N) (s : ByteArray), l[k]? = some n → (ns l).set (k * 3 + 2) (.string s) = ns (l.set k ⟨n.kind, n.mode, s⟩)
  | [], k, n, s, h => by simp at h
  | x :: r, 0, n, s, h => by
    simp at h
    subst h
    rfl
  | x :: r, k + 1, n, s, h => by
    have := ns_body r k n s (by simpa using h)
    rw [ns_cons, show (k + 1) * 3 + 2 = k * 3 + 2 + 1 + 1 + 1 by omega, List.set_cons_succ, List.set_cons_succ, List.set_cons_succ, this, List.set_cons_succ, ns_cons]
theorem To.kind {nt : TypeId} {w : World} {base n g c : Nat} {l : List PT.N} (h : To nt w base (.slice (some ⟨g, 0, none⟩) n c) l) {k : Nat} {x : PT.N} (hn : l.length = n) (hx : l[k]? = some x) (z : Int) : To nt (w.setCell ⟨g, k * 3, none⟩ (.int .i64 z)) base (.slice (some ⟨g, 0, none⟩) n c) (l.set k ⟨z, x.mode, x.body⟩) := by
  subst hn
  have h1 := own_set h (k * 3) (.int .i64 z)
  rw [ns_kind l k x z hx] at h1
  unfold To
  rw [List.length_set]
  exact h1
theorem To.mode {nt : TypeId} {w : World} {base n g c : Nat} {l : List PT.N} (h : To nt w base (.slice (some ⟨g, 0, none⟩) n c) l) {k : Nat} {x : PT.N} (hn : l.length = n) (hx : l[k]? = some x) (z : Int) : To nt (w.setCell ⟨g, k * 3 + 1, none⟩ (.int .i64 z)) base (.slice (some ⟨g, 0, none⟩) n c) (l.set k ⟨x.kind, z, x.body⟩) := by
  subst hn
  have h1 := own_set h (k * 3 + 1) (.int .i64 z)
  rw [ns_mode l k x z hx] at h1
  unfold To
  rw [List.length_set]
  exact h1
theorem To.body {nt : TypeId} {w : World} {base n g c : Nat} {l : List PT.N} (h : To nt w base (.slice (some ⟨g, 0, none⟩) n c) l) {k : Nat} {x : PT.N} (hn : l.length = n) (hx : l[k]? = some x) (s : ByteArray) : To nt (w.setCell ⟨g, k * 3 + 2, none⟩ (.string s)) base (.slice (some ⟨g, 0, none⟩) n c) (l.set k ⟨x.kind, x.mode, s⟩) := by
  subst hn
  have h1 := own_set h (k * 3 + 2) (.string s)
  rw [ns_body l k x s hx] at h1
  unfold To
  rw [List.length_set]
  exact h1
theorem conv_one (w : World) (b : Int) (hb : 0 ≤ b ∧ b < 256) : (convert 22 9 (.slice (some ⟨w.heap.size, 0, none⟩) 1 1)).run Tryz.prog (w.alloc (.cells #[.int .u8 b] 5)) = .ok (.string (str [b.toNat])) (w.alloc (.cells #[.int .u8 b] 5)) := by
  obtain ⟨n, rfl⟩ := Int.eq_ofNat_of_zero_le hb.1
  exact Tx.string (Tx.new w #[.int .u8 (n : Int)] (0, 0) 1 1 _ rfl [n] rfl rfl (by simp; omega) (by decide))
theorem conv_drew (w : World) (b : Int) (hb : 0 ≤ b ∧ b < 256) : (convert 22 9 (.slice (some ⟨w.heap.size, 0, none⟩) 1 1)).run Tryz.prog (w.alloc (.cells #[.int .u8 b] 5)).drew = .ok (.string (str [b.toNat])) (w.alloc (.cells #[.int .u8 b] 5)).drew := by
  obtain ⟨n, rfl⟩ := Int.eq_ofNat_of_zero_le hb.1
  have h : Tx (w.alloc (.cells #[.int .u8 (n : Int)] 5)) (.slice (some ⟨w.heap.size, 0, none⟩) 1 1) [n] := Tx.new w #[.int .u8 (n : Int)] (0, 0) 1 1 _ rfl [n] rfl rfl (by simp; omega) (by decide)
  exact Tx.string (h.below (Below.refl _ _).drew)
theorem str_one (n : Nat) : (str [n]).size = 1 := by rw [← nums_length]; simp [nums, str, strOfNums]

set_option maxRecDepth 100000 in
set_option maxHeartbeats 16000000 in
theorem turned_any (v : Value) (t : List PT.N) (how pos : Nat) (s : ByteArray) (w : World) (h : Ts w v t) (hF : PT.Fine t) (hh : how < 256) (ha : pos < 256) (hs : s.size ≤ 130) : Calls Tryz.prog 11 #[v, .int .u8 (how : Int), .int .i64 (pos : Int), .string s] w fun e w' => ∃ (v' : Value) (x : List PT.N), e = .returned v' ∧ Ts w' v' x ∧ Below w.heap.size w w' := by
  obtain ⟨i0, hi, hz0, hz1, hz2⟩ := info_parts Tryz.info43
  obtain ⟨A, c, rfl⟩ := h.form
  have h9 := hF.len
  rw [h9] at h ⊢
  have H := Lib.hid h
  have hfit := h.2
  obtain ⟨j, hj⟩ : ∃ j, pos % 9 = j := ⟨_, rfl⟩
  have hj9 : j < 9 := by omega
  obtain ⟨n, hn⟩ : ∃ n, t[j]? = some n := ⟨_, List.getElem?_eq_getElem (by omega)⟩
  have hns : n.body.size ≤ 120 := by
    rcases hF.shape j n hn with rfl | ⟨_, _, _, h⟩
    · decide
    · exact h
  have hnf := hfit.1 n (List.mem_of_getElem? hn)
  have hrj : Int.tmod (pos : Int) 9 = (j : Int) := by rw [← hj]; exact rfl
  obtain ⟨q, hq⟩ : ∃ q, how % 9 = q := ⟨_, rfl⟩
  have hq9 : q < 9 := by omega
  have hrq : Int.tmod (how : Int) 9 = (q : Int) := by rw [← hq]; exact rfl
  have hown0 : (w.alloc (.cells #[] 43)).ownsRow w.heap.size 43 3 (.slice (some ⟨w.heap.size, 0, none⟩) 0 0) 0 [] := own_none _ _ _ _ _ (Nat.le_refl _) (Bx.new w 43 #[])
  have hb1 := al w (.cells #[] 43)
  have hT := H.out.below hb1
  have hz1' : (w.alloc (.cells #[] 43)).heap.size = w.heap.size + 1 := by simp
  clear h hF
  go_enter Tryz.func11, Tryz.ntmps11
  go_wp2_with (at_builtin; refine wpList_append_sl rfl _ _ 25 rfl w.heap.size 43 i0 (.agg #[.int .i64 0, .int .i64 0, .string { data := #[] }]) 3 32 Tryz.underlying25 hi hz0 hz1 hz2 rfl (by decide) _ 0 [] rfl hown0 _ 9 c (ns t) rfl (h9 ▸ hT.1.1) (ns_cell _) ?q2 ?q3 ?q4 ?_)
  case q2 => unfold maxLen; omega
  case q3 => omega
  case q4 => simp
  intro v5 w5 hown hgrow
  have hb5 : Below w.heap.size w w5 := hb1.grown hgrow (by simp) (fun k hk => by simp [Value.ownBlock] at hk; omega)
  obtain ⟨g, cap, cur, rfl, hgb, hbg, hcap, hcs⟩ := own_box hown (by omega)
  have hO5 : To 43 w5 w.heap.size (.slice (some ⟨g, 0, none⟩) 9 cap) t := by unfold To; rw [h9]; exact hown
  have hT5 := (hO5.row hfit)
  obtain ⟨b, o, e, _, hcl⟩ := hT5.at (by omega)
  injection e with e
  injection e with e1 e2
  subst e1 e2
  obtain ⟨c0, c1, c2⟩ := hcl j n hn
  simp only [Nat.zero_add] at c0 c1 c2
  have f0 := hbg.frozen (j * 3)
  have f1 := hbg.frozen (j * 3 + 1)
  have f2 := hbg.frozen (j * 3 + 2)
  have hr0 : (0 : Int) ≤ (j : Int) := by omega
  have hr1 : (j : Int) < 9 := by omega
  have HO := Lib.hid hO5
  have HB := Lib.hid hb5
  have HFIT := Lib.hid hfit
  have HN := Lib.hid hn
  have hgl := hbg.lt
  have HG := Lib.hid hgb
  have HBG := Lib.hid hbg
  obtain ⟨kd, md, bd⟩ := n
  dsimp only at c0 c1 c2 hns hnf
  clear hgb hown hgrow hO5 hb5 hT5 hcl hn hown0 hb1 hT hbg H hcs
  rcases (show q = 0 ∨ q = 1 ∨ q = 2 ∨ q = 3 ∨ q = 4 ∨ q = 5 ∨ q = 6 ∨ q = 7 ∨ q = 8 by omega) with rfl | rfl | rfl | rfl | rfl | rfl | rfl | rfl | rfl
  · have hr4 : Int.tmod (pos : Int) 4 = ((pos % 4 : Nat) : Int) := rfl
    have hp4 : pos % 4 < 4 := Nat.mod_lt _ (by decide)
    generalize pos % 4 = p4 at *
    have hN := HO.out.kind h9 HN.out (p4 : Int)
    have HR := Lib.hid (hN.row (PT.fitN_set HFIT.out ⟨by unfold I64; simp only; omega, hnf.2.1, hnf.2.2⟩))
    clear hN
    go_wp2
    go_ret
    first | exact ⟨_, rfl, ⟨_, HR.out⟩, HB.out.setCell (p := ⟨g, j * 3, none⟩) HG.out _⟩ | exact ⟨_, _, rfl, HR.out, HB.out.setCell (p := ⟨g, j * 3, none⟩) HG.out _⟩
  · have hm1 : IntKind.i64.wrap ((pos : Int) * 100) = (pos : Int) * 100 := by rw [IntKind.wrap_i64]; omega
    have hm2 : IntKind.i64.wrap ((pos : Int) * 100 - 300) = (pos : Int) * 100 - 300 := by rw [IntKind.wrap_i64]; omega
    have hN := HO.out.mode h9 HN.out ((pos : Int) * 100 - 300)
    have HR := Lib.hid (hN.row (PT.fitN_set HFIT.out ⟨hnf.1, by unfold I64; simp only; omega, hnf.2.2⟩))
    clear hN
    go_wp2
    go_ret
    first | exact ⟨_, rfl, ⟨_, HR.out⟩, HB.out.setCell (p := ⟨g, j * 3 + 1, none⟩) HG.out _⟩ | exact ⟨_, _, rfl, HR.out, HB.out.setCell (p := ⟨g, j * 3 + 1, none⟩) HG.out _⟩
  · have hsz : ¬ 9223372036854775807 < bd.size + s.size := by omega
    have hN := HO.out.body h9 HN.out (bd ++ s)
    have HR := Lib.hid (hN.row (PT.fitN_set HFIT.out ⟨hnf.1, hnf.2.1, by simp only [ByteArray.size_append]; omega⟩))
    clear hN
    go_wp2
    go_ret
    first | exact ⟨_, rfl, ⟨_, HR.out⟩, HB.out.setCell (p := ⟨g, j * 3 + 2, none⟩) HG.out _⟩ | exact ⟨_, _, rfl, HR.out, HB.out.setCell (p := ⟨g, j * 3 + 2, none⟩) HG.out _⟩
  · have hN := HO.out.body h9 HN.out s
    have HR := Lib.hid (hN.row (PT.fitN_set HFIT.out ⟨hnf.1, hnf.2.1, by simp only; omega⟩))
    clear hN
    go_wp2
    go_ret
    first | exact ⟨_, rfl, ⟨_, HR.out⟩, HB.out.setCell (p := ⟨g, j * 3 + 2, none⟩) HG.out _⟩ | exact ⟨_, _, rfl, HR.out, HB.out.setCell (p := ⟨g, j * 3 + 2, none⟩) HG.out _⟩
  · go_upto_region 13 with fail
    clear hrq hq hj
    have hjc : ¬ cap < j := by omega
    have HR := Lib.hid ((HO.out.row HFIT.out).front h9 (p := j) (by omega))
    clear hz1' hr0 hns hgl
    go_wp2
    go_ret
    first | exact ⟨_, rfl, ⟨_, HR.out⟩, HB.out⟩ | exact ⟨_, _, rfl, HR.out, HB.out⟩
  · have hm1 : IntKind.i64.wrap (1 + (j : Int)) = 1 + (j : Int) := by rw [IntKind.wrap_i64]; omega
    have hm2 : IntKind.u8.wrap (1 + (j : Int)) = 1 + (j : Int) := by rw [IntKind.wrap_u8]; omega
    have hcv := conv_drew w5 (1 + (j : Int)) (by omega)
    have hc2 : (w5.alloc (.cells #[.int .u8 (1 + (j : Int))] 5)).cell? ⟨g, j * 3 + 2, none⟩ = some (.string bd) := ((al w5 (.cells #[.int .u8 (1 + (j : Int))] 5)).cell (p := ⟨g, j * 3 + 2, none⟩) hgl).trans c2
    have hf2 := (HBG.out.alloc (.cells #[.int .u8 (1 + (j : Int))] 5)).frozen (j * 3 + 2)
    have HO2 := Lib.hid (HO.out.on (al w5 (.cells #[.int .u8 (1 + (j : Int))] 5)))
    have hst := str_one (1 + (j : Int)).toNat
    generalize str [(1 + (j : Int)).toNat] = sx at *
    have hs1 : ¬ 9223372036854775807 < bd.size + 2 := by omega
    have hs2 : ¬ 9223372036854775807 < (bd ++ ({ data := #[1, 122] } : ByteArray)).size + sx.size := by rw [ByteArray.size_append, show ({ data := #[1, 122] } : ByteArray).size = 2 from rfl]; omega
    have hN := ((HO.out.body h9 HN.out (bd ++ { data := #[1, 122] } ++ sx)).on (al _ (.cells #[.int .u8 (1 + (j : Int))] 5))).on (Below.refl _ _).drew
    have HR := Lib.hid (hN.row (PT.fitN_set HFIT.out ⟨hnf.1, hnf.2.1, by simp only [ByteArray.size_append, show ({ data := #[1, 122] } : ByteArray).size = 2 from rfl]; omega⟩))
    have hB2 := HB.out.setCell (p := ⟨g, j * 3 + 2, none⟩) HG.out (.string (bd ++ { data := #[1, 122] } ++ sx))
    have HB3 := Lib.hid (hB2.alloc hB2.size (.cells #[.int .u8 (1 + (j : Int))] 5)).drew
    clear hN hB2
    go_wp2_with fail
    go_region
    go_wp2
    go_ret
    first | exact ⟨_, rfl, ⟨_, HR.out⟩, HB3.out⟩ | exact ⟨_, _, rfl, HR.out, HB3.out⟩
  · have hm1 : IntKind.i64.wrap (1 + (j : Int)) = 1 + (j : Int) := by rw [IntKind.wrap_i64]; omega
    have hm2 : IntKind.u8.wrap (1 + (j : Int)) = 1 + (j : Int) := by rw [IntKind.wrap_u8]; omega
    have hcv := conv_one w5 (1 + (j : Int)) (by omega)
    have hc0 : (w5.alloc (.cells #[.int .u8 (1 + (j : Int))] 5)).cell? ⟨g, j * 3, none⟩ = some (.int .i64 kd) := ((al w5 (.cells #[.int .u8 (1 + (j : Int))] 5)).cell (p := ⟨g, j * 3, none⟩) hgl).trans c0
    have hc1 : (w5.alloc (.cells #[.int .u8 (1 + (j : Int))] 5)).cell? ⟨g, j * 3 + 1, none⟩ = some (.int .i64 md) := ((al w5 (.cells #[.int .u8 (1 + (j : Int))] 5)).cell (p := ⟨g, j * 3 + 1, none⟩) hgl).trans c1
    have hc2 : (w5.alloc (.cells #[.int .u8 (1 + (j : Int))] 5)).cell? ⟨g, j * 3 + 2, none⟩ = some (.string bd) := ((al w5 (.cells #[.int .u8 (1 + (j : Int))] 5)).cell (p := ⟨g, j * 3 + 2, none⟩) hgl).trans c2
    have hf0 := (HBG.out.alloc (.cells #[.int .u8 (1 + (j : Int))] 5)).frozen (j * 3)
    have hf1 := (HBG.out.alloc (.cells #[.int .u8 (1 + (j : Int))] 5)).frozen (j * 3 + 1)
    have hf2 := (HBG.out.alloc (.cells #[.int .u8 (1 + (j : Int))] 5)).frozen (j * 3 + 2)
    have hst := str_one (1 + (j : Int)).toNat
    generalize str [(1 + (j : Int)).toNat] = sx at *
    have hs2 : ¬ 9223372036854775807 < 2 + sx.size := by omega
    have hN := (HO.out.set h9 (k := j) hj9 ⟨2, 1, { data := #[1, 113] } ++ sx⟩).on (al _ (.cells #[.int .u8 (1 + (j : Int))] 5))
    have HR := Lib.hid (hN.row (PT.fitN_set HFIT.out ⟨by unfold I64; simp, by unfold I64; simp, by simp only [ByteArray.size_append, show ({ data := #[1, 113] } : ByteArray).size = 2 from rfl]; omega⟩))
    have hB2 := ((HB.out.setCell (p := ⟨g, j * 3, none⟩) HG.out (.int .i64 2)).setCell (p := ⟨g, j * 3 + 1, none⟩) HG.out (.int .i64 1)).setCell (p := ⟨g, j * 3 + 2, none⟩) HG.out (.string ({ data := #[1, 113] } ++ sx))
    have HB3 := Lib.hid (hB2.alloc hB2.size (.cells #[.int .u8 (1 + (j : Int))] 5))
    clear hN hB2
    go_wp2
    go_ret
    first | exact ⟨_, rfl, ⟨_, HR.out⟩, HB3.out⟩ | exact ⟨_, _, rfl, HR.out, HB3.out⟩
  · have hN := HO.out.set h9 (k := j) hj9 ⟨0, 0, { data := #[] }⟩
    have HR := Lib.hid (hN.row (PT.fitN_set HFIT.out ⟨by unfold I64; simp, by unfold I64; simp, by decide⟩))
    clear hN
    go_wp2
    go_ret
    first | exact ⟨_, rfl, ⟨_, HR.out⟩, ((HB.out.setCell (p := ⟨g, j * 3, none⟩) HG.out _).setCell (p := ⟨g, j * 3 + 1, none⟩) HG.out _).setCell (p := ⟨g, j * 3 + 2, none⟩) HG.out _⟩ | exact ⟨_, _, rfl, HR.out, ((HB.out.setCell (p := ⟨g, j * 3, none⟩) HG.out _).setCell (p := ⟨g, j * 3 + 1, none⟩) HG.out _).setCell (p := ⟨g, j * 3 + 2, none⟩) HG.out _⟩
  · have HR := Lib.hid (HO.out.row HFIT.out)
    go_wp2
    go_ret
    first | exact ⟨_, rfl, ⟨_, HR.out⟩, HB.out⟩ | exact ⟨_, _, rfl, HR.out, HB.out⟩
end Go.Proofs.YtniegpdllijjfaaGreatDoor
