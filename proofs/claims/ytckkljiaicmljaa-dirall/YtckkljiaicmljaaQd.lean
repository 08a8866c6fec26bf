/-
  Contract: dir.text.
-/
import Derived.Test.YtckkljiaicmljaaQc
namespace Go.Proofs.Ytckkljiaicmljaa
open Go.RowKit Go.Joins

theorem Bx.grown {w w' : World} {g : Nat} {t : TypeId} {cs : Array Value} {row : Option Nat} (h : Bx w g t cs) (hg : w.grownBy w' row) (hne : row ≠ some g) : Bx w' g t cs := (hg.block g h.lt (fun e => hne e.symm)).trans h
theorem own_lt {w : World} {base size n k : Nat} {e : TypeId} {v : Value} {xs : List Value} (h : w.ownsRow base e size v n xs) (hk : v.ownBlock = some k) : k < w.heap.size := by
  rcases h.2 with ⟨rfl, rfl⟩ | ⟨g, cap, _, rfl, hg, hh, _⟩
  · simp [Value.ownBlock] at hk
  · simp [Value.ownBlock] at hk
    subst hk
    exact Bx.lt (cs := _) (t := e) hh
theorem own_ne {w : World} {base size n g : Nat} {e t : TypeId} {v : Value} {xs : List Value} {cs : Array Value} (h : w.ownsRow base e size v n xs) (hb : Bx w g t cs) (hte : t ≠ e) : v.ownBlock ≠ some g := by
  intro hk
  rcases h.2 with ⟨rfl, rfl⟩ | ⟨g', cap, _, rfl, hg, hh, _⟩
  · simp [Value.ownBlock] at hk
  · simp [Value.ownBlock] at hk
    subst hk
    unfold Bx at hb
    rw [hh] at hb
    injection hb with hb
    injection hb with _ hb
    exact hte hb.symm

theorem Ow.more {w : World} {base n m : Nat} {v : Value} {bs cs : List Nat} {xs : List Value} (h : w.ownsRow base 5 1 v (n + m) (bs.map bv ++ xs)) (hn : bs.length = n) (hm : cs.length = m) (hx : xs = cs.map bv) (hb : ∀ b ∈ bs, b < 256) (hc : ∀ b ∈ cs, b < 256) : Ow w base v (bs ++ cs) := by
  subst hn hm hx
  refine ⟨by rw [List.length_append, List.map_append]; exact h, fun b hb' => ?_⟩
  rcases List.mem_append.1 hb' with h | h
  · exact hb b h
  · exact hc b h

set_option maxHeartbeats 4000000 in
theorem text_any (v : Value) (l : List E) (w : World) (h : Es w v l) (hm : ∀ e ∈ l, PD.may e = true) : Calls Try.prog 21 #[v] w fun e w' => e = .returned (.string (str (PD.bytes l))) ∧ Below w.heap.size w w' := by
  obtain ⟨i0, hi, hz0, hz1, hz2⟩ := info_parts Try.info5
  obtain ⟨A, c, rfl⟩ := h.form
  have hl := h.2.2
  obtain ⟨f, hf⟩ : ∃ f, str (PD.bytes l) = f := ⟨_, rfl⟩
  rw [hf]
  have hbl : ∀ k, (PD.bytes (l.take k)).length ≤ 524288 := fun k => by
    have h1 := PD.bytes_le (l := l.take k) fun e he => hm e (List.mem_of_mem_take he)
    have h2 : (l.take k).length ≤ l.length := by simp; omega
    omega
  generalize hL : l.length = L at *
  have HF := Lib.hid hf
  have HS := Lib.hid h
  have HL := Lib.hid hL
  have HM := Lib.hid hm
  have HBL := Lib.hid hbl
  clear hf h hL hm hbl
  go_enter Try.func21, Try.ntmps21
  go_wp2
  go_loopw [3, 8] (fun o i wr => ∃ k : Nat, k ≤ L ∧ i = .int .i64 (k : Int) ∧ Ow wr w.heap.size o (PD.bytes (l.take k)) ∧ Below w.heap.size w wr) (fun _ i _ => L - (intOf i).toNat)
  case atStart => exact ⟨0, Nat.zero_le _, rfl, ⟨World.ownsRow_nil _ _ _ _, by simp [PD.bytes]⟩, Below.refl _ _⟩
  case round =>
    obtain ⟨k, hk, rfl, hO, hB⟩ := hrel
    by_cases hlt : k < L
    · obtain ⟨b0, o0, rfl, hb0, hcell⟩ := (HS.out.below hB).at (by rw [HL.out]; omega)
      obtain ⟨x, hx⟩ : ∃ x, l[k]? = some x := ⟨_, List.getElem?_eq_getElem (by rw [HL.out]; omega)⟩
      obtain ⟨g0, g1⟩ := hcell k x hx
      have hnx : PD.bytes (l.take (k + 1)) = ((PD.bytes (l.take k) ++ [x.1.size]) ++ nums x.1) ++ [x.2.toNat] := by
        rw [List.take_add_one, hx]
        have := PD.bytes_snoc (l.take k) x
        simpa [PD.ent] using this
      obtain ⟨m1, m2, m3, m4⟩ := PD.may_size (HM.out x (List.mem_of_getElem? hx))
      have hbk := HBL.out k
      obtain ⟨s, z⟩ := x
      dsimp only at hnx m1 m2 m3 m4 g0 g1
      obtain ⟨y, rfl⟩ := Int.eq_ofNat_of_zero_le (show 0 ≤ z by omega)
      rw [show (y : Int).toNat = y by omega] at hnx
      have HN := Lib.hid hnx
      have hb1 := hB.alloc hB.size (.cells #[.string s, .int .i64 (y : Int)] 26)
      have hbx := Bx.new wr 26 #[.string s, .int .i64 (y : Int)]
      have hO1 := hO.on (al wr (.cells #[.string s, .int .i64 (y : Int)] 26))
      generalize PD.bytes (l.take k) = B at *
      clear hcell hx hnx hO
      go_upto_region 5 with fail
      generalize wr.alloc (.cells #[.string s, .int .i64 (y : Int)] 26) = w2 at *
      generalize wr.heap.size = gx at *
      clear g0 g1 hb0 hB
      obtain ⟨c0, c1⟩ := hbx.pair
      have hsw : IntKind.u8.wrap (s.size : Int) = (s.size : Int) := by rw [IntKind.wrap_u8]; omega
      have hsy : IntKind.u8.wrap (y : Int) = (y : Int) := by rw [IntKind.wrap_u8]; omega
      have hsm : (s.size : Int) % 256 = (s.size : Int) := by omega
      have hsn : (y : Int) % 256 = (y : Int) := by omega
      obtain ⟨hO2, hO256⟩ := hO1
      have HB6 := Lib.hid hO256
      clear hO256
      obtain ⟨bl, hbl⟩ : ∃ bl, B.length = bl := ⟨_, rfl⟩
      rw [hbl] at hO2 hbk
      have HBl := Lib.hid hbl
      obtain ⟨bm, hbm⟩ : ∃ bm, B.map bv = bm := ⟨_, rfl⟩
      rw [hbm] at hO2
      have HBm := Lib.hid hbm
      clear hbl hbm
      go_wp2_with (at_builtin; refine wpList_append_sl rfl _ _ 22 rfl w.heap.size 5 i0 (.int .u8 0) 1 1 Try.underlying22 hi hz0 hz1 hz2 rfl (by decide) _ _ _ rfl (hO2.alloc _) _ 1 1 _ rfl (Sl.new w2 _ 5 _ 1 1 _ rfl rfl) ?q1 ?q2 ?q3 ?q4 ?_)
      case q1 => rfl
      case q2 => unfold maxLen; omega
      case q3 => omega
      case q4 => have := hb1.size; simp; omega
      intro v3 w3 hown hgrow
      have hb3 : Below w.heap.size w w3 := (hb1.alloc hb1.size _).grown hgrow (by have := hb1.size; simp; omega) (fun k hk => own_ge hO2 hk)
      have hbx3 := (hbx.alloc (.cells #[.int .u8 (s.size : Int)] 5)).grown hgrow (own_ne hO2 hbx (by decide))
      have hown3 : Ow w3 w.heap.size v3 (B ++ [s.size]) := by
        rw [← HBm.out] at hown
        exact Ow.more hown HBl.out rfl rfl HB6.out (by simp; omega)
      clear hown hgrow hO2 hbx c0 c1 hb1
      obtain ⟨d0, d1⟩ := hbx3.pair
      obtain ⟨hP2, hP256⟩ := hown3
      have HP6 := Lib.hid hP256
      obtain ⟨pl, hpl⟩ : ∃ pl, (B ++ [s.size]).length = pl := ⟨_, rfl⟩
      have hpl' : pl = bl + 1 := by rw [← hpl, List.length_append, HBl.out]; rfl
      rw [hpl] at hP2
      have HPl := Lib.hid hpl
      obtain ⟨pm, hpm⟩ : ∃ pm, (B ++ [s.size]).map bv = pm := ⟨_, rfl⟩
      rw [hpm] at hP2
      have HPm := Lib.hid hpm
      have hz3 := hb3.size
      clear hpl hpm hP256
      go_wp2_with (at_builtin; refine Lib.wpList_append_own_string _ rfl _ _ 22 9 rfl w.heap.size 5 i0 Try.underlying22 Try.underlying9 hi hz0 hz1 hz2 _ _ _ rfl hP2 s rfl ?q1 ?q2 ?q3 ?_)
      case q1 => unfold maxLen; omega
      case q2 => omega
      case q3 => exact hz3
      intro v4 w4 hown hgrow _
      have hb4 : Below w.heap.size w w4 := hb3.grown hgrow hz3 (fun k hk => own_ge hP2 hk)
      have hbx4 := hbx3.grown hgrow (own_ne hP2 hbx3 (by decide))
      have hown4 : Ow w4 w.heap.size v4 ((B ++ [s.size]) ++ nums s) := by
        rw [← HPm.out] at hown
        exact Ow.more hown (HPl.out.trans hpl') (nums_length s) (nums_cells s) HP6.out (nums_lt s)
      clear hown hgrow hP2 hbx3 d0 d1 hb3
      obtain ⟨e0, e1⟩ := hbx4.pair
      obtain ⟨hR2, hR256⟩ := hown4
      have HR6 := Lib.hid hR256
      obtain ⟨rl, hrl⟩ : ∃ rl, ((B ++ [s.size]) ++ nums s).length = rl := ⟨_, rfl⟩
      have hrl' : rl = bl + 1 + s.size := by rw [← hrl, List.length_append, HPl.out, nums_length, hpl']
      rw [hrl] at hR2
      have HRl := Lib.hid hrl
      obtain ⟨rm, hrm⟩ : ∃ rm, ((B ++ [s.size]) ++ nums s).map bv = rm := ⟨_, rfl⟩
      rw [hrm] at hR2
      have HRm := Lib.hid hrm
      have hz4 := hb4.size
      clear hrl hrm hR256 hpl'
      go_wp2_with (at_builtin; refine wpList_append_sl rfl _ _ 22 rfl w.heap.size 5 i0 (.int .u8 0) 1 1 Try.underlying22 hi hz0 hz1 hz2 rfl (by decide) _ _ _ rfl (hR2.alloc _) _ 1 1 _ rfl (Sl.new w4 _ 5 _ 1 1 _ rfl rfl) ?q1 ?q2 ?q3 ?q4 ?_)
      case q1 => rfl
      case q2 => unfold maxLen; omega
      case q3 => omega
      case q4 => simp; omega
      intro v5 w5 hown hgrow
      have hb5 : Below w.heap.size w w5 := (hb4.alloc hb4.size _).grown hgrow (by simp; omega) (fun k hk => own_ge hR2 hk)
      have hown5 : Ow w5 w.heap.size v5 (PD.bytes (l.take (k + 1))) := by
        rw [← HRm.out] at hown
        rw [HN.out]
        exact Ow.more hown (HRl.out.trans hrl') rfl rfl HR6.out (by simp; omega)
      have HW := Lib.hid hown5
      clear hown hown5 hgrow hR2 hbx4 e0 e1 hb4 hrl'
      go_wp2
      go_roundw
      case rel => exact ⟨k + 1, by omega, by go_num, HW.out, hb5⟩
      case measure => simp [intOf]; omega
    · have hkn : k = L := by omega
      subst hkn
      have hbk := HBL.out k
      rw [List.take_of_length_le (by rw [HL.out]; exact Nat.le_refl _)] at hO hbk
      have hst := (hO.text (by omega)).string
      rw [HF.out] at hst
      clear HF HS HL hO hbk
      go_wp2
      go_ret
      exact ⟨rfl, hB⟩
end Go.Proofs.Ytckkljiaicmljaa
