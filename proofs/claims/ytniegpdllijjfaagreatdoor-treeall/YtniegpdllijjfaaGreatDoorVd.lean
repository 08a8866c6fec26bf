/-
  Contract: tree's up.
-/
import Derived.Test.YtniegpdllijjfaaGreatDoorMVa
namespace Go.Proofs.YtniegpdllijjfaaGreatDoor
open Go.RowKit Go.Joins

/-- The ways up from z by l, each with the names below behind it. -/
def ups (l : List Lk) : Nat → Int → List ByteArray → List ByteArray
  | 0, _, _ => []
  | d + 1, z, below => if z = 1 then [PN.path below] else (l.filter fun x => decide (x.1.2 = z)).flatMap fun x => ups l d x.2.2 (x.1.1 :: below)
/-- No way up from z has d links or more. -/
def Deep (l : List Lk) : Nat → Int → Prop
  | 0, _ => False
  | d + 1, z => z = 1 ∨ ∀ x ∈ l, x.1.2 = z → Deep l d x.2.2
/-- The part of the ways that the first k links give. -/
def upk (l : List Lk) (d : Nat) (z : Int) (below : List ByteArray) (k : Nat) : List ByteArray := ((l.take k).filter fun x => decide (x.1.2 = z)).flatMap fun x => ups l d x.2.2 (x.1.1 :: below)
theorem upk_yes {l : List Lk} {d : Nat} {z : Int} {below : List ByteArray} {k : Nat} {x : Lk} (h : l[k]? = some x) (hz : x.1.2 = z) : upk l d z below (k + 1) = upk l d z below k ++ ups l d x.2.2 (x.1.1 :: below) := by
  unfold upk
  rw [List.take_add_one, h]
  simp [hz]
theorem upk_no {l : List Lk} {d : Nat} {z : Int} {below : List ByteArray} {k : Nat} {x : Lk} (h : l[k]? = some x) (hz : x.1.2 ≠ z) : upk l d z below (k + 1) = upk l d z below k := by
  unfold upk
  rw [List.take_add_one, h]
  simp [hz]
theorem upk_all {l : List Lk} {d : Nat} {z : Int} {below : List ByteArray} (hz : z ≠ 1) : upk l d z below l.length = ups l (d + 1) z below := by
  unfold upk
  rw [List.take_of_length_le (Nat.le_refl _), ups, if_neg hz]
theorem upk_le {l : List Lk} {d : Nat} {z : Int} {below : List ByteArray} (hz : z ≠ 1) (k : Nat) : (upk l d z below k).length ≤ (ups l (d + 1) z below).length := by
  rw [← upk_all hz]
  unfold upk
  rw [List.take_of_length_le (Nat.le_refl l.length)]
  have e : (l.filter fun x => decide (x.1.2 = z)) = ((l.take k).filter fun x => decide (x.1.2 = z)) ++ ((l.drop k).filter fun x => decide (x.1.2 = z)) := by rw [← List.filter_append, List.take_append_drop]
  rw [e, List.flatMap_append, List.length_append]
  omega
theorem own_one (w : World) (base g : Nat) (s : ByteArray) (hg : base ≤ g) (hh : Bx w g 9 #[.string s]) : w.ownsRow base 9 1 (.slice (some ⟨g, 0, none⟩) 1 1) 1 [.string s] :=
  ⟨by simp, .inr ⟨g, 1, #[.string s], rfl, hg, hh, Nat.le_refl _, by decide, by simp, by simp⟩⟩
set_option maxRecDepth 100000 in
set_option maxHeartbeats 8000000 in
theorem up_any (l : List Lk) (hl : l.length ≤ 1000000) (hn : ∀ x ∈ l, x.1.1.size ≤ 1000) : ∀ (d : Nat) (z : Int) (below : List ByteArray) (v u : Value) (w : World), Deep l d z → (ups l d z below).length ≤ 1000000 → Ks w v l → Ss w u below → (∀ A n c, u = .slice A n c → n ≤ c) → below.length + d ≤ 100 → (∀ s ∈ below, s.size ≤ 1000) → Calls Tryz.prog 46 #[v, .int .i64 z, u] w fun e w' => ∃ v', e = .returned v' ∧ Ro w' w.heap.size v' (ups l d z below) ∧ Below w.heap.size w w'
  | 0, _, _, _, _, _, hD, _, _, _, _, _, _ => hD.elim
  | d + 1, z, below, v, u, w, hD, hlen, hs, hb, hcp, hbd, hbs => by
    obtain ⟨i0, hi, hz0, hz1, hz2⟩ := info_parts Tryz.info9
    by_cases hz : z = 1
    · subst hz
      have hp := path_any u below w hb hcp
      rw [ups, if_pos rfl]
      clear hD hlen hs hb hcp
      go_enter Tryz.func46, Tryz.ntmps46
      go_wp2_with (go_at_call 67; refine hp.mono ?_; rintro e w1 ⟨rfl, hB1⟩)
      go_ret
      exact ⟨_, rfl, own_one _ _ _ _ hB1.size (Bx.new w1 9 _), hB1.alloc hB1.size _⟩
    · have ih := up_any l hl hn d
      have hz' : (z == 1) = false := by simpa using hz
      have hD' : ∀ x ∈ l, x.1.2 = z → Deep l d x.2.2 := hD.resolve_left hz
      have hle := upk_le (l := l) (d := d) (below := below) hz
      have hall := upk_all (l := l) (d := d) (below := below) hz
      rw [← hall] at hlen ⊢
      obtain ⟨A, c, rfl⟩ := hs.form
      obtain ⟨L, hL⟩ : ∃ L, l.length = L := ⟨_, rfl⟩
      have HS := Lib.hid hs
      rw [hL] at HS hl ⊢
      have HL := Lib.hid hL
      clear hs hL
      obtain ⟨U, e, rfl⟩ := hb.form
      have hbl := hb.2.2
      obtain ⟨M, hM⟩ : ∃ M, below.length = M := ⟨_, rfl⟩
      rw [hM] at hb hbl hbd hcp ⊢
      have HM := Lib.hid hM
      have HBB := Lib.hid hb
      clear hM hb
      go_enter Tryz.func46, Tryz.ntmps46
      go_wp2
      go_loopw [7, 18] (fun o i wr => ∃ k : Nat, k ≤ L ∧ i = .int .i64 (k : Int) ∧ Ro wr w.heap.size o (upk l d z below k) ∧ Below w.heap.size w wr) (fun _ i _ => L - (intOf i).toNat)
      case atStart => exact ⟨0, Nat.zero_le _, rfl, World.ownsRow_nil _ _ _ _, Below.refl _ _⟩
      case round =>
        obtain ⟨k, hk, rfl, hO, hB⟩ := hrel
        by_cases hlt : k < L
        · have hKS := fun W (hb : Below w.heap.size w W) => HS.out.below hb
          obtain ⟨b0, o0, rfl, hb0, hcell⟩ := (HL.out ▸ HS.out.below hB : Ks wr (.slice A l.length c) l).at (by rw [HL.out]; omega)
          obtain ⟨x, hx⟩ : ∃ x, l[k]? = some x := ⟨_, List.getElem?_eq_getElem (by rw [HL.out]; omega)⟩
          obtain ⟨g0, g1, g2, g3, g4, g5⟩ := hcell k x hx
          have hxm := List.mem_of_getElem? hx
          have hyes := upk_yes (d := d) (z := z) (below := below) hx
          have hno := upk_no (d := d) (z := z) (below := below) hx
          have hle1 := hle (k + 1)
          have hle0 := hle k
          rw [← hall] at hle1 hle0
          have hDx := hD' x hxm
          have hnx := hn x hxm
          obtain ⟨⟨s, y⟩, ⟨kd, md, b⟩, p⟩ := x
          dsimp only at g0 g1 g2 g3 g4 g5 hyes hno hDx hnx
          have hd : decide ((k : Int) < (L : Int)) = true := by simp; omega
          have hbn := hB.alloc hB.size (.cells #[.string s, .int .i64 y, .int .i64 kd, .int .i64 md, .string b, .int .i64 p] 96)
          have hbx := Bx.new wr 96 #[.string s, .int .i64 y, .int .i64 kd, .int .i64 md, .string b, .int .i64 p]
          have hO1 := hO.on (al wr (.cells #[.string s, .int .i64 y, .int .i64 kd, .int .i64 md, .string b, .int .i64 p] 96))
          generalize upk l d z below k = up0 at *
          have HO := Lib.hid hO1
          clear hcell hx hO hO1
          go_upto_region 7 with fail
          generalize wr.alloc (.cells #[.string s, .int .i64 y, .int .i64 kd, .int .i64 md, .string b, .int .i64 p] 96) = w1 at *
          generalize hgx : wr.heap.size = gx at *
          obtain ⟨c0, c1, c2, c3, c4, c5⟩ := hbx.six
          have hz1w := hbn.size
          clear g0 g1 g2 g3 g4 g5
          by_cases hy : y = z
          · subst hy
            have hyes := hyes rfl
            have hDx := hDx rfl
            clear hno
            have hbS0 := (HBB.out.below hbn).1
            have hbS : Sl w1 1 (.slice U M e) M (below.map Value.string) := by rw [HM.out] at hbS0; exact hbS0
            clear hbS0
            have hq := fun v2 W (h1 : Below w.heap.size w W) (h2 : Ss W v2 (s :: below)) h3 => ih p (s :: below) _ v2 W hDx (by rw [hyes, List.length_append] at hle1; omega) (HS.out.below h1) h2 h3 (by rw [List.length_cons, HM.out]; omega) (fun r hr => by rcases List.mem_cons.1 hr with rfl | hr; exact hnx; exact hbs r hr)
            have HQ := Lib.hid hq
            have HY := Lib.hid hyes
            have hsm : ∀ r ∈ s :: below, r.size ≤ 1048576 := fun r hr => by
              rcases List.mem_cons.1 hr with rfl | hr
              · omega
              · have := hbs r hr
                omega
            have HSM := Lib.hid hsm
            have hlu : up0.length ≤ 1000000 := Nat.le_trans hle0 hlen
            have hlq : (ups l d p (s :: below)).length ≤ 1000000 := by rw [hyes, List.length_append] at hle1; omega
            have HB := Lib.hid (And.intro hbS hcp)
            clear hq hyes hsm ih hle hle1 hle0 hall hD hD' hDx hlen hKS hcp hbS hxm
            obtain ⟨Ao, co, rfl⟩ := own_form HO.out
            go_wp2_with (at_builtin; refine wpList_append_sl rfl _ _ 34 rfl w1.heap.size 9 i0 (.string { data := #[] }) 1 16 Tryz.underlying34 hi hz0 hz1 hz2 rfl (by decide) _ 1 [.string s] rfl (own_one _ _ _ _ (Nat.le_refl _) (Bx.new w1 9 _)) U M e (below.map Value.string) rfl (HB.out.1.below (al _ _)) ?q1 ?q2 ?q3 ?q4 ?_)
            case q1 => intro r _; rfl
            case q2 => unfold maxLen; omega
            case q3 => omega
            intro v2 w2 hown hgrow
            have hB12 : Below w1.heap.size w1 w2 := (al w1 (.cells #[.string s] 9)).grown hgrow (by simp) (fun q hq => by simp [Value.ownBlock] at hq; omega)
            have hb2 := hbn.trans (hB12.mono hz1w)
            have hx2 := hbx.on hB12
            clear c0 c1 c2 c3 c4 c5
            obtain ⟨c0, c1, c2, c3, c4, c5⟩ := hx2.six
            have hR2 : Ro w2 w1.heap.size v2 (s :: below) := by
              unfold Ro
              rw [List.length_cons, HM.out, List.map_cons, Nat.add_comm]
              exact hown
            have hcap2 : ∀ A n c, v2 = .slice A n c → n ≤ c := by
              obtain ⟨A2, e2, rfl, hle2⟩ := own_cap hown
              intro A n c h
              cases h
              exact hle2
            have hq2 := HQ.out v2 w2 hb2 (hR2.row HSM.out (by rw [List.length_cons, HM.out]; omega)) hcap2
            have hO2 := HO.out.on hB12
            generalize ups l d p (s :: below) = up1 at *
            clear hown hgrow hR2 hcap2 hx2 hbx
            go_wp2_with fail
            refine hq2.mono ?_
            rintro e w3 ⟨v3, rfl, hO3, hB3⟩
            obtain ⟨A3, e3, rfl⟩ := own_form hO3
            have hO4 := hO2.on hB3
            have hb3 := hb2.trans (hB3.mono hb2.size)
            have hz3 := hb3.size
            have hRow := Sl.own hO3
            unfold Ro at hO4
            obtain ⟨n0, hn0⟩ : ∃ n0, up0.length = n0 := ⟨_, rfl⟩
            obtain ⟨n1, hn1⟩ : ∃ n1, up1.length = n1 := ⟨_, rfl⟩
            rw [hn0] at hO4 hlu ⊢
            rw [hn1] at hRow hlq ⊢
            have HN0 := Lib.hid (And.intro hn0 hn1)
            have hcut : ∀ k, (Value.slice Ao n0 co).ownBlock = some k → w.heap.size ≤ k := fun k hk => own_ge hO4 hk
            clear hn0 hn1 hq2 hO3 hO2 HQ hyes hDx
            go_wp2_with (at_builtin; refine wpList_append_sl rfl _ _ 34 rfl w.heap.size 9 i0 (.string { data := #[] }) 1 16 Tryz.underlying34 hi hz0 hz1 hz2 rfl (by decide) _ n0 (up0.map Value.string) rfl hO4 A3 n1 e3 (up1.map Value.string) rfl hRow ?r1 ?r2 ?r3 ?r4 ?_)
            case r1 => first | (intro r _; rfl) | (intro r hr; obtain ⟨q, _, rfl⟩ := List.mem_map.1 hr; rfl)
            case r2 => unfold maxLen; omega
            case r3 => omega
            case r4 => omega
            intro v4 w4 hown4 hgrow4
            have hb4 : Below w.heap.size w w4 := hb3.grown hgrow4 hz3 hcut
            have hR4 : Ro w4 w.heap.size v4 (upk l d y below (k + 1)) := by
              rw [HY.out]
              unfold Ro
              rw [List.length_append, HN0.out.1, HN0.out.2, List.map_append]
              exact hown4
            have HR4 := Lib.hid hR4
            clear hown4 hgrow4 hR4 hO4 hRow
            go_wp2
            go_roundw
            case rel => exact ⟨k + 1, by omega, by go_num, HR4.out, hb4⟩
            case measure => simp [intOf]; omega
          · have hno := hno hy
            have HN := Lib.hid hno
            have hy' : (y == z) = false := by simpa using hy
            clear hyes hDx hno hy
            go_wp2
            go_roundw
            case rel => exact ⟨k + 1, by omega, by go_num, by rw [HN.out]; exact HO.out, hbn⟩
            case measure => simp [intOf]; omega
        · have hkL : k = L := by omega
          rw [hkL] at hO
          have HO := Lib.hid hO
          have hd : decide ((k : Int) < (L : Int)) = false := by simp; omega
          clear hO hkL
          go_wp2
          go_ret
          exact ⟨_, rfl, HO.out, hB⟩
end Go.Proofs.YtniegpdllijjfaaGreatDoor
