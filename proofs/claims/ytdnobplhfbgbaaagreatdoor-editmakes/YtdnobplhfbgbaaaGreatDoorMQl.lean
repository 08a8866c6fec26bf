/-
  Contract: the document's With.
  Contracts: the document's Own, Less.
-/
import Derived.Test.YtdnobplhfbgbaaaGreatDoorMQf
import Derived.Test.YtdnobplhfbgbaaaGreatDoorMNn
namespace Go.Proofs.YtdnobplhfbgbaaaGreatDoor
open Go.RowKit Go.Joins

namespace PD
theorem gat_le (l : List E) (n : ByteArray) : gat l n ≤ l.length := (List.takeWhile_sublist _).length_le
theorem gat_lt : ∀ {l : List E} {n : ByteArray} {k : Nat} {x : E}, k < gat l n → l[k]? = some x → lt n x.1 = false
  | [], _, _, _, _, h => by simp at h
  | y :: r, n, k, x, h, hk => by
    cases hy : lt n y.1 with
    | true => simp [gat, hy] at h
    | false =>
      have hg : gat (y :: r) n = gat r n + 1 := by simp [gat, hy]
      cases k with
      | zero => simp at hk; subst hk; exact hy
      | succ k => exact gat_lt (l := r) (k := k) (by omega) (by simpa using hk)
theorem gat_at : ∀ {l : List E} {n : ByteArray} {x : E}, l[gat l n]? = some x → lt n x.1 = true
  | [], _, _, h => by simp at h
  | y :: r, n, x, h => by
    cases hy : lt n y.1 with
    | true =>
      have hg : gat (y :: r) n = 0 := by simp [gat, hy]
      rw [hg] at h
      simp at h
      subst h
      exact hy
    | false =>
      have hg : gat (y :: r) n = gat r n + 1 := by simp [gat, hy]
      rw [hg, List.getElem?_cons_succ] at h
      exact gat_at h
/-- What is laid when k are looked at: g of them stand ahead of e. -/
def part (l : List E) (g : Nat) (e : E) (k : Nat) : List E := l.take g ++ e :: (l.drop g).take (k - g)
theorem part_snoc {l : List E} {g k : Nat} {e x : E} (h : g ≤ k) (hk : l[k]? = some x) : part l g e (k + 1) = part l g e k ++ [x] := by
  have : (l.drop g)[k - g]? = some x := by rw [List.getElem?_drop, show g + (k - g) = k by omega]; exact hk
  rw [part, part, show k + 1 - g = (k - g) + 1 by omega, List.take_add_one, this]
  simp
theorem part_here (l : List E) (g : Nat) (e : E) : part l g e g = l.take g ++ [e] := by simp [part]
theorem part_end (l : List E) (g : Nat) (e : E) : part l g e l.length = l.take g ++ e :: l.drop g := by
  have h : (l.drop g).take (l.length - g) = l.drop g := List.take_of_length_le (by simp)
  rw [part, h]
theorem part_length {l : List E} {g k : Nat} {e : E} : (part l g e k).length ≤ l.length + 1 := by
  simp only [part, List.length_append, List.length_take, List.length_cons, List.length_drop]; omega
end PD

set_option maxRecDepth 100000 in
set_option maxHeartbeats 8000000 in
theorem rwith_any (v : Value) (l : List E) (s : ByteArray) (z : Int) (w : World) (h : Es w v l) (hl5 : l.length ≤ 65535) : Calls Tryz.prog 122 #[v, .agg #[.string s, .int .i64 z]] w fun e w' => ∃ v', e = .returned (.tuple #[v', .bool (!PD.has l s)]) ∧ (PD.has l s = true → v' = v) ∧ (PD.has l s = false → Eo w' w.heap.size v' (PD.rwth l (s, z))) ∧ Below w.heap.size w w' := by
  obtain ⟨A, c, rfl⟩ := h.form
  have hwl : PD.rwth l (s, z) = if PD.has l s = true then l else l.take (PD.gat l s) ++ (s, z) :: l.drop (PD.gat l s) := rfl
  generalize hL : l.length = L at *
  have hb1 := al w (.cells #[.string s, .int .i64 z] 75)
  have hbx1 := Bx.new w 75 #[.string s, .int .i64 z]
  have hb1' := hb1
  obtain ⟨hv, hhv⟩ : ∃ b, PD.has l s = b := ⟨_, rfl⟩
  obtain ⟨R, hR⟩ : ∃ R, PD.rwth l (s, z) = R := ⟨_, rfl⟩
  rw [hhv, hR] at hwl
  rw [hhv, hR]
  have HW := Lib.hid hwl
  have HL := Lib.hid hL
  have HH := Lib.hid hhv
  clear hwl hL hR hhv
  go_enter Tryz.func122, Tryz.ntmps122
  go_upto_region 1 with fail
  generalize hw2 : w.alloc (.cells #[.string s, .int .i64 z] 75) = w2 at *
  clear hw2
  generalize hgx : w.heap.size = gx at hbx1
  clear hgx
  have hb1 : Below w.heap.size w w2 := hb1'
  have hc := rfind_any (.slice A L c) l s w2 (h.below hb1')
  obtain ⟨c0, c1⟩ := hbx1.pair
  rw [HH.out] at hc
  cases hv with
  | true =>
    clear h HW HL HH hbx1 hb1'
    go_wp2_with (go_at_call 74; refine hc.mono ?_; rintro e w1 ⟨rfl, hw1⟩; rw [hw1]; clear hw1)
    go_ret2
    exact ⟨_, rfl, rfl, hb1⟩
  | false =>
    have hwl := HW.out
    rw [if_neg (by decide)] at hwl
    have hgl := PD.gat_le l s
    have hglt := fun k x => @PD.gat_lt l s k x
    have hgat := fun x => @PD.gat_at l s x
    have hpend := PD.part_end l (PD.gat l s) (s, z)
    rw [HL.out] at hgl hpend
    generalize PD.gat l s = g at *
    have H := Lib.hid (h.below hb1')
    have HG := Lib.hid hglt
    have HA := Lib.hid hgat
    have HP := Lib.hid hpend
    have HR := Lib.hid hwl
    clear h HW HH hb1' hwl hglt hgat hpend
    go_wp2_with (go_at_call 74; refine hc.mono ?_; rintro e w1 ⟨rfl, hw1⟩; rw [hw1]; clear hw1)
    clear hc c0 c1
    go_loopw [8, 9, 10] (fun o p i wr => ∃ (k : Nat) (b : Bool), k ≤ L ∧ i = .int .i64 (k : Int) ∧ p = .bool b ∧ Below w2.heap.size w2 wr ∧ (b = false → k ≤ g ∧ Eo wr w2.heap.size o (l.take k)) ∧ (b = true → g < k ∧ Eo wr w2.heap.size o (PD.part l g (s, z) k))) (fun _ _ i _ => L - (intOf i).toNat)
    case atStart => exact ⟨0, false, Nat.zero_le _, rfl, rfl, Below.refl _ _, fun _ => ⟨Nat.zero_le _, World.ownsRow_nil _ _ _ _⟩, fun e => (by cases e)⟩
    case round =>
      obtain ⟨k, b, hk, rfl, rfl, hB, hF, hT⟩ := hrel
      by_cases hlt : k < L
      · obtain ⟨x, hx⟩ : ∃ x, l[k]? = some x := ⟨_, List.getElem?_eq_getElem (by rw [HL.out]; omega)⟩
        have hce : ∃ b0 o0, A = some ⟨b0, o0, none⟩ ∧ ∀ W, Below w2.heap.size w2 W → W.cell? ⟨b0, o0 + k * 2, none⟩ = some (.string x.1) ∧ W.cell? ⟨b0, o0 + k * 2 + 1, none⟩ = some (.int .i64 x.2) := by
          obtain ⟨b0, o0, e0, hb0, hcell⟩ := H.out.at (by rw [HL.out]; omega)
          exact ⟨b0, o0, e0, fun W hW => ⟨(hW.cell hb0).trans (hcell k x hx).1, (hW.cell hb0).trans (hcell k x hx).2⟩⟩
        obtain ⟨b0, o0, rfl, hcell⟩ := hce
        have hbox := fun W (hW : Below w2.heap.size w2 W) => (hbx1.on hW).pair
        have hg1 := HG.out k x
        have hg2 := HA.out x
        have hsn := fun (hgk : g ≤ k) => PD.part_snoc (e := (s, z)) hgk hx
        have htk : l.take (k + 1) = l.take k ++ [x] := by rw [List.take_add_one, hx]; rfl
        have hlen1 : (l.take k).length ≤ 65536 := by rw [List.length_take]; have := HL.out; omega
        have hlen2 : (PD.part l g (s, z) k).length ≤ 65536 := by have := @PD.part_length l g k (s, z); have := HL.out; omega
        have hhere := PD.part_here l g (s, z)
        have hx' := hx
        obtain ⟨q, y⟩ := x
        dsimp only at hcell hg1 hg2
        obtain ⟨d0, d1⟩ := hcell wr hB
        obtain ⟨e0, e1⟩ := hbox wr hB
        cases b with
        | true =>
          obtain ⟨hgk, hO⟩ := hT rfl
          have HO := Lib.hid hO
          have HS := Lib.hid (hsn (by omega))
          clear hF hT hg1 hg2 hsn htk hlen1 hhere hx hx' hO
          go_wp2_with fail
          go_quiet (fail)
          have hO3 := HO.out.on (drewN_below (Below.refl _ _) nq)
          have hB3 := drewN_below hB nq
          clear d0 d1 e0 e1 HO hB
          generalize wr.drewN nq = w3 at *
          obtain ⟨d0, d1⟩ := hcell w3 hB3
          have HO3 := Lib.hid hO3
          clear hO3
          go_wp2_with (at_builtin; refine append_e (w0 := w2) rfl _ _ rfl _ _ rfl (HO3.out.on (al _ _)) (hB3.alloc hB3.size _) hlen2 (q, y) _ 1 rfl (Sl.new2 _ _ 75 _ 1 1 _ rfl rfl) ?_)
          intro v5 w5 hO5 hB5
          rw [← HS.out] at hO5
          have HO5 := Lib.hid hO5
          clear HO3 hO5 hB3 d0 d1 hcell hbox
          go_wp2
          go_roundw
          case rel => exact ⟨k + 1, true, by omega, by go_num, rfl, hB5, fun e => (by cases e), fun _ => ⟨by omega, HO5.out⟩⟩
          case measure => simp [intOf]; omega
        | false =>
          obtain ⟨hgk, hO⟩ := hF rfl
          have HO := Lib.hid hO
          by_cases hkg : k < g
          · have hlt2 := hg1 hkg hx'
            cases h3 : PD.lt q s with
            | true =>
              rw [PD.lt] at h3
              clear hlt2
              have HS := Lib.hid htk
              clear hF hT hg1 hg2 hsn htk hhere hx hx' hO hlen2
              go_wp2_with fail
              go_quiet (fail)
              have hO3 := HO.out.on (drewN_below (Below.refl _ _) nq)
              have hB3 := drewN_below hB nq
              clear d0 d1 e0 e1 HO hB
              generalize wr.drewN nq = w3 at *
              obtain ⟨d0, d1⟩ := hcell w3 hB3
              have HO3 := Lib.hid hO3
              clear hO3
              go_wp2_with (at_builtin; refine append_e (w0 := w2) rfl _ _ rfl _ _ rfl (HO3.out.on (al _ _)) (hB3.alloc hB3.size _) hlen1 (q, y) _ 1 rfl (Sl.new2 _ _ 75 _ 1 1 _ rfl rfl) ?_)
              intro v5 w5 hO5 hB5
              rw [← HS.out] at hO5
              have HO5 := Lib.hid hO5
              clear HO3 hO5 hB3 d0 d1 hcell hbox
              go_wp2
              go_roundw
              case rel => exact ⟨k + 1, false, by omega, by go_num, rfl, hB5, fun _ => ⟨by omega, HO5.out⟩, fun e => (by cases e)⟩
              case measure => simp [intOf]; omega
            | false =>
              have hqs : q = s := by
                rcases Classical.em (q = s) with e | e
                · exact e
                · rw [PD.lt_total h3 e] at hlt2; cases hlt2
              rw [PD.lt] at h3
              have h4 : (q.toList == s.toList) = true := by rw [hqs]; exact seq_yes s
              clear hlt2 hqs
              have HS := Lib.hid htk
              clear hF hT hg1 hg2 hsn htk hhere hx hx' hO hlen2
              go_wp2_with fail
              go_quiet (fail)
              have hO3 := HO.out.on (drewN_below (Below.refl _ _) nq)
              have hB3 := drewN_below hB nq
              clear d0 d1 e0 e1 HO hB
              generalize wr.drewN nq = w3 at *
              obtain ⟨d0, d1⟩ := hcell w3 hB3
              have HO3 := Lib.hid hO3
              clear hO3
              go_wp2_with (at_builtin; refine append_e (w0 := w2) rfl _ _ rfl _ _ rfl (HO3.out.on (al _ _)) (hB3.alloc hB3.size _) hlen1 (q, y) _ 1 rfl (Sl.new2 _ _ 75 _ 1 1 _ rfl rfl) ?_)
              intro v5 w5 hO5 hB5
              rw [← HS.out] at hO5
              have HO5 := Lib.hid hO5
              clear HO3 hO5 hB3 d0 d1 hcell hbox
              go_wp2
              go_roundw
              case rel => exact ⟨k + 1, false, by omega, by go_num, rfl, hB5, fun _ => ⟨by omega, HO5.out⟩, fun e => (by cases e)⟩
              case measure => simp [intOf]; omega
          · have hkg' : g = k := by omega
            subst hkg'
            have hlt2 := hg2 hx'
            have h3 := PD.lt_asymm hlt2
            have h4 : (q.toList == s.toList) = false := seq_no fun e => by rw [e, PD.lt_irrefl] at hlt2; cases hlt2
            rw [PD.lt] at h3
            clear hlt2
            have HS := Lib.hid (hsn (Nat.le_refl _))
            have HH := Lib.hid hhere
            clear hF hT hg1 hg2 hsn htk hhere hx hx' hO
            go_wp2_with fail
            go_quiet (fail)
            have hO3 := HO.out.on (drewN_below (Below.refl _ _) nq)
            have hB3 := drewN_below hB nq
            clear d0 d1 e0 e1 HO hB
            generalize wr.drewN nq = w3 at *
            obtain ⟨e0, e1⟩ := hbox w3 hB3
            have HO3 := Lib.hid hO3
            clear hO3
            go_wp2_with (at_builtin; refine append_e (w0 := w2) rfl _ _ rfl _ _ rfl (HO3.out.on (al _ _)) (hB3.alloc hB3.size _) hlen1 (s, z) _ 1 rfl (Sl.new2 _ _ 75 _ 1 1 _ rfl rfl) ?_)
            intro v4 w4 hO4 hB4
            rw [← HH.out] at hO4
            have HO4 := Lib.hid hO4
            clear HO3 hO4 hB3 e0 e1
            obtain ⟨d0, d1⟩ := hcell w4 hB4
            go_wp2_with (at_builtin; refine append_e (w0 := w2) rfl _ _ rfl _ _ rfl (HO4.out.on (al _ _)) (hB4.alloc hB4.size _) hlen2 (q, y) _ 1 rfl (Sl.new2 _ _ 75 _ 1 1 _ rfl rfl) ?_)
            intro v5 w5 hO5 hB5
            rw [← HS.out] at hO5
            have HO5 := Lib.hid hO5
            clear HO4 hO5 hB4 d0 d1 hcell hbox
            go_wp2
            go_roundw
            case rel => exact ⟨g + 1, true, by omega, by go_num, rfl, hB5, fun e => (by cases e), fun _ => ⟨by omega, HO5.out⟩⟩
            case measure => simp [intOf]; omega
      · have hkn : k = L := by omega
        subst hkn
        have hbk := hb1.trans (hB.mono hb1.size)
        cases b with
        | true =>
          obtain ⟨hgk, hO⟩ := hT rfl
          rw [HP.out, ← HR.out] at hO
          have HO := Lib.hid (hO.base hb1.size)
          clear hF hT hO HG HA HP HL H HR
          go_wp2
          go_ret2
          exact ⟨_, rfl, HO.out, hbk⟩
        | false =>
          obtain ⟨hgk, hO⟩ := hF rfl
          have hgL : g = k := by omega
          subst hgL
          have hlen1 : (l.take g).length ≤ 65536 := by rw [List.length_take]; have := HL.out; omega
          have hdr : (s, z) :: l.drop g = [(s, z)] := by rw [List.drop_of_length_le (by rw [HL.out]; exact Nat.le_refl _)]
          obtain ⟨e0, e1⟩ := (hbx1.on hB).pair
          have HO := Lib.hid hO
          rw [hdr] at HR
          clear hF hT hO HG HA HP HL H hdr
          go_wp2_with (at_builtin; refine append_e (w0 := w2) rfl _ _ rfl _ _ rfl (HO.out.on (al _ _)) (hB.alloc hB.size _) hlen1 (s, z) _ 1 rfl (Sl.new2 _ _ 75 _ 1 1 _ rfl rfl) ?_)
          intro v5 w5 hO5 hB5
          rw [← HR.out] at hO5
          have HO5 := Lib.hid (hO5.base hb1.size)
          have hb5 := hb1.trans (hB5.mono hb1.size)
          clear HO hO5 e0 e1
          go_wp2
          go_ret2
          exact ⟨_, rfl, HO5.out, hb5⟩
end Go.Proofs.YtdnobplhfbgbaaaGreatDoor
namespace Go.Proofs.YtdnobplhfbgbaaaGreatDoor
open Go.RowKit Go.Joins
set_option maxHeartbeats 4000000 in
theorem rown_big (s : ByteArray) (w : World) (hsz : s.size ≤ 1048576) : Calls Tryz.prog 120 #[.string s] w fun e w' => e = .returned (.bool (PN.own s.data.toList)) ∧ w' = w := by
  have hf : PN.own s.data.toList = (decide (1 ≤ s.size) && (decide (s.size ≤ 6) && s.data.toList.all PN.fit)) := by rw [Lib.size_eq]; rfl
  obtain ⟨f, hfe⟩ : ∃ f, PN.own s.data.toList = f := ⟨_, rfl⟩
  rw [hfe] at hf ⊢
  obtain ⟨n, hn⟩ : ∃ n, s.size = n := ⟨_, rfl⟩
  rw [hn] at hf hsz
  have HF := Lib.hid hf
  clear hf hfe
  go_enter Tryz.func120, Tryz.ntmps120
  go_wp2
  go_loop [3] (fun i => ∃ k : Nat, k ≤ n ∧ i = .int .i64 (k : Int) ∧ (s.data.toList.take k).all PN.fit = true) (fun i => n - (intOf i).toNat)
  case atStart => exact ⟨0, Nat.zero_le _, rfl, rfl⟩
  case round =>
    obtain ⟨k, hk, rfl, ha⟩ := hrel
    by_cases hlt : k < n
    · obtain ⟨b, hb, hb'⟩ := ix_data s k (by omega)
      have hnx : (s.data.toList.take (k + 1)).all PN.fit = PN.fit b := by
        rw [List.take_add_one, hb, List.all_append, ha]; simp
      have hno : PN.fit b = false → f = false := fun e => by
        rw [HF.out]
        have : s.data.toList.all PN.fit = false := List.all_eq_false.2 ⟨b, List.mem_of_getElem? hb, by simp [e]⟩
        rw [this]; simp
      have HN := Lib.hid hnx
      have HNO := Lib.hid hno
      clear hb hnx hno ha
      rcases fit_cases b with ⟨h1, e⟩ | ⟨h1, h2, e⟩ | ⟨h1, h2, h3, e⟩ | ⟨h1, h2, h3, e⟩
      · have H0 := Lib.hid (HNO.out e)
        clear HNO HN e
        have h1' : (b.toNat : Int) < 33 := by omega
        go_wp2
        go_ret
        rw [H0.out]
        exact ⟨rfl, rfl⟩
      · have H0 := Lib.hid (HNO.out e)
        clear HNO HN e
        have h1' : ¬ (b.toNat : Int) < 33 := by omega
        have h2' : (126 : Int) < (b.toNat : Int) := by omega
        go_wp2
        go_ret
        rw [H0.out]
        exact ⟨rfl, rfl⟩
      · have H0 := Lib.hid (HNO.out e)
        clear HNO HN e
        have h1' : ¬ (b.toNat : Int) < 33 := by omega
        have h2' : ¬ (126 : Int) < (b.toNat : Int) := by omega
        have h3' : (b.toNat : Int) = 47 := by omega
        go_wp2
        go_ret
        rw [H0.out]
        exact ⟨rfl, rfl⟩
      · have h1' : ¬ (b.toNat : Int) < 33 := by omega
        have h2' : ¬ (126 : Int) < (b.toNat : Int) := by omega
        have h3' : ¬ (b.toNat : Int) = 47 := by omega
        have HA := Lib.hid (HN.out.trans e)
        clear HNO HN e
        go_wp2
        go_round
        case rel => exact ⟨k + 1, by omega, by go_num, HA.out⟩
        case measure => simp [intOf]; omega
    · have hkn : k = n := by omega
      subst hkn
      have hall : s.data.toList.all PN.fit = true := by
        rwa [List.take_of_length_le (by rw [← Lib.size_eq]; omega)] at ha
      have hfe := HF.out
      rw [hall] at hfe
      clear HF ha hall
      by_cases h1 : 1 ≤ k
      · by_cases h2 : k ≤ 6
        · have h1' : (1 : Int) ≤ (k : Int) := by omega
          have h2' : (k : Int) ≤ 6 := by omega
          have hr : f = true := by rw [hfe]; simp [h1, h2]
          subst hr
          clear hfe
          go_wp2
          go_ret
          exact ⟨rfl, rfl⟩
        · have h1' : (1 : Int) ≤ (k : Int) := by omega
          have h2' : ¬ (k : Int) ≤ 6 := by omega
          have hr : f = false := by rw [hfe]; simp [h2]
          subst hr
          clear hfe
          go_wp2
          go_ret
          exact ⟨rfl, rfl⟩
      · have h1' : ¬ (1 : Int) ≤ (k : Int) := by omega
        have hr : f = false := by rw [hfe]; simp [h1]
        subst hr
        clear hfe
        go_wp2
        go_ret
        exact ⟨rfl, rfl⟩



namespace PD
def keep (n : ByteArray) (e : E) : Bool := !decide (e.1 = n)
theorem keep_snoc {l : List E} {k : Nat} {e : E} (n : ByteArray) (h : l[k]? = some e) : (l.take (k + 1)).filter (keep n) = (l.take k).filter (keep n) ++ (if e.1 = n then [] else [e]) := by
  rw [List.take_add_one, h, List.filter_append]
  by_cases he : e.1 = n
  · simp [keep, he]
  · simp [keep, he]
theorem keep_length (l : List E) (k : Nat) (n : ByteArray) : ((l.take k).filter (keep n)).length ≤ l.length := by
  have h1 := List.length_filter_le (keep n) (l.take k)
  rw [List.length_take] at h1
  omega
theorem rless_eq {l : List E} {n : ByteArray} : rless l n = if has l n = true then l.filter (keep n) else l := rfl
end PD

set_option maxRecDepth 100000 in
set_option maxHeartbeats 8000000 in
theorem rless_any (v : Value) (l : List E) (s : ByteArray) (w : World) (h : Es w v l) : Calls Tryz.prog 130 #[v, .string s] w fun e w' => ∃ v', e = .returned (.tuple #[v', .bool (PD.has l s)]) ∧ (PD.has l s = false → v' = v) ∧ (PD.has l s = true → Eo w' w.heap.size v' (PD.rless l s)) ∧ Below w.heap.size w w' := by
  have hc := rfind_any v l s w h
  obtain ⟨A, c, rfl⟩ := h.form
  have hl := h.2.2
  have hwl := @PD.rless_eq l s
  have hkl := fun k => PD.keep_length l k s
  generalize hL : l.length = L at *
  obtain ⟨hv, hhv⟩ : ∃ b, PD.has l s = b := ⟨_, rfl⟩
  obtain ⟨R, hR⟩ : ∃ R, PD.rless l s = R := ⟨_, rfl⟩
  rw [hhv, hR] at hwl
  rw [hhv, hR]
  rw [hhv] at hc
  have HL := Lib.hid hL
  have HK := Lib.hid hkl
  cases hv with
  | false =>
    clear h HL HK hL hhv hwl hkl hR
    go_enter Tryz.func130, Tryz.ntmps130
    go_wp2_with (go_at_call 74; refine hc.mono ?_; rintro e w1 ⟨rfl, hw1⟩; rw [hw1]; clear hw1)
    go_ret2
    exact ⟨_, rfl, fun _ => rfl, fun e => (by cases e), Below.refl _ _⟩
  | true =>
    rw [if_pos rfl] at hwl
    have HR := Lib.hid hwl
    have H := Lib.hid h
    clear h hL hhv hwl hkl hR
    go_enter Tryz.func130, Tryz.ntmps130
    go_wp2_with (go_at_call 74; refine hc.mono ?_; rintro e w1 ⟨rfl, hw1⟩; rw [hw1]; clear hw1)
    clear hc
    go_loopw [8, 9] (fun o i wr => ∃ k : Nat, k ≤ L ∧ i = .int .i64 (k : Int) ∧ Below w.heap.size w wr ∧ Eo wr w.heap.size o ((l.take k).filter (PD.keep s))) (fun _ i _ => L - (intOf i).toNat)
    case atStart => exact ⟨0, Nat.zero_le _, rfl, Below.refl _ _, World.ownsRow_nil _ _ _ _⟩
    case round =>
      obtain ⟨k, hk, rfl, hB, hO⟩ := hrel
      by_cases hlt : k < L
      · obtain ⟨x, hx⟩ : ∃ x, l[k]? = some x := ⟨_, List.getElem?_eq_getElem (by rw [HL.out]; omega)⟩
        obtain ⟨b0, o0, rfl, hb0, hcell⟩ := (H.out.below hB).at (by rw [HL.out]; omega)
        obtain ⟨d0, d1⟩ := hcell k x hx
        have hsn := PD.keep_snoc s hx
        have hlen1 : ((l.take k).filter (PD.keep s)).length ≤ 65536 := by have := HK.out k; omega
        obtain ⟨q, y⟩ := x
        dsimp only at d0 d1 hsn
        by_cases hqs : q = s
        · rw [if_pos hqs, List.append_nil] at hsn
          rw [← hsn] at hO
          have h4 : (q.toList == s.toList) = true := by rw [hqs]; exact seq_yes s
          have HO := Lib.hid hO
          clear hcell hx hsn hO hqs hb0
          go_wp2
          go_roundw
          case rel => exact ⟨k + 1, by omega, by go_num, hB, HO.out⟩
          case measure => simp [intOf]; omega
        · rw [if_neg hqs] at hsn
          have h4 : (q.toList == s.toList) = false := seq_no hqs
          have HS := Lib.hid hsn
          have HO := Lib.hid hO
          clear hcell hx hsn hO hqs hb0
          go_wp2_with (at_builtin; refine append_e (w0 := w) rfl _ _ rfl _ _ rfl (HO.out.on (al _ _)) (hB.alloc hB.size _) hlen1 (q, y) _ 1 rfl (Sl.new2 _ _ 75 _ 1 1 _ rfl rfl) ?_)
          intro v5 w5 hO5 hB5
          rw [← HS.out] at hO5
          have HO5 := Lib.hid hO5
          clear HO hO5 hB d0 d1
          go_wp2
          go_roundw
          case rel => exact ⟨k + 1, by omega, by go_num, hB5, HO5.out⟩
          case measure => simp [intOf]; omega
      · have hkn : k = L := by omega
        subst hkn
        rw [List.take_of_length_le (by rw [HL.out]; exact Nat.le_refl _), ← HR.out] at hO
        have HO := Lib.hid hO
        clear hO HL HK HR H
        go_wp2
        go_ret2
        exact ⟨_, rfl, fun e => (by cases e), fun _ => HO.out, hB⟩
end Go.Proofs.YtdnobplhfbgbaaaGreatDoor
