/-
  Contracts: the document's Own, May.
  Contract: the document's Parts.
-/
import Derived.Test.YtdnobplhfbgbaaaGreatDoorMNb
namespace Go.Proofs.YtdnobplhfbgbaaaGreatDoor
open Go.RowKit Go.Joins

theorem fit_cases (b : UInt8) : (b.toNat < 33 ∧ PN.fit b = false) ∨ (¬ b.toNat < 33 ∧ 126 < b.toNat ∧ PN.fit b = false) ∨ (¬ b.toNat < 33 ∧ ¬ 126 < b.toNat ∧ b.toNat = 47 ∧ PN.fit b = false) ∨ (¬ b.toNat < 33 ∧ ¬ 126 < b.toNat ∧ b.toNat ≠ 47 ∧ PN.fit b = true) := by
  unfold PN.fit
  by_cases h1 : 33 ≤ b.toNat
  · by_cases h2 : b.toNat ≤ 126
    · by_cases h3 : b.toNat = 47
      · exact .inr (.inr (.inl ⟨by omega, by omega, h3, by simp [h3]⟩))
      · exact .inr (.inr (.inr ⟨by omega, by omega, h3, by simp [h1, h2, h3]⟩))
    · exact .inr (.inl ⟨by omega, by omega, by simp [h2]⟩)
  · exact .inl ⟨by omega, by simp [h1]⟩

set_option maxHeartbeats 4000000 in
theorem rown_any (s : ByteArray) (w : World) (hsz : s.size ≤ 65535) : Calls Tryz.prog 120 #[.string s] w fun e w' => e = .returned (.bool (PN.own s.data.toList)) ∧ w' = w := by
  have hf : PN.own s.data.toList = (decide (1 ≤ s.size) && (decide (s.size ≤ 6) && s.data.toList.all PN.fit)) := by rw [Lib.size_eq]; rfl
  obtain ⟨f, hfe⟩ : ∃ f, PN.own s.data.toList = f := ⟨_, rfl⟩
  rw [hfe] at hf ⊢
  obtain ⟨n, hn⟩ : ∃ n, s.size = n := ⟨_, rfl⟩
  rw [hn] at hf hsz
  have HF := Lib.hid hf
  clear hf hfe
  go_enter Tryz.func120, Tryz.ntmps120
  go_wp2
  go_loop [3] (fun i => ∃ k : Nat, k ≤ n ∧ i = .int .i64 (k : Int) ∧ (s.data.toList.take k).all PN.fit = true) (fun i => n - (intOf i).toNat)
  case atStart => exact ⟨0, Nat.zero_le _, rfl, rfl⟩
  case round =>
    obtain ⟨k, hk, rfl, ha⟩ := hrel
    by_cases hlt : k < n
    · obtain ⟨b, hb, hb'⟩ := ix_data s k (by omega)
      have hnx : (s.data.toList.take (k + 1)).all PN.fit = PN.fit b := by
        rw [List.take_add_one, hb, List.all_append, ha]; simp
      have hno : PN.fit b = false → f = false := fun e => by
        rw [HF.out]
        have : s.data.toList.all PN.fit = false := List.all_eq_false.2 ⟨b, List.mem_of_getElem? hb, by simp [e]⟩
        rw [this]; simp
      have HN := Lib.hid hnx
      have HNO := Lib.hid hno
      clear hb hnx hno ha
      rcases fit_cases b with ⟨h1, e⟩ | ⟨h1, h2, e⟩ | ⟨h1, h2, h3, e⟩ | ⟨h1, h2, h3, e⟩
      · have H0 := Lib.hid (HNO.out e)
        clear HNO HN e
        have h1' : (b.toNat : Int) < 33 := by omega
        go_wp2
        go_ret
        rw [H0.out]
        exact ⟨rfl, rfl⟩
      · have H0 := Lib.hid (HNO.out e)
        clear HNO HN e
        have h1' : ¬ (b.toNat : Int) < 33 := by omega
        have h2' : (126 : Int) < (b.toNat : Int) := by omega
        go_wp2
        go_ret
        rw [H0.out]
        exact ⟨rfl, rfl⟩
      · have H0 := Lib.hid (HNO.out e)
        clear HNO HN e
        have h1' : ¬ (b.toNat : Int) < 33 := by omega
        have h2' : ¬ (126 : Int) < (b.toNat : Int) := by omega
        have h3' : (b.toNat : Int) = 47 := by omega
        go_wp2
        go_ret
        rw [H0.out]
        exact ⟨rfl, rfl⟩
      · have h1' : ¬ (b.toNat : Int) < 33 := by omega
        have h2' : ¬ (126 : Int) < (b.toNat : Int) := by omega
        have h3' : ¬ (b.toNat : Int) = 47 := by omega
        have HA := Lib.hid (HN.out.trans e)
        clear HNO HN e
        go_wp2
        go_round
        case rel => exact ⟨k + 1, by omega, by go_num, HA.out⟩
        case measure => simp [intOf]; omega
    · have hkn : k = n := by omega
      subst hkn
      have hall : s.data.toList.all PN.fit = true := by
        rwa [List.take_of_length_le (by rw [← Lib.size_eq]; omega)] at ha
      have hfe := HF.out
      rw [hall] at hfe
      clear HF ha hall
      by_cases h1 : 1 ≤ k
      · by_cases h2 : k ≤ 6
        · have h1' : (1 : Int) ≤ (k : Int) := by omega
          have h2' : (k : Int) ≤ 6 := by omega
          have hr : f = true := by rw [hfe]; simp [h1, h2]
          subst hr
          clear hfe
          go_wp2
          go_ret
          exact ⟨rfl, rfl⟩
        · have h1' : (1 : Int) ≤ (k : Int) := by omega
          have h2' : ¬ (k : Int) ≤ 6 := by omega
          have hr : f = false := by rw [hfe]; simp [h2]
          subst hr
          clear hfe
          go_wp2
          go_ret
          exact ⟨rfl, rfl⟩
      · have h1' : ¬ (1 : Int) ≤ (k : Int) := by omega
        have hr : f = false := by rw [hfe]; simp [h1]
        subst hr
        clear hfe
        go_wp2
        go_ret
        exact ⟨rfl, rfl⟩

set_option maxHeartbeats 4000000 in
theorem rmay_any (s : ByteArray) (w : World) (hsz : s.size ≤ 65535) : Calls Tryz.prog 121 #[.string s] w fun e w' => e = .returned (.bool (PN.may s.data.toList)) ∧ w' = w := by
  have hf : PN.may s.data.toList = (PN.own s.data.toList && !Lib.hasPrefix s.data.toList [126]) := rfl
  rw [hf]
  have ho := rown_any s w hsz
  cases hw : PN.own s.data.toList with
  | false =>
    rw [hw] at ho
    clear hf hw
    go_enter Tryz.func121, Tryz.ntmps121
    go_wp2_with fail
    refine ho.mono ?_
    rintro e w1 ⟨rfl, hw1⟩
    rw [hw1]
    clear hw1
    go_wp2
    go_ret
    exact ⟨by simp, rfl⟩
  | true =>
    rw [hw] at ho
    have h1 := (PN.own_pos hw).1
    rw [← Lib.size_eq] at h1
    obtain ⟨b, hb, hb'⟩ := ix_data s 0 (by omega)
    have hpf : Lib.hasPrefix s.data.toList [126] = decide (b.toNat = 126) := by
      cases hd : s.data.toList with
      | nil => rw [hd] at hb; simp at hb
      | cons y r =>
        rw [hd] at hb
        simp at hb
        subst hb
        by_cases e : y.toNat = 126
        · have : y = 126 := UInt8.toNat_inj.1 e
          subst this
          simp [Lib.hasPrefix, List.isPrefixOf]
        · have : y ≠ 126 := fun h => e (by rw [h]; rfl)
          rw [decide_eq_false e]
          simp [Lib.hasPrefix, List.isPrefixOf]
          exact fun h => this h.symm
    rw [hpf]
    clear hf hw hb hpf
    by_cases hq : b.toNat = 126
    · have e' : (b.toNat : Int) = 126 := by omega
      go_enter Tryz.func121, Tryz.ntmps121
      go_wp2_with fail
      refine ho.mono ?_
      rintro e w1 ⟨rfl, hw1⟩
      rw [hw1]
      clear hw1
      go_wp2
      go_ret
      exact ⟨by simp [hq], rfl⟩
    · have e' : ¬ (b.toNat : Int) = 126 := by omega
      go_enter Tryz.func121, Tryz.ntmps121
      go_wp2_with fail
      refine ho.mono ?_
      rintro e w1 ⟨rfl, hw1⟩
      rw [hw1]
      clear hw1
      go_wp2
      go_ret
      exact ⟨by simp [hq, e'], rfl⟩
end Go.Proofs.YtdnobplhfbgbaaaGreatDoor
namespace Go.Proofs.YtdnobplhfbgbaaaGreatDoor
open Go.RowKit Go.Joins

namespace PN
/-- Where the document's road is: k bytes are read, ol names are whole, nm is begun; F is what it comes to. -/
def Road (o : Bool) (l : List UInt8) (k : Nat) (ol : List (List UInt8)) (nm : List UInt8) (F : Option (List (List UInt8))) : Prop := if k ≤ l.length then go o ol nm (l.drop k) = F else F = some ol
theorem drop_at {l : List UInt8} {k : Nat} {b : UInt8} (h : l[k]? = some b) : l.drop k = b :: l.drop (k + 1) := by
  obtain ⟨hlt, rfl⟩ := List.getElem?_eq_some_iff.1 h
  exact List.drop_eq_getElem_cons hlt
theorem Road.step {o : Bool} {l : List UInt8} {k : Nat} {ol : List (List UInt8)} {nm : List UInt8} {F : Option (List (List UInt8))} (h : Road o l k ol nm F) {b : UInt8} (hb : l[k]? = some b) (hn : b ≠ 47) : Road o l (k + 1) ol (nm ++ [b]) F := by
  have hlt := (List.getElem?_eq_some_iff.1 hb).1
  unfold Road at h ⊢
  rw [if_pos (by omega), drop_at hb, go, if_pos hn] at h
  rw [if_pos (by omega)]
  exact h
theorem Road.close {o : Bool} {l : List UInt8} {k : Nat} {ol : List (List UInt8)} {nm : List UInt8} {F : Option (List (List UInt8))} (h : Road o l k ol nm F) (hb : l[k]? = some 47 ∨ k = l.length) (h1 : ok o nm = true) (h2 : ol.length < 8) : Road o l (k + 1) (ol ++ [nm]) [] F := by
  unfold Road at h ⊢
  rcases hb with hb | hb
  · have hlt := (List.getElem?_eq_some_iff.1 hb).1
    rw [if_pos (by omega), drop_at hb, go, if_neg (by simp), if_pos ⟨h1, h2⟩] at h
    rw [if_pos (by omega)]
    exact h
  · rw [if_pos (by omega), List.drop_of_length_le (by omega), go, if_pos ⟨h1, h2⟩] at h
    rw [if_neg (by omega)]
    exact h.symm
theorem Road.no {o : Bool} {l : List UInt8} {k : Nat} {ol : List (List UInt8)} {nm : List UInt8} {F : Option (List (List UInt8))} (h : Road o l k ol nm F) (hb : l[k]? = some 47 ∨ k = l.length) (hn : ¬ (ok o nm = true ∧ ol.length < 8)) : F = none := by
  unfold Road at h
  rcases hb with hb | hb
  · have hlt := (List.getElem?_eq_some_iff.1 hb).1
    rw [if_pos (by omega), drop_at hb, go, if_neg (by simp), if_neg hn] at h
    exact h.symm
  · rw [if_pos (by omega), List.drop_of_length_le (by omega), go, if_neg hn] at h
    exact h.symm
theorem sub_one (s : ByteArray) (k : Nat) (b : UInt8) (nm : List UInt8) (h : s.data.toList[k]? = some b) : mk nm ++ s.extract k (k + 1) = mk (nm ++ [b]) := by
  have hd := drop_at h
  apply ByteArray.ext
  apply Array.toList_inj.1
  simp only [mk, ByteArray.data_append, ByteArray.data_extract, Array.toList_append, Array.toList_extract, List.extract_eq_take_drop, hd]
  simp
end PN

set_option maxRecDepth 100000 in
set_option maxHeartbeats 8000000 in
theorem rparts_any (s : ByteArray) (o : Bool) (w : World) (hs : s.size ≤ 65535) : Calls Tryz.prog 72 #[.string s, .bool o] w fun e w' => ∃ v, e = .returned (.tuple #[v, .bool (PN.is o s)]) ∧ Ro w' w.heap.size v (PN.pt o s) ∧ Below w.heap.size w w' := by
  obtain ⟨i0, hi, hz0, hz1, hz2⟩ := info_parts Tryz.info9
  by_cases hroot : s = { data := #[47] }
  · subst hroot
    obtain ⟨e1, e2⟩ := PN.parts_root (o := o) (s := { data := #[47] }) rfl
    rw [e1, e2]
    clear e1 e2
    go_enter Tryz.func72, Tryz.ntmps72
    go_wp2
    go_ret2
    exact ⟨_, rfl, World.ownsRow_nil _ _ _ _, Below.refl _ _⟩
  · have hse : (s.toList == [47]) = false := (seq_dec s { data := #[47] }).trans (decide_eq_false hroot)
    by_cases h0 : s.size = 0
    · have hno : Lib.hasPrefix s.data.toList [47] = false := by
        have : s.data.toList = [] := List.eq_nil_of_length_eq_zero (by rw [← Lib.size_eq]; exact h0)
        rw [this]; rfl
      obtain ⟨e1, e2⟩ := PN.parts_no (o := o) hno
      rw [e1, e2]
      clear e1 e2 hno hroot
      go_enter Tryz.func72, Tryz.ntmps72
      go_wp2
      go_ret2
      exact ⟨_, rfl, World.ownsRow_nil _ _ _ _, Below.refl _ _⟩
    · obtain ⟨b, hb, hb'⟩ := ix_data s 0 (by omega)
      obtain ⟨r, hr⟩ : ∃ r, s.data.toList = b :: r := by
        cases hd : s.data.toList with
        | nil => rw [hd] at hb; simp at hb
        | cons y r => rw [hd] at hb; simp at hb; subst hb; exact ⟨r, rfl⟩
      by_cases hq : b = 47
      · subst hq
        have hrn : r ≠ [] := fun e => hroot (by
          apply ByteArray.ext
          apply Array.toList_inj.1
          rw [hr, e])
        obtain ⟨F, hF⟩ : ∃ F, PN.parts o s.data.toList = F := ⟨_, rfl⟩
        have e1 : PN.is o s = F.isSome := by unfold PN.is; rw [hF]
        have e2 : PN.pt o s = (F.getD []).map PN.mk := by unfold PN.pt; rw [hF]
        obtain ⟨n, hn⟩ : ∃ n, s.size = n := ⟨_, rfl⟩
        have hlen : s.data.toList.length = n := by rw [← Lib.size_eq]; exact hn
        have hst : PN.Road o s.data.toList 1 [] [] F := by
          unfold PN.Road
          rw [if_pos (by rw [hr]; simp), hr]
          show PN.go o [] [] r = F
          rw [PN.go_parts o r hrn, ← hr, hF]
        rw [e1, e2]
        rw [hn] at hs h0
        have HL := Lib.hid hlen
        have HST := Lib.hid hst
        have h0' : ((n : Int) == 0) = false := by simp; omega
        clear e1 e2 hF hb hr hrn hroot hlen hst
        go_enter Tryz.func72, Tryz.ntmps72
        go_wp2
        go_loopw [6, 7, 8] (fun o6 n7 i8 wr => ∃ (k : Nat) (ol : List (List UInt8)) (nm : List UInt8), 1 ≤ k ∧ k ≤ n + 1 ∧ i8 = .int .i64 (k : Int) ∧ n7 = .string (PN.mk nm) ∧ nm.length ≤ k ∧ ol.length ≤ 8 ∧ Ro wr w.heap.size o6 (ol.map PN.mk) ∧ Below w.heap.size w wr ∧ PN.Road o s.data.toList k ol nm F) (fun _ _ i8 _ => n + 1 - (intOf i8).toNat)
        case atStart => exact ⟨1, [], [], Nat.le_refl _, by omega, rfl, rfl, Nat.zero_le _, Nat.zero_le _, World.ownsRow_nil _ _ _ _, Below.refl _ _, HST.out⟩
        case round =>
          obtain ⟨k, ol, nm, hk1, hk, rfl, rfl, hnl, hol, hO, hB, hR⟩ := hrel
          clear HST
          by_cases hle : k ≤ n
          · have hle' : (k : Int) ≤ (n : Int) := by omega
            have hnz : (PN.mk nm).size ≤ 65535 := by rw [Lib.size_eq, PN.mk_data]; omega
            obtain ⟨Lo, hLo⟩ : ∃ Lo, ol.length = Lo := ⟨_, rfl⟩
            obtain ⟨Ao, co, rfl⟩ := own_form hO
            have zW := hB.size
            have hO2 := hO
            unfold Ro at hO2
            rw [List.length_map, hLo] at hO2 ⊢
            generalize hXS : (ol.map PN.mk).map Value.string = XS at hO2
            have HXS := Lib.hid hXS
            have HLO := Lib.hid hLo
            have HR := Lib.hid hR
            rw [hLo] at hol
            clear hXS hLo hR hO
            by_cases hlt : k < n
            · obtain ⟨b, hb, hb'⟩ := ix_data s k (by omega)
              have hlt' : (k : Int) < (n : Int) := by omega
              by_cases hq : b = 47
              · subst hq
                have HCL := Lib.hid (HR.out.close (.inl hb))
                have HNO := Lib.hid (HR.out.no (.inl hb))
                have hbi : ((47 : UInt8).toNat : Int) = 47 := rfl
                clear HR hb
                have ho := rown_any (PN.mk nm) wr hnz
                have hm := rmay_any (PN.mk nm) wr hnz
                rw [PN.mk_data] at ho hm
                cases how : PN.own nm with
                | false =>
                  have HFN := Lib.hid (HNO.out (fun e => by have := PN.ok_own e.1; rw [how] at this; cases this))
                  rw [how] at ho
                  clear HCL HNO hm how hO2
                  go_wp2_with fail
                  refine ho.mono ?_
                  rintro e w1 ⟨rfl, hw1⟩
                  rw [hw1]
                  clear hw1 ho
                  go_wp2
                  go_ret2
                  rw [HFN.out]
                  exact ⟨_, rfl, World.ownsRow_nil _ _ _ _, hB⟩
                | true =>
                  rw [how] at ho
                  cases o with
                  | true =>
                    have HOK : PN.ok true nm = true := how
                    clear hm how
                    by_cases h8 : Lo < 8
                    · have h8' : ¬ (8 : Int) ≤ (Lo : Int) := by omega
                      have HRN := Lib.hid (HCL.out HOK (by rw [HLO.out]; exact h8))
                      clear HCL HNO
                      go_wp2_with fail
                      refine ho.mono ?_
                      rintro e w1 ⟨rfl, hw1⟩
                      rw [hw1]
                      clear hw1 ho
                      go_wp2_with (at_builtin; refine wpList_append_sl rfl _ _ 35 rfl w.heap.size 9 i0 (.string { data := #[] }) 1 16 Tryz.underlying35 hi hz0 hz1 hz2 rfl (by decide) _ _ _ rfl (hO2.alloc _) _ 1 1 _ rfl (Sl.new _ _ 9 _ 1 1 _ rfl rfl) ?q1 ?q2 ?q3 ?q4 ?_)
                      case q1 => first | rfl | (intro u hu; simp at hu; subst hu; rfl)
                      case q2 => unfold maxLen; omega
                      case q3 => omega
                      case q4 => first | omega | (simp; omega)
                      intro v' w5 hown hgrow
                      have hb5 : Below w.heap.size w w5 := (hB.alloc hB.size _).grown hgrow (by simp; omega) (fun k hk => own_ge hO2 hk)
                      have hown' : Ro w5 w.heap.size v' ((ol ++ [nm]).map PN.mk) := by
                        unfold Ro
                        rw [List.length_map, List.length_append, HLO.out, List.map_append, List.map_append, HXS.out]
                        exact hown
                      have HV := Lib.hid hown'
                      clear hown hown' hgrow hO2
                      go_wp2
                      go_roundw
                      case rel => exact ⟨k + 1, ol ++ [nm], [], by omega, by omega, by go_num, rfl, by simp, by rw [List.length_append, HLO.out]; simp; omega, HV.out, hb5, HRN.out⟩
                      case measure => simp [intOf]; omega
                    · have h8' : (8 : Int) ≤ (Lo : Int) := by omega
                      have HFN := Lib.hid (HNO.out (fun e => h8 (by rw [← HLO.out]; exact e.2)))
                      clear HCL HNO hO2
                      go_wp2_with fail
                      refine ho.mono ?_
                      rintro e w1 ⟨rfl, hw1⟩
                      rw [hw1]
                      clear hw1 ho
                      go_wp2
                      go_ret2
                      rw [HFN.out]
                      exact ⟨_, rfl, World.ownsRow_nil _ _ _ _, hB⟩
                  | false =>
                    clear how
                    cases hmy : PN.may nm with
                    | false =>
                      have HFN := Lib.hid (HNO.out (fun e => by have e1 : PN.may nm = true := e.1; rw [hmy] at e1; cases e1))
                      rw [hmy] at hm
                      clear HCL HNO hmy hO2
                      go_wp2_with fail
                      refine ho.mono ?_
                      rintro e w1 ⟨rfl, hw1⟩
                      rw [hw1]
                      clear hw1 ho
                      go_wp2_with fail
                      refine hm.mono ?_
                      rintro e w1 ⟨rfl, hw1⟩
                      rw [hw1]
                      clear hw1 hm
                      go_wp2
                      go_ret2
                      rw [HFN.out]
                      exact ⟨_, rfl, World.ownsRow_nil _ _ _ _, hB⟩
                    | true =>
                      have HOK : PN.ok false nm = true := hmy
                      rw [hmy] at hm
                      clear hmy
                      by_cases h8 : Lo < 8
                      · have h8' : ¬ (8 : Int) ≤ (Lo : Int) := by omega
                        have HRN := Lib.hid (HCL.out HOK (by rw [HLO.out]; exact h8))
                        clear HCL HNO
                        go_wp2_with fail
                        refine ho.mono ?_
                        rintro e w1 ⟨rfl, hw1⟩
                        rw [hw1]
                        clear hw1 ho
                        go_wp2_with fail
                        refine hm.mono ?_
                        rintro e w1 ⟨rfl, hw1⟩
                        rw [hw1]
                        clear hw1 hm
                        go_wp2_with (at_builtin; refine wpList_append_sl rfl _ _ 35 rfl w.heap.size 9 i0 (.string { data := #[] }) 1 16 Tryz.underlying35 hi hz0 hz1 hz2 rfl (by decide) _ _ _ rfl (hO2.alloc _) _ 1 1 _ rfl (Sl.new _ _ 9 _ 1 1 _ rfl rfl) ?q1 ?q2 ?q3 ?q4 ?_)
                        case q1 => first | rfl | (intro u hu; simp at hu; subst hu; rfl)
                        case q2 => unfold maxLen; omega
                        case q3 => omega
                        case q4 => first | omega | (simp; omega)
                        intro v' w5 hown hgrow
                        have hb5 : Below w.heap.size w w5 := (hB.alloc hB.size _).grown hgrow (by simp; omega) (fun k hk => own_ge hO2 hk)
                        have hown' : Ro w5 w.heap.size v' ((ol ++ [nm]).map PN.mk) := by
                          unfold Ro
                          rw [List.length_map, List.length_append, HLO.out, List.map_append, List.map_append, HXS.out]
                          exact hown
                        have HV := Lib.hid hown'
                        clear hown hown' hgrow hO2
                        go_wp2
                        go_roundw
                        case rel => exact ⟨k + 1, ol ++ [nm], [], by omega, by omega, by go_num, rfl, by simp, by rw [List.length_append, HLO.out]; simp; omega, HV.out, hb5, HRN.out⟩
                        case measure => simp [intOf]; omega
                      · have h8' : (8 : Int) ≤ (Lo : Int) := by omega
                        have HFN := Lib.hid (HNO.out (fun e => h8 (by rw [← HLO.out]; exact e.2)))
                        clear HCL HNO hO2
                        go_wp2_with fail
                        refine ho.mono ?_
                        rintro e w1 ⟨rfl, hw1⟩
                        rw [hw1]
                        clear hw1 ho
                        go_wp2_with fail
                        refine hm.mono ?_
                        rintro e w1 ⟨rfl, hw1⟩
                        rw [hw1]
                        clear hw1 hm
                        go_wp2
                        go_ret2
                        rw [HFN.out]
                        exact ⟨_, rfl, World.ownsRow_nil _ _ _ _, hB⟩
              · have hbi : ¬ (b.toNat : Int) = 47 := fun e => hq (UInt8.toNat_inj.1 (by have : (47 : UInt8).toNat = 47 := rfl; omega))
                have HRS := Lib.hid (HR.out.step hb hq)
                have HSO := Lib.hid (PN.sub_one s k b nm hb)
                clear HR hb
                have hsz : ¬ 9223372036854775807 < (PN.mk nm).size + (s.extract k (k + 1)).size := by
                  have : (s.extract k (k + 1)).size ≤ 1 := by rw [ByteArray.size_extract]; omega
                  omega
                go_wp2
                go_roundw
                case rel => exact ⟨k + 1, ol, nm ++ [b], by omega, by omega, by go_num, by rw [HSO.out], by simp; omega, by rw [HLO.out]; exact hol, by unfold Ro; rw [List.length_map, HLO.out, HXS.out]; exact hO2, hB, HRS.out⟩
                case measure => simp [intOf]; omega
            · have hlt' : ¬ (k : Int) < (n : Int) := by omega
              have hkl : k = s.data.toList.length := by rw [HL.out]; omega
              have HCL := Lib.hid (HR.out.close (.inr hkl))
              have HNO := Lib.hid (HR.out.no (.inr hkl))
              clear HR hkl
              have ho := rown_any (PN.mk nm) wr hnz
              have hm := rmay_any (PN.mk nm) wr hnz
              rw [PN.mk_data] at ho hm
              cases how : PN.own nm with
              | false =>
                have HFN := Lib.hid (HNO.out (fun e => by have := PN.ok_own e.1; rw [how] at this; cases this))
                rw [how] at ho
                clear HCL HNO hm how hO2
                go_wp2_with fail
                refine ho.mono ?_
                rintro e w1 ⟨rfl, hw1⟩
                rw [hw1]
                clear hw1 ho
                go_wp2
                go_ret2
                rw [HFN.out]
                exact ⟨_, rfl, World.ownsRow_nil _ _ _ _, hB⟩
              | true =>
                rw [how] at ho
                cases o with
                | true =>
                  have HOK : PN.ok true nm = true := how
                  clear hm how
                  by_cases h8 : Lo < 8
                  · have h8' : ¬ (8 : Int) ≤ (Lo : Int) := by omega
                    have HRN := Lib.hid (HCL.out HOK (by rw [HLO.out]; exact h8))
                    clear HCL HNO
                    go_wp2_with fail
                    refine ho.mono ?_
                    rintro e w1 ⟨rfl, hw1⟩
                    rw [hw1]
                    clear hw1 ho
                    go_wp2_with (at_builtin; refine wpList_append_sl rfl _ _ 35 rfl w.heap.size 9 i0 (.string { data := #[] }) 1 16 Tryz.underlying35 hi hz0 hz1 hz2 rfl (by decide) _ _ _ rfl (hO2.alloc _) _ 1 1 _ rfl (Sl.new _ _ 9 _ 1 1 _ rfl rfl) ?q1 ?q2 ?q3 ?q4 ?_)
                    case q1 => first | rfl | (intro u hu; simp at hu; subst hu; rfl)
                    case q2 => unfold maxLen; omega
                    case q3 => omega
                    case q4 => first | omega | (simp; omega)
                    intro v' w5 hown hgrow
                    have hb5 : Below w.heap.size w w5 := (hB.alloc hB.size _).grown hgrow (by simp; omega) (fun k hk => own_ge hO2 hk)
                    have hown' : Ro w5 w.heap.size v' ((ol ++ [nm]).map PN.mk) := by
                      unfold Ro
                      rw [List.length_map, List.length_append, HLO.out, List.map_append, List.map_append, HXS.out]
                      exact hown
                    have HV := Lib.hid hown'
                    clear hown hown' hgrow hO2
                    go_wp2
                    go_roundw
                    case rel => exact ⟨k + 1, ol ++ [nm], [], by omega, by omega, by go_num, rfl, by simp, by rw [List.length_append, HLO.out]; simp; omega, HV.out, hb5, HRN.out⟩
                    case measure => simp [intOf]; omega
                  · have h8' : (8 : Int) ≤ (Lo : Int) := by omega
                    have HFN := Lib.hid (HNO.out (fun e => h8 (by rw [← HLO.out]; exact e.2)))
                    clear HCL HNO hO2
                    go_wp2_with fail
                    refine ho.mono ?_
                    rintro e w1 ⟨rfl, hw1⟩
                    rw [hw1]
                    clear hw1 ho
                    go_wp2
                    go_ret2
                    rw [HFN.out]
                    exact ⟨_, rfl, World.ownsRow_nil _ _ _ _, hB⟩
                | false =>
                  clear how
                  cases hmy : PN.may nm with
                  | false =>
                    have HFN := Lib.hid (HNO.out (fun e => by have e1 : PN.may nm = true := e.1; rw [hmy] at e1; cases e1))
                    rw [hmy] at hm
                    clear HCL HNO hmy hO2
                    go_wp2_with fail
                    refine ho.mono ?_
                    rintro e w1 ⟨rfl, hw1⟩
                    rw [hw1]
                    clear hw1 ho
                    go_wp2_with fail
                    refine hm.mono ?_
                    rintro e w1 ⟨rfl, hw1⟩
                    rw [hw1]
                    clear hw1 hm
                    go_wp2
                    go_ret2
                    rw [HFN.out]
                    exact ⟨_, rfl, World.ownsRow_nil _ _ _ _, hB⟩
                  | true =>
                    have HOK : PN.ok false nm = true := hmy
                    rw [hmy] at hm
                    clear hmy
                    by_cases h8 : Lo < 8
                    · have h8' : ¬ (8 : Int) ≤ (Lo : Int) := by omega
                      have HRN := Lib.hid (HCL.out HOK (by rw [HLO.out]; exact h8))
                      clear HCL HNO
                      go_wp2_with fail
                      refine ho.mono ?_
                      rintro e w1 ⟨rfl, hw1⟩
                      rw [hw1]
                      clear hw1 ho
                      go_wp2_with fail
                      refine hm.mono ?_
                      rintro e w1 ⟨rfl, hw1⟩
                      rw [hw1]
                      clear hw1 hm
                      go_wp2_with (at_builtin; refine wpList_append_sl rfl _ _ 35 rfl w.heap.size 9 i0 (.string { data := #[] }) 1 16 Tryz.underlying35 hi hz0 hz1 hz2 rfl (by decide) _ _ _ rfl (hO2.alloc _) _ 1 1 _ rfl (Sl.new _ _ 9 _ 1 1 _ rfl rfl) ?q1 ?q2 ?q3 ?q4 ?_)
                      case q1 => first | rfl | (intro u hu; simp at hu; subst hu; rfl)
                      case q2 => unfold maxLen; omega
                      case q3 => omega
                      case q4 => first | omega | (simp; omega)
                      intro v' w5 hown hgrow
                      have hb5 : Below w.heap.size w w5 := (hB.alloc hB.size _).grown hgrow (by simp; omega) (fun k hk => own_ge hO2 hk)
                      have hown' : Ro w5 w.heap.size v' ((ol ++ [nm]).map PN.mk) := by
                        unfold Ro
                        rw [List.length_map, List.length_append, HLO.out, List.map_append, List.map_append, HXS.out]
                        exact hown
                      have HV := Lib.hid hown'
                      clear hown hown' hgrow hO2
                      go_wp2
                      go_roundw
                      case rel => exact ⟨k + 1, ol ++ [nm], [], by omega, by omega, by go_num, rfl, by simp, by rw [List.length_append, HLO.out]; simp; omega, HV.out, hb5, HRN.out⟩
                      case measure => simp [intOf]; omega
                    · have h8' : (8 : Int) ≤ (Lo : Int) := by omega
                      have HFN := Lib.hid (HNO.out (fun e => h8 (by rw [← HLO.out]; exact e.2)))
                      clear HCL HNO hO2
                      go_wp2_with fail
                      refine ho.mono ?_
                      rintro e w1 ⟨rfl, hw1⟩
                      rw [hw1]
                      clear hw1 ho
                      go_wp2_with fail
                      refine hm.mono ?_
                      rintro e w1 ⟨rfl, hw1⟩
                      rw [hw1]
                      clear hw1 hm
                      go_wp2
                      go_ret2
                      rw [HFN.out]
                      exact ⟨_, rfl, World.ownsRow_nil _ _ _ _, hB⟩
          · have hle' : ¬ (k : Int) ≤ (n : Int) := by omega
            have hFs : F = some ol := by
              unfold PN.Road at hR
              rwa [if_neg (by rw [HL.out]; omega)] at hR
            have HFS := Lib.hid hFs
            have HO := Lib.hid hO
            clear hR hO hFs
            go_wp2
            go_ret2
            rw [HFS.out]
            exact ⟨_, rfl, HO.out, hB⟩
      · have hno : Lib.hasPrefix s.data.toList [47] = false := by
          rw [hr]
          simp [Lib.hasPrefix, List.isPrefixOf]
          exact fun e => hq e.symm
        obtain ⟨e1, e2⟩ := PN.parts_no (o := o) hno
        rw [e1, e2]
        have hbi : ¬ (b.toNat : Int) = 47 := fun e => hq (UInt8.toNat_inj.1 (by have : (47 : UInt8).toNat = 47 := rfl; omega))
        have h0' : ((s.size : Int) == 0) = false := by rw [beq_eq_false_iff_ne]; omega
        clear e1 e2 hno hroot hb hr hq
        go_enter Tryz.func72, Tryz.ntmps72
        go_wp2
        go_ret2
        exact ⟨_, rfl, World.ownsRow_nil _ _ _ _, Below.refl _ _⟩
end Go.Proofs.YtdnobplhfbgbaaaGreatDoor
