/-
  The walk of DirLong.
-/
import Derived.Test.YtckkljiaicmljaaQm
import Derived.Test.YtckkljiaicmljaaBo
namespace Go.Proofs.Ytckkljiaicmljaa
open Go.RowKit Go.Joins

namespace PD
theorem bytes_small {l : List E} (h : ∀ e ∈ l, e.1.size ≤ 2) : (bytes l).length ≤ 4 * l.length := by
  induction l with
  | nil => simp [bytes]
  | cons e r ih =>
    have h1 := h e (by simp)
    have h2 := ih fun x hx => h x (by simp [hx])
    have h3 : (bytes (e :: r)).length = (e.1.size + 2) + (bytes r).length := by
      rw [bytes, List.flatMap_cons, List.length_append, ent_length]; rfl
    rw [h3, List.length_cons]
    omega
theorem made_small (l : List Nat) (h : ∀ b ∈ l, b < 256) : ∀ e ∈ made l, e.1.size ≤ 2 := by
  intro e he
  obtain ⟨b, hb, rfl⟩ := made_mem l e he
  exact (mk_may b (h b hb)).2.2
theorem made_bytes (l : List Nat) (h : ∀ b ∈ l, b < 256) : (bytes (made l)).length ≤ 4 * l.length := by
  have h1 := bytes_small (made_small l h)
  have h2 := made_length l
  omega
theorem made_ok (l : List Nat) (h : ∀ b ∈ l, b < 256) (k : l.length ≤ 30) : ok (made l) = true := by
  have h1 := made_bytes l h
  simp [ok, made_rise l h]
  omega
theorem put_length {l : List E} (h : ok l = true) : (put l).size = (bytes l).length := by rw [put, if_pos h, str_size]
theorem bytes_at {l : List E} {k : Nat} {e : E} (h : l[k]? = some e) : (bytes (l.take (k + 1))).length = (bytes (l.take k)).length + e.1.size + 2 := by
  rw [List.take_add_one, h, show (some e).toList = [e] from rfl, bytes_snoc, List.length_append, ent_length]
  omega
theorem bytes_take (l : List E) (k : Nat) : (bytes (l.take k)).length ≤ (bytes l).length := by
  have h : bytes l = bytes (l.take k) ++ bytes (l.drop k) := by
    rw [bytes, bytes, bytes, ← List.flatMap_append, List.take_append_drop]
  rw [h, List.length_append]
  omega
end PD

set_option maxRecDepth 100000 in
set_option maxHeartbeats 8000000 in
theorem longLaw_any (v : Value) (l : List Nat) (w : World) (h : Tz w v l) : Calls Try.prog 6 #[v] w fun e w' => e = .returned (.bool true) ∧ Below w.heap.size w w' := by
  have hb := begun_any w
  by_cases h20 : l.length ≤ 20
  · have hx := h.small (by omega)
    obtain ⟨A, c, rfl⟩ := hx.form
    have hm := fun W (hW : Below w.heap.size w W) => made_any (.slice A l.length c) l W (hx.below hW) (by omega)
    have hok := PD.made_ok l hx.2.1 (by omega)
    have hfit := PD.made_fit l hx.2.1 (by omega)
    have hsz := PD.put_length hok
    have hby := PD.made_bytes l hx.2.1
    have hat := fun k e => @PD.bytes_at (PD.made l) k e
    have hlen := PD.made_length l
    generalize PD.made l = x at *
    have h20' : ¬ (20 : Int) < (l.length : Int) := by omega
    obtain ⟨N, hN⟩ : ∃ N, (PD.bytes x).length = N := ⟨_, rfl⟩
    rw [hN] at hsz hby
    have HAT := Lib.hid hat
    have HN := Lib.hid hN
    have HF := Lib.hid hfit
    have HOK := Lib.hid hok
    have HSZ := Lib.hid hsz
    clear h hx hat hN hfit hok hsz
    go_enter Try.func6, Try.ntmps6
    go_wp2_with fail
    refine hb.mono ?_
    rintro e w1 ⟨rfl, hB1⟩
    have hm1 := hm w1 hB1
    clear hb hm
    go_wp2_with fail
    refine hm1.mono ?_
    rintro e w2 ⟨v2, rfl, hO2, hB2⟩
    have hb2 := hB1.trans (hB2.mono hB1.size)
    have hE2 := hO2.row HF.out
    obtain ⟨A2, c2, rfl, _⟩ := hO2.cap
    generalize hX : x.length = X at *
    have HE := Lib.hid hE2
    have HX := Lib.hid hX
    clear hm1 hO2 hB1 hB2 hE2 hX
    go_wp2
    go_loop [4, 5] (fun n i => ∃ k : Nat, k ≤ X ∧ i = .int .i64 (k : Int) ∧ n = .int .i64 ((PD.bytes (x.take k)).length : Nat)) (fun _ i => X - (intOf i).toNat)
    case atStart => exact ⟨0, Nat.zero_le _, rfl, rfl⟩
    case round =>
      obtain ⟨k, hk, rfl, rfl⟩ := hrel
      by_cases hlt : k < X
      · obtain ⟨b0, o0, rfl, hb0, hcell⟩ := HE.out.at (by rw [HX.out]; omega)
        obtain ⟨e, he⟩ : ∃ e, x[k]? = some e := ⟨_, List.getElem?_eq_getElem (by rw [HX.out]; omega)⟩
        obtain ⟨g0, g1⟩ := hcell k e he
        have hnx := HAT.out k e he
        have hle : (PD.bytes (x.take k)).length ≤ 524288 := by
          have := PD.bytes_take x k
          rw [HN.out] at this
          omega
        obtain ⟨s, z⟩ := e
        dsimp only at g0 g1 hnx
        obtain ⟨B, hB⟩ : ∃ B, (PD.bytes (x.take k)).length = B := ⟨_, rfl⟩
        rw [hB] at hnx hle ⊢
        have hss : s.size ≤ 1048576 := (HF.out.1 _ (List.mem_of_getElem? he)).1
        have hw1 : IntKind.i64.wrap ((B : Int) + (s.size : Int)) = (B : Int) + (s.size : Int) := by rw [IntKind.wrap_i64]; omega
        have hw2 : IntKind.i64.wrap ((B : Int) + (s.size : Int) + 2) = (B : Int) + (s.size : Int) + 2 := by rw [IntKind.wrap_i64]; omega
        have HNX := Lib.hid hnx
        clear hcell he hnx hB
        go_wp2
        go_round
        case rel => exact ⟨k + 1, by omega, by go_num, by rw [HNX.out]; simp⟩
        case measure => simp [intOf]; omega
      · have hkn : k = X := by omega
        subst hkn
        rw [List.take_of_length_le (by rw [HX.out]; exact Nat.le_refl _), HN.out]
        have hp := put_any _ x w2 HE.out
        rw [HOK.out] at hp
        obtain ⟨P, hP⟩ : ∃ P, PD.put x = P := ⟨_, rfl⟩
        have hps := HSZ.out
        rw [hP] at hp hps
        have hN120 : (N : Int) ≤ 120 := by omega
        clear hP HN HAT HE HX HSZ
        go_wp2_with fail
        refine hp.mono ?_
        rintro e w3 ⟨rfl, hB3⟩
        have hb3 := hb2.trans (hB3.mono hb2.size)
        clear hp hb2 hB3
        go_wp2
        go_ret
        exact ⟨rfl, hb3⟩
  · have hf : ∃ A c, v = .slice A l.length c := by
      obtain ⟨⟨A, c, hv, _⟩, _⟩ := h
      exact ⟨A, c, hv⟩
    obtain ⟨A, c, rfl⟩ := hf
    have h20' : (20 : Int) < (l.length : Int) := by omega
    clear h
    go_enter Try.func6, Try.ntmps6
    go_wp2_with (go_at_call 7; refine hb.mono ?_; rintro e w1 ⟨rfl, hB1⟩)
    go_ret
    exact ⟨rfl, hB1⟩
end Go.Proofs.Ytckkljiaicmljaa
