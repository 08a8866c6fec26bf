/-
  Contracts of the document's answer: lasts, Flush, Crash.
-/
import Derived.Test.YtgoggancldipcaaEb
import Derived.Test.YtgoggancldipcaaDs
namespace Go.Proofs.Ytgoggancldipcaa
open Go.RowKit

def sel (all : Bool) (ps : List (Int × ByteArray)) (ks : List Bool) (k : Nat) : List (Int × ByteArray) := if all then ps.take k else M.kept (ps.take k) (ks.take k)
def chosen (all : Bool) (ks : List Bool) (k : Nat) : Prop := all = true ∨ ks[k]? = some true
def lasTo (l : List ByteArray) (all : Bool) (ps : List (Int × ByteArray)) (ks : List Bool) (k : Nat) : List ByteArray := M.lasting l (sel all ps ks k)

theorem sel_yes {all : Bool} {ps : List (Int × ByteArray)} {ks : List Bool} {k : Nat} {p : Int × ByteArray} (hp : ps[k]? = some p) (h : chosen all ks k) : sel all ps ks (k + 1) = sel all ps ks k ++ [p] := by
  unfold sel
  cases all with
  | true => simp [take_snoc' _ _ _ hp]
  | false =>
    have hk : ks[k]? = some true := by rcases h with h | h <;> simp_all
    simp [kept_one hp, hk]
theorem sel_no {all : Bool} {ps : List (Int × ByteArray)} {ks : List Bool} {k : Nat} {p : Int × ByteArray} (hp : ps[k]? = some p) (h : ¬ chosen all ks k) : sel all ps ks (k + 1) = sel all ps ks k := by
  unfold sel
  cases all with
  | true => exact absurd (.inl rfl) h
  | false =>
    have hk : ¬ ks[k]? = some true := fun hh => h (.inr hh)
    simp [kept_one hp, hk]
theorem las_yes {l : List ByteArray} {all : Bool} {ps : List (Int × ByteArray)} {ks : List Bool} {k j : Nat} {s : ByteArray} (hp : ps[k]? = some ((j : Int), s)) (hj : hasB l.length (j : Int) = true) (h : chosen all ks k) :
    ((lasTo l all ps ks k).map Value.string).set j (.string s) = (lasTo l all ps ks (k + 1)).map Value.string := by
  unfold lasTo
  rw [sel_yes hp h, M.lasting_snoc, M.put, M.lasting_length, if_pos hj, List.map_set]
  rfl
theorem las_no {l : List ByteArray} {all : Bool} {ps : List (Int × ByteArray)} {ks : List Bool} {k : Nat} {p : Int × ByteArray} (hp : ps[k]? = some p) (h : hasB l.length p.1 = false ∨ ¬ chosen all ks k) : lasTo l all ps ks k = lasTo l all ps ks (k + 1) := by
  unfold lasTo
  by_cases hc : chosen all ks k
  · rcases h with h | h
    · rw [sel_yes hp hc, M.lasting_snoc, M.put, M.lasting_length, h]
      rfl
    · exact absurd hc h
  · rw [sel_no hp hc]
theorem las_len (l : List ByteArray) (all : Bool) (ps : List (Int × ByteArray)) (ks : List Bool) (k : Nat) : (lasTo l all ps ks k).length = l.length := M.lasting_length _ _

theorem kept_cut (ps : List (Int × ByteArray)) (ks : List Bool) : M.kept ps (ks.take ps.length) = M.kept ps ks := by
  rcases Nat.le_total ps.length ks.length with h | h
  · have := kept_all (ps := ps) (ks := ks) (n := ps.length) (by omega)
    rw [← this, List.take_of_length_le (Nat.le_refl ps.length)]
  · rw [List.take_of_length_le h]

set_option maxHeartbeats 4000000 in
theorem lasts_any (v : Value) (d : D) (A2 : Option Addr) (n2 c2 : Nat) (ks : List Bool) (all : Bool) (w : World) (h : IsD w v d) (h2 : Sl w 1 (.slice A2 n2 c2) n2 (ks.map Value.bool)) (hk2 : ks.length = n2) (hl : d.last.length ≤ 65536) (hw : d.wait.length ≤ 65536) (hn2 : n2 ≤ 65536) :
    Calls Try.prog 25 #[v, .slice A2 n2 c2, .bool all] w fun e w' => ∃ A' c', e = .returned (.slice A' d.last.length c') ∧
      w'.ownsRow w.heap.size 9 1 (.slice A' d.last.length c') d.last.length ((lasTo d.last all d.wait ks d.wait.length).map Value.string) ∧ Below w.heap.size w w' := by
  obtain ⟨i0, hi, hz0, hz1, hz2⟩ := info_parts Try.info9
  obtain ⟨A, c, A1, c1, rfl, h0, h1⟩ := h.open_
  clear h
  obtain ⟨l, wt, arm, down⟩ := d
  dsimp only at h0 h1 hl hw ⊢
  have HK := Lib.hid hk2
  clear hk2
  have hown0 : ((w.alloc (.cells #[.slice A l.length c, .slice A1 wt.length c1, .int .i64 arm, .bool down] 28)).alloc (.cells #[] 9)).ownsRow (w.heap.size + 1) 9 1 (.slice (some ⟨w.heap.size + 1, 0, none⟩) 0 0) 0 [] := by
    have := World.ownsRow_made (base := w.heap.size + 1) (e := 9) (size := 1) (w.alloc (.cells #[.slice A l.length c, .slice A1 wt.length c1, .int .i64 arm, .bool down] 28)) #[] 0 (by simp) (Nat.zero_le _) rfl
    rw [World.size_alloc] at this
    exact this
  go_enter Try.func25, Try.ntmps25
  go_wp2_with (at_builtin; refine wpList_append_sl rfl _ _ 25 rfl (w.heap.size + 1) 9 i0 (.string { data := #[] }) 1 16 Try.underlying25 hi hz0 hz1 hz2 rfl (by decide) _ _ _ rfl hown0 A l.length c (l.map Value.string) rfl ?qa1 (strs_one l) ?qa2 ?qa3 ?qa4 ?_)
  case qa1 => exact h0.below (((Below.refl _ _).alloc (Nat.le_refl _) _).alloc (by simp) _)
  case qa2 => unfold maxLen; omega
  case qa3 => omega
  case qa4 => simp
  intro v' w1 hown hgrow
  have hb0 : Below w.heap.size w (w.alloc (.cells #[.slice A l.length c, .slice A1 wt.length c1, .int .i64 arm, .bool down] 28)) := (Below.refl _ w).alloc (Nat.le_refl _) _
  have hbn : Below (w.heap.size + 1) (w.alloc (.cells #[.slice A l.length c, .slice A1 wt.length c1, .int .i64 arm, .bool down] 28)) w1 := ((Below.refl _ _).alloc (by simp) (.cells #[] 9)).grown hgrow (by simp) (fun k hk => by simp [Value.ownBlock] at hk; omega)
  have hX := (Bx.new w 28 #[.slice A l.length c, .slice A1 wt.length c1, .int .i64 arm, .bool down]).below hbn (by omega)
  have hbW := hb0.trans (hbn.mono (by omega))
  have hown1 : w1.ownsRow (w.heap.size + 1) 9 1 v' l.length (l.map Value.string) := by simpa using hown
  obtain ⟨A', c', rfl⟩ := own_form hown1
  clear hown hgrow hbn hb0 h0 hown0
  have hR : w1.ownsRow (w.heap.size + 1) 9 1 (.slice A' l.length c') l.length ((lasTo l all wt ks 0).map Value.string) := by
    have e : lasTo l all wt ks 0 = l := by cases all <;> simp [lasTo, sel, M.kept, M.lasting]
    rw [e]; exact hown1
  clear hown1
  go_wp2
  go_loopw [8] (fun s wr => ∃ k : Nat, k ≤ wt.length ∧ s = .int .i64 k ∧ wr.ownsRow (w.heap.size + 1) 9 1 (.slice A' l.length c') l.length ((lasTo l all wt ks k).map Value.string) ∧ Bx wr w.heap.size 28 #[.slice A l.length c, .slice A1 wt.length c1, .int .i64 arm, .bool down] ∧ Below w.heap.size w wr) (fun s _ => wt.length - (intOf s).toNat)
  case atStart => exact ⟨0, by omega, rfl, hR, hX, hbW⟩
  case round =>
    clear hR hX hbW
    obtain ⟨k, hk, rfl, hok, hX, hbW⟩ := hrel
    obtain ⟨x0, x1, x2, x3, _, _, _, _⟩ := hX.four
    by_cases hlt : k < wt.length
    · obtain ⟨b, o, rfl, hbb, hcl⟩ := h1.at (by omega)
      obtain ⟨p, hpk⟩ : ∃ p, wt[k]? = some p := ⟨_, List.getElem?_eq_getElem hlt⟩
      have hp2 := waitCells_at wt k p hpk
      have e0 := (hbW.cell (p := ⟨b, o + k * 2, none⟩) hbb).trans (hcl (k * 2) (by omega))
      have e1 := (hbW.cell (p := ⟨b, o + (k * 2 + 1), none⟩) hbb).trans (hcl (k * 2 + 1) (by omega))
      rw [hp2.1] at e0
      rw [hp2.2, ← Nat.add_assoc] at e1
      have HP := Lib.hid hpk
      clear hcl hp2 hpk
      by_cases hh : hasB l.length p.1 = true
      · obtain ⟨i, s⟩ := p
        have hi' : 0 ≤ i ∧ i < l.length := by simpa [hasB] using hh
        obtain ⟨j, rfl⟩ := Int.eq_ofNat_of_zero_le hi'.1
        obtain ⟨g, rfl, hg0, hg1⟩ := own_at hok (by omega)
        have hj : j < l.length := by omega
        have hcell := hok.cellAt j (by omega)
        have hfz := hok.frozenAt j
        obtain ⟨x, hx⟩ : ∃ x, ((lasTo l all wt ks k).map Value.string)[j]? = some (.string x) := by
          have : j < (lasTo l all wt ks k).length := by rw [las_len]; omega
          exact ⟨(lasTo l all wt ks k)[j], by simp [this]⟩
        rw [hx] at hcell
        have HG := Lib.hid (hok.stored j (.string s)).1
        have hXn := hX.far (p := ⟨g, j, none⟩) (by show w.heap.size ≠ g; omega) (.string s)
        have hbn := hbW.setCell (p := ⟨g, j, none⟩) (by show w.heap.size ≤ g; omega) (.string s)
        have HH := Lib.hid hh
        have hne : w.heap.size ≠ g := by omega
        clear hx hh
        cases all with
        | true =>
          have HS := Lib.hid (las_yes (l := l) (all := true) (ks := ks) HP.out HH.out (.inl rfl))
          go_wp2
          go_roundw
          case rel => exact ⟨k + 1, by omega, by go_num, by rw [← HS.out]; exact HG.out, hXn, hbn⟩
          case measure => simp [intOf]; omega
        | false =>
          by_cases hk3 : k < n2
          · obtain ⟨b3, o3, rfl, hbb3, hcl3⟩ := h2.at (by omega)
            obtain ⟨y, hy⟩ : ∃ y, ks[k]? = some y := ⟨_, List.getElem?_eq_getElem (by rw [HK.out]; exact hk3)⟩
            have e3 := (hbW.cell (p := ⟨b3, o3 + k, none⟩) hbb3).trans (hcl3 k (by omega))
            rw [List.getElem?_map, hy, Option.map_some] at e3
            clear hcl3
            have i3 : (k : Int) < (n2 : Int) := by omega
            cases y with
            | true =>
              have HS := Lib.hid (las_yes (l := l) (all := false) (ks := ks) HP.out HH.out (.inr hy))
              clear hy
              go_wp2
              go_roundw
              case rel => exact ⟨k + 1, by omega, by go_num, by rw [← HS.out]; exact HG.out, hXn, hbn⟩
              case measure => simp [intOf]; omega
            | false =>
              have HS := Lib.hid (las_no (l := l) (all := false) (ks := ks) HP.out (.inr (by simp [chosen, hy])))
              clear hy
              go_wp2
              go_roundw
              case rel => exact ⟨k + 1, by omega, by go_num, by rw [← HS.out]; exact hok, hX, hbW⟩
              case measure => simp [intOf]; omega
          · have hy : ks[k]? = none := List.getElem?_eq_none (by rw [HK.out]; omega)
            have HS := Lib.hid (las_no (l := l) (all := false) (ks := ks) HP.out (.inr (by simp [chosen, hy])))
            have i3 : decide ((k : Int) < (n2 : Int)) = false := by simp; omega
            have i3' : decide (k < n2) = false := by simp; omega
            clear hy
            go_wp2
            go_roundw
            case rel => exact ⟨k + 1, by omega, by go_num, by rw [← HS.out]; exact hok, hX, hbW⟩
            case measure => simp [intOf]; omega
      · have HS := Lib.hid (las_no (l := l) (all := all) (ks := ks) HP.out (.inl (by simpa using hh)))
        by_cases hp0 : 0 ≤ p.1
        · have hp0' : decide (0 ≤ p.1) = true := by simpa using hp0
          have hp1 : decide (p.1 < (l.length : Int)) = false := by
            simp [hasB] at hh
            simp; omega
          clear hh
          go_wp2
          go_roundw
          case rel => exact ⟨k + 1, by omega, by go_num, by rw [← HS.out]; exact hok, hX, hbW⟩
          case measure => simp [intOf]; omega
        · have hp0' : decide (0 ≤ p.1) = false := by simpa using hp0
          clear hh
          go_wp2
          go_roundw
          case rel => exact ⟨k + 1, by omega, by go_num, by rw [← HS.out]; exact hok, hX, hbW⟩
          case measure => simp [intOf]; omega
    · have hkn : k = wt.length := by omega
      subst hkn
      go_wp2
      go_ret
      exact ⟨A', c', rfl, own_base hok (by omega), hbW⟩

end Go.Proofs.Ytgoggancldipcaa
