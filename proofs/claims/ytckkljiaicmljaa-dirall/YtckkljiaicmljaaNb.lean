/-
  Plain facts: which names may be one's own. No program in this text.
-/
import Derived.Lib.Split
namespace Go.Proofs.Ytckkljiaicmljaa
open Go

namespace PN
def fit (b : UInt8) : Bool := decide (33 ≤ b.toNat) && (decide (b.toNat ≤ 126) && !decide (b.toNat = 47))
/-- What the document asks of names that are one's own. -/
def own (s : List UInt8) : Bool := decide (1 ≤ s.length) && (decide (s.length ≤ 6) && s.all fit)
theorem own_pos {s : List UInt8} (h : own s = true) : 1 ≤ s.length ∧ s.length ≤ 6 := by
  simp only [own, Bool.and_eq_true, decide_eq_true_eq] at h
  exact ⟨h.1, h.2.1⟩
end PN
end Go.Proofs.Ytckkljiaicmljaa
