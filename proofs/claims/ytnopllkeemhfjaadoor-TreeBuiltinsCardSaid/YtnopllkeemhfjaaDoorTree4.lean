/- The document's Same. -/
import Derived.Test.YtnopllkeemhfjaaDoorTree3
namespace Go.Proofs.YtnopllkeemhfjaaDoor
open Go.RowKit ObjM
namespace TreeD

theorem below_drewN {b : Nat} {w w' : World} (h : Below b w w') (n : Nat) : Below b w (w'.drewN n) := ⟨h.os, h.tape, h.output, h.size, fun k hk => h.block k hk⟩
theorem take_eq_all {a b : List Int} (hl : a.length = b.length) (h : a.take a.length = b.take a.length) : a = b := by
  rw [List.take_length, hl, List.take_length] at h
  exact h
theorem take_next {a b : List Int} {j : Nat} (ha : j < a.length) (hb : j < b.length) (h : a.take j = b.take j) (he : a[j] = b[j]) : a.take (j + 1) = b.take (j + 1) := by
  rw [List.take_succ_eq_append_getElem ha, List.take_succ_eq_append_getElem hb, h, he]
theorem ne_at {a b : List Int} {j : Nat} (ha : j < a.length) (hb : j < b.length) (he : a[j] ≠ b[j]) : (a == b) = false := by
  simp only [beq_eq_false_iff_ne, ne_eq]
  intro e
  subst e
  exact he rfl
end TreeD
end Go.Proofs.YtnopllkeemhfjaaDoor
