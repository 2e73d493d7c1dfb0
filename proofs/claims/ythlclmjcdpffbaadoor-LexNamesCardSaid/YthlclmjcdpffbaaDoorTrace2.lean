/- Whether events begin with others: both sides; the law's own tests. -/
import Derived.Test.YthlclmjcdpffbaaDoorTrace
import Derived.Deep.QuietTactic
namespace Go.Proofs.YthlclmjcdpffbaaDoor
open Go.RowKit ObjM
namespace TraceD
open LabelM LabelD

theorem below_drewN {b : Nat} {w w' : World} (h : Below b w w') (n : Nat) : Below b w (w'.drewN n) := ⟨h.os, h.tape, h.output, h.size, fun k hk => h.block k hk⟩
/-- Whether m begins with l. -/
def beginsB : List Ev → List Ev → Bool
  | [], _ => true
  | _ :: _, [] => false
  | a :: r, b :: s => a.eqB b && beginsB r s
theorem beginsB_long : ∀ (l m : List Ev), m.length < l.length → beginsB l m = false
  | [], _, h => by simp at h
  | _ :: _, [], _ => rfl
  | a :: r, b :: s, h => by
    have := beginsB_long r s (by simpa using h)
    simp [beginsB, this]
theorem beginsB_drop {l m : List Ev} {k : Nat} (h : k < l.length) (h2 : k < m.length) : beginsB (l.drop k) (m.drop k) = (l[k].eqB m[k] && beginsB (l.drop (k + 1)) (m.drop (k + 1))) := by
  rw [List.drop_eq_getElem_cons h, List.drop_eq_getElem_cons h2]
  rfl
theorem Ev.eqB_refl (a : Ev) : a.eqB a = true := by simp [Ev.eqB]
theorem beginsB_append : ∀ (l m : List Ev), beginsB l (l ++ m) = true
  | [], _ => rfl
  | a :: r, m => by simp [beginsB, Ev.eqB_refl, beginsB_append r m]

end TraceD
end Go.Proofs.YthlclmjcdpffbaaDoor
