/- The document's Deep. -/
import Derived.Test.YtnopllkeemhfjaaDoorTree5
namespace Go.Proofs.YtnopllkeemhfjaaDoor
open Go.RowKit ObjM
namespace TreeD

theorem deep_last {l : List Nd} {m : Nat} (hm : l.length = m) : deepV l = (depths l m).getD (m - 1) 0 := by
  have hl := depths_len l m
  unfold deepV
  rw [hm, List.getLastD_eq_getLast?, List.getLast?_eq_getElem?, hl]
  rfl
theorem deep_none {l : List Nd} (hm : l.length = 0) : deepV l = 0 := by
  unfold deepV
  rw [hm]
  rfl
end TreeD
end Go.Proofs.YtnopllkeemhfjaaDoor
