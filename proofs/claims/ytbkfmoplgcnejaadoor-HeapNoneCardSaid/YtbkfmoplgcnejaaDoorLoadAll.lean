/- A whole value loaded at one stroke, out of an object of the call's own. -/
import Derived.Test.YtbkfmoplgcnejaaDoorObj
namespace Go.Proofs.YtbkfmoplgcnejaaDoor
open Go.RowKit
namespace ObjM

theorem run_load_all {P : Program} {w : World} {T : TypeId} {G i0 : Nat} {t : TypeId} {bs cs ds : List Value} (n : Nat) (hag : (isAgg T).run P w = .ok true w) (hsz : (sizeOf T).run P w = .ok n w) (h : Has w G t (bs ++ cs ++ ds)) (hi : bs.length = i0) (hl : cs.length = n) :
    (Instr.loadAt T (.pointer (some ⟨G, i0, none⟩))).run P w = .ok (.agg cs.toArray) w := by
  have hc := run_loadCells_list (P := P) w ⟨G, i0, none⟩ cs (fun j v hj => by
    have hj' := (List.getElem?_eq_some_iff.1 hj).1
    have e : (⟨G, i0, none⟩ : Addr).add j = ⟨G, i0 + j, none⟩ := by
      unfold Addr.add
      split
      · rename_i h; subst h; rfl
      · rfl
    rw [e, h.cell, List.append_assoc, ← hi, List.getElem?_append_right (by omega), Nat.add_sub_cancel_left, List.getElem?_append_left hj', hj])
  rw [hl] at hc
  simp [Instr.loadAt, Instr.sureAddr, loadVar, Sem.run_bind, Result.andThen, hag, hsz, hc]
theorem wpList_load_run {P : Program} {ops : Array Oper} {o : Oper} {rest : List Oper} {a : Act} {w : World} {Q : Exit → Act → World → Prop} (hgd : o.guard = none)
    (x : Operand) (T : TypeId) (hop : o.op = Op.load T x) (v u : Value) (hx : a.eval x = u) (hrun : (Instr.loadAt T u).run P w = .ok v w) (hK : wpList P ops Q rest (a.put o.dst v) w) : wpList P ops Q (o :: rest) a w := by
  unfold wpList
  have hw : Region.wanted o (yielded ops a.tmps) = true := by simp [Region.wanted, hgd]
  rw [if_pos hw]
  refine .inl ?_
  subst hx
  unfold Oper.wp
  simp [execOp, hop, hrun, Result.andThen]
  exact hK
end ObjM
end Go.Proofs.YtbkfmoplgcnejaaDoor
