/- A whole value stored at one stroke, into an object of the call's own. -/
import Derived.Test.YtbkfmoplgcnejaaDoorLoadAll
import Derived.Laws.Tables
namespace Go.Proofs.YtbkfmoplgcnejaaDoor
open Go.RowKit
namespace ObjM

theorem run_store_all {P : Program} {w : World} {T : TypeId} {G : Nat} {t : TypeId} {cs : List Value} (cs' : List Value) (h : Has w G t cs) (hi : (P.info? T).map (·.size) = some cs'.length) (hl : cs'.length = cs.length) (h1 : ∀ v ∈ cs', v.oneCell' = true) :
    ∃ w', (Instr.storeAt T (.pointer (some ⟨G, 0, none⟩)) (.agg cs'.toArray)).run P w = .ok () w' ∧ Has w' G t cs' ∧ Keeps [G] w w' := by
  have hr := run_storeVar_row (P := P) w G t T cs.toArray cs'.toArray h (by simpa using hi) (by simp [hl]) (by
    rw [Array.all_eq_true_iff_forall_mem]
    intro v hv
    exact h1 v (by simpa using hv))
  refine ⟨w.setRow G cs'.toArray, by simpa [Instr.storeAt, Instr.sureAddr, Sem.run_bind, Result.andThen] using hr, setRow_heap w G cs.toArray cs'.toArray t (0, 0) h, ⟨rfl, rfl, rfl, by simp [World.setRow], fun k hk hs => ?_⟩⟩
  have hne : k ≠ G := by simpa using hs
  show (w.heap.modify G _)[k]? = _
  rw [Array.getElem?_modify]
  simp [Ne.symm hne]
theorem KeepsT.ofKeeps {w w' : World} {G : Nat} {t : TypeId} {cs : List Value} {ts : List TypeId} (h : Keeps [G] w w') (hG : Has w G t cs) (ht : t ∈ ts) : KeepsT ts w w' :=
  ⟨h.os, h.tape, h.output, h.size, fun k hk hs => h.block k hk (by
    intro e
    have : k = G := by simpa using e
    subst this
    exact hs _ _ _ hG ht)⟩
theorem wpList_store_run {P : Program} {ops : Array Oper} {o : Oper} {rest : List Oper} {a : Act} {w : World} {Q : Exit → Act → World → Prop} (hgd : o.guard = none)
    (x y : Operand) (T : TypeId) (hop : o.op = Op.store T x y) (u v : Value) (hx : a.eval x = u) (hy : a.eval y = v) (w' : World) (hrun : (Instr.storeAt T u v).run P w = .ok () w') (hK : wpList P ops Q rest (a.put o.dst undef) w') : wpList P ops Q (o :: rest) a w := by
  unfold wpList
  have hw : Region.wanted o (yielded ops a.tmps) = true := by simp [Region.wanted, hgd]
  rw [if_pos hw]
  refine .inl ?_
  subst hx hy
  unfold Oper.wp
  simp [execOp, hop, hrun, Result.andThen]
  exact hK
end ObjM
end Go.Proofs.YtbkfmoplgcnejaaDoor
