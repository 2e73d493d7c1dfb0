/- slices.Clone of texts. -/
import Derived.Test.YtmcnoagihnkkcaaDoorTyRel
import Derived.Maps.AppendAt
import Derived.Lib.SliceRun
namespace Go.Proofs.YtmcnoagihnkkcaaDoor
open Go.RowKit ObjM
namespace TyD
open LexD (nameB WTab)

theorem wpList_append_run {P : Program} {ops : Array Oper} {o : Oper} {rest : List Oper} {a : Act} {w : World} {Q : Exit → Act → World → Prop} (hw : Region.wanted o (yielded ops a.tmps) = true)
    (s x : Operand) (t : TypeId) (hop : o.op = Op.call { callee := Callee.builtin Builtin.append, args := #[s, x], argTypes := #[t, t] }) (v' : Value) (w' : World) (v u : Value) (hs : a.eval s = v) (hx : a.eval x = u)
    (hrun : (Builtin.append_ #[t, t] o.type #[v, u]).run P w = .ok v' w') (hK : wpList P ops Q rest (a.put o.dst v') w') : wpList P ops Q (o :: rest) a w := by
  unfold wpList
  rw [if_pos hw]
  refine .inl ?_
  subst hs hx
  unfold Oper.wp
  simp [execOp, hop, resolve, invoke, builtin, hrun, Result.andThen]
  exact hK
theorem infoString : (Tryd.prog.info? 9).map (fun i => (i.zero, i.size, i.bytes)) = some (some (.string ⟨#[]⟩), 1, 16) := by kernel_rfl
theorem strs_own {W : World} {B : Nat} {v : Value} {l : List ByteArray} (h : W.ownsRow B 9 1 v l.length (l.map Value.string)) : StrsAt W v l := by
  rcases own_shape h with ⟨rfl, hn, hx⟩ | ⟨g, cap, cs, rfl, hBg, hh, hnc, hcm, hcl, htk⟩
  · have : l = [] := List.length_eq_zero_iff.1 hn
    subst this
    exact StrsAt.nil _
  · refine ⟨_, _, rfl, hnc, by unfold maxLen at hcm; omega, (fun e => by simp at e), .inr ⟨g, 0, rfl, hh.lt, fun i x hi => ?_⟩⟩
    have hi2 : (l.map Value.string)[i]? = some (.string x) := by rw [List.getElem?_map, hi]; rfl
    obtain ⟨hlt, hv⟩ := List.getElem?_eq_some_iff.1 hi2
    rw [Nat.zero_add, own_cell h i hlt, hv]
theorem own_agree {w W' : World} {base : Nat} {e : TypeId} {size : Nat} {v : Value} {n : Nat} {xs : List Value} (h : w.ownsRow base e size v n xs) (hag : ∀ k, base ≤ k → k < w.heap.size → W'.heap[k]? = w.heap[k]?) : W'.ownsRow base e size v n xs := by
  rcases own_shape h with ⟨rfl, rfl, rfl⟩ | ⟨g, cap, cs, rfl, hb, hh, hnc, hcm, hcl, htk⟩
  · exact World.ownsRow_nil _ _ _ _
  · exact own_of hb ((hag g hb hh.lt).trans hh) hnc hcm hcl htk
/-- A copy: texts in memory that was made. -/
def CloneIs (w : World) (l : List ByteArray) (e : Ending) (w' : World) : Prop := ∃ v', e = .returned v' ∧ (∀ W' : World, w'.heap.size ≤ W'.heap.size → (∀ k, w.heap.size ≤ k → k < w'.heap.size → W'.heap[k]? = w'.heap[k]?) → StrsAt W' v' l) ∧ Below w.heap.size w w'
end TyD
end Go.Proofs.YtmcnoagihnkkcaaDoor
