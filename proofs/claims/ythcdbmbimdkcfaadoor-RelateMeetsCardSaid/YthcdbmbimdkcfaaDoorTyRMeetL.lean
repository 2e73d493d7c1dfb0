/- A copy of texts by append. -/
import Derived.Test.YthcdbmbimdkcfaaDoorTyMeetL
namespace Go.Proofs.YthcdbmbimdkcfaaDoor
open Go.RowKit ObjM
namespace TyD

/-- append as one step of a region that draws its order: what it leaves is told by a predicate. -/
theorem step_append_ex {P : Program} {ops : Array Oper} {o : Oper} {a : Act} {w : World} {K : Act → World → Prop} {Q : Exit → Act → World → Prop} {E : Prop}
    (hg : o.guard = none) (s x : Operand) (t : TypeId) (hop : o.op = Op.call { callee := Callee.builtin Builtin.append, args := #[s, x], argTypes := #[t, t] })
    (v u : Value) (hs : a.eval s = v) (hx : a.eval x = u) (R : Value → World → Prop) (hrun : ∃ v' w', (Builtin.append_ #[t, t] o.type #[v, u]).run P w = .ok v' w' ∧ R v' w')
    (hK : ∀ v' w', R v' w' → K (a.put o.dst v') w') :
    if Region.wanted o (yielded ops a.tmps) = true then Oper.wp P o a w K Q else E := by
  have hw : Region.wanted o (yielded ops a.tmps) = true := by simp [Region.wanted, hg]
  rw [if_pos hw]
  subst hs hx
  obtain ⟨v', w', hrun, hr⟩ := hrun
  unfold Oper.wp
  simp [execOp, hop, resolve, invoke, builtin, hrun, Result.andThen]
  exact hK v' w' hr
def CopyOfR (W : World) (l : List ByteArray) (v : Value) (w : World) : Prop := (∃ a c, v = .slice a l.length c) ∧ (∀ W' : World, w.heap.size ≤ W'.heap.size → (∀ k, W.heap.size ≤ k → k < w.heap.size → W'.heap[k]? = w.heap[k]?) → StrsAt W' v l) ∧ Below W.heap.size W w
theorem copy_strs {W : World} {v : Value} {l : List ByteArray} (h : StrsAt W v l) (hn : l.length ≤ 1000000000000) :
    ∃ v2 w2, (Builtin.append_ #[22, 22] 22 #[.slice none 0 0, v]).run Tryd.prog W = .ok v2 w2 ∧ CopyOfR W l v2 w2 := by
  obtain ⟨i0, hi, hz0, hz1, hz2⟩ := info_parts infoString
  obtain ⟨av, cap, rfl, hc, hc2, hc3, h1⟩ := h
  rcases av with _ | ad
  · have hl : l = [] := List.length_eq_zero_iff.1 (by have := hc3 rfl; omega)
    subst hl
    obtain rfl := hc3 rfl
    exact ⟨_, _, run_append_owned_none (P := Tryd.prog) (w := W) W.heap.size 22 22 9 i0 1 Tryd.underlying22 hi (.slice none 0 0) 0 [] (World.ownsRow_nil _ _ _ _), ⟨none, 0, rfl⟩, fun W' _ _ => StrsAt.nil _, Below.refl _ _⟩
  · obtain ⟨v2, w2, hrun, ho, hg, -, -⟩ := run_append_own_at (P := Tryd.prog) (w := W) W.heap.size 22 22 9 i0 (.string ⟨#[]⟩) 1 16 Tryd.underlying22 hi hz0 hz1 hz2 rfl (by decide) (.slice none 0 0) 0 [] (World.ownsRow_nil _ _ _ _) ad l.length cap (l.map Value.string) (by simp)
      (fun j u hj => by
        rcases h1 with rfl | ⟨g, o, e, hg, hcell⟩
        · simp at hj
        · injection e with e
          subst e
          rw [List.getElem?_map] at hj
          obtain ⟨x, hx, rfl⟩ := Option.map_eq_some_iff.1 hj
          rw [addr_at]
          exact hcell j x hx)
      (fun u hu => by obtain ⟨x, _, rfl⟩ := List.mem_map.1 hu; rfl) (by unfold maxLen; omega) (by omega) (Nat.le_refl _)
    have ho2 : w2.ownsRow W.heap.size 9 1 v2 l.length (l.map Value.string) := by simpa using ho
    refine ⟨v2, w2, hrun, ?_, fun W' _ hag => strs_own (own_agree ho2 hag), (Keeps.grown hg).toBelow W.heap.size (Nat.le_refl _) (by simp [Value.ownBlock])⟩
    rcases own_shape ho2 with ⟨h9, h8, _⟩ | ⟨g', cap', cs', h9, _⟩
    · exact ⟨none, 0, by rw [h9, h8]⟩
    · exact ⟨_, _, h9⟩
end TyD
end Go.Proofs.YthcdbmbimdkcfaaDoor
