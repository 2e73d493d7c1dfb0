/- slices.Clone of texts. -/
import Derived.Test.YthcdbmbimdkcfaaDoorTyRel
import Derived.Maps.AppendAt
import Derived.Lib.SliceRun
namespace Go.Proofs.YthcdbmbimdkcfaaDoor
open Go.RowKit ObjM
namespace TyD
open LexD (nameB WTab)

theorem wpList_append_run {P : Program} {ops : Array Oper} {o : Oper} {rest : List Oper} {a : Act} {w : World} {Q : Exit → Act → World → Prop} (hw : Region.wanted o (yielded ops a.tmps) = true)
    (s x : Operand) (t : TypeId) (hop : o.op = Op.call { callee := Callee.builtin Builtin.append, args := #[s, x], argTypes := #[t, t] }) (v' : Value) (w' : World) (v u : Value) (hs : a.eval s = v) (hx : a.eval x = u)
    (hrun : (Builtin.append_ #[t, t] o.type #[v, u]).run P w = .ok v' w') (hK : wpList P ops Q rest (a.put o.dst v') w') : wpList P ops Q (o :: rest) a w := by
  unfold wpList
  rw [if_pos hw]
  refine .inl ?_
  subst hs hx
  unfold Oper.wp
  simp [execOp, hop, resolve, invoke, builtin, hrun, Result.andThen]
  exact hK
theorem infoString : (Tryd.prog.info? 9).map (fun i => (i.zero, i.size, i.bytes)) = some (some (.string ⟨#[]⟩), 1, 16) := by kernel_rfl
theorem strs_own {W : World} {B : Nat} {v : Value} {l : List ByteArray} (h : W.ownsRow B 9 1 v l.length (l.map Value.string)) : StrsAt W v l := by
  rcases own_shape h with ⟨rfl, hn, hx⟩ | ⟨g, cap, cs, rfl, hBg, hh, hnc, hcm, hcl, htk⟩
  · have : l = [] := List.length_eq_zero_iff.1 hn
    subst this
    exact StrsAt.nil _
  · refine ⟨_, _, rfl, hnc, by unfold maxLen at hcm; omega, (fun e => by simp at e), .inr ⟨g, 0, rfl, hh.lt, fun i x hi => ?_⟩⟩
    have hi2 : (l.map Value.string)[i]? = some (.string x) := by rw [List.getElem?_map, hi]; rfl
    obtain ⟨hlt, hv⟩ := List.getElem?_eq_some_iff.1 hi2
    rw [Nat.zero_add, own_cell h i hlt, hv]
theorem own_agree {w W' : World} {base : Nat} {e : TypeId} {size : Nat} {v : Value} {n : Nat} {xs : List Value} (h : w.ownsRow base e size v n xs) (hag : ∀ k, base ≤ k → k < w.heap.size → W'.heap[k]? = w.heap[k]?) : W'.ownsRow base e size v n xs := by
  rcases own_shape h with ⟨rfl, rfl, rfl⟩ | ⟨g, cap, cs, rfl, hb, hh, hnc, hcm, hcl, htk⟩
  · exact World.ownsRow_nil _ _ _ _
  · exact own_of hb ((hag g hb hh.lt).trans hh) hnc hcm hcl htk
/-- A copy: texts in memory that was made. -/
def CloneIs (w : World) (l : List ByteArray) (e : Ending) (w' : World) : Prop := ∃ v', e = .returned v' ∧ (∀ W' : World, w'.heap.size ≤ W'.heap.size → (∀ k, w.heap.size ≤ k → k < w'.heap.size → W'.heap[k]? = w'.heap[k]?) → StrsAt W' v' l) ∧ Below w.heap.size w w'
set_option maxRecDepth 100000 in
set_option maxHeartbeats 4000000 in
theorem clone_any (l : List ByteArray) (v : Value) (w : World) (h : StrsAt w v l) (hn : l.length ≤ 1000000000000) : Calls Tryd.prog 61 #[v] w (CloneIs w l) := by
  obtain ⟨i0, hi, hz0, hz1, hz2⟩ := info_parts infoString
  have qT : ∀ (w : World) (a : Option Addr) (n c n' c' : Nat), (binOp .eql 22 (.slice a n c) (.slice none n' c')).run Tryd.prog w = .ok (.bool a.isNone) w := fun w a n c n' c' => Lib.run_eql_slice_nil w _ _ a n c n' c' Tryd.underlying22
  obtain ⟨av, cap, rfl, hc, hc2, hc3, h1⟩ := h
  rcases av with _ | ad
  · have hl : l = [] := List.length_eq_zero_iff.1 (by have := hc3 rfl; omega)
    subst hl
    obtain rfl := hc3 rfl
    clear h1 hc3 hc hc2 hn
    go_enter Tryd.func61, Tryd.ntmps61
    go_wp2
    exact bodyPost_ret (v := .slice none 0 0) (by simp [results, Tryd.results61, go_sem]) rfl ⟨_, rfl, fun _ _ _ => StrsAt.nil _, Below.refl _ _⟩
  · have hnews : Hid (∀ j u, (l.map Value.string)[j]? = some u → w.cell? (ad.add j) = some u ∧ (ad.add j).block < w.heap.size) := Lib.hid (by
      intro j u hj
      rcases h1 with rfl | ⟨g, o, e, hg, hcell⟩
      · simp at hj
      · injection e with e
        subst e
        rw [List.getElem?_map] at hj
        obtain ⟨x, hx, rfl⟩ := Option.map_eq_some_iff.1 hj
        rw [addr_at]
        exact ⟨hcell j x hx, hg⟩)
    have hown0 : (w.alloc (.cells #[] 9)).ownsRow w.heap.size 9 1 (.slice (some ⟨w.heap.size, 0, none⟩) 0 0) 0 [] := own_of (cs := []) (Nat.le_refl _) (Has.new w 9 []) (Nat.le_refl _) (by unfold maxLen; omega) rfl rfl
    have hb0 : Below w.heap.size w (w.alloc (.cells #[] 9)) := (Below.refl _ w).alloc (Nat.le_refl _) _
    obtain ⟨v2, w2, hrun, ho, hg, -, -⟩ := run_append_own_at (P := Tryd.prog) (w := w.alloc (.cells #[] 9)) w.heap.size 22 22 9 i0 (.string ⟨#[]⟩) 1 16 Tryd.underlying22 hi hz0 hz1 hz2 rfl (by decide) _ 0 [] hown0 ad l.length cap (l.map Value.string) (by simp)
      (fun j u hj => (hb0.cell (p := ad.add j) (hnews.out j u hj).2).trans (hnews.out j u hj).1)
      (fun u hu => by obtain ⟨x, _, rfl⟩ := List.mem_map.1 hu; rfl) (by unfold maxLen; omega) (by omega) (by simp)
    have HR := Lib.hid hrun
    have HS : Hid ((∀ W' : World, w2.heap.size ≤ W'.heap.size → (∀ k, w.heap.size ≤ k → k < w2.heap.size → W'.heap[k]? = w2.heap[k]?) → StrsAt W' v2 l) ∧ Below w.heap.size w w2) := Lib.hid ⟨fun W' _ hag => strs_own (own_agree (show w2.ownsRow w.heap.size 9 1 v2 l.length (l.map Value.string) by simpa using ho) hag), hb0.trans ((Keeps.grown hg).toBelow w.heap.size (by simp) (by simp [Value.ownBlock]))⟩
    clear h1 hc3 hrun ho hg hown0 hb0 hnews
    go_enter Tryd.func61, Tryd.ntmps61
    go_wp2_with (at_builtin; refine wpList_append_run (by rfl) (.tmp 5) (.tmp 6) 22 rfl _ _ _ _ rfl rfl HR.out ?_)
    go_ret
    exact ⟨_, rfl, HS.out.1, HS.out.2⟩
end TyD
end Go.Proofs.YthcdbmbimdkcfaaDoor
