/- A text that grows, part by part (plain). -/
import Derived.Test.YtmcnoagihnkkcaaDoorTyTextW
import Derived.Test.YtmcnoagihnkkcaaDoorTyRef
namespace Go.Proofs.YtmcnoagihnkkcaaDoor
open Go.RowKit ObjM
namespace TyD
open LexD (nameB WTab)

theorem ba_ext {a b : ByteArray} (h : a.data.toList = b.data.toList) : a = b := by
  cases a with
  | mk a => cases b with
    | mk b =>
      congr
      exact Array.toList_inj.1 h
theorem ba_append (a b : ByteArray) : (a ++ b).data.toList = a.data.toList ++ b.data.toList := by
  rw [ByteArray.data_append, Array.toList_append]
theorem join_list (xs : List ByteArray) (sep : ByteArray) : (joinB xs sep).data.toList = Lib.join (xs.map (·.data.toList)) sep.data.toList := by
  unfold joinB
  rw [List.toList_toArray]
theorem jstep0 (x sep : ByteArray) : (⟨#[]⟩ : ByteArray) ++ x = joinB [x] sep := by
  apply ba_ext
  rw [ba_append, join_list, List.map_cons, List.map_nil, Lib.join_one]
  rfl
theorem jstep {xs : List ByteArray} (h : xs ≠ []) (x sep : ByteArray) : joinB xs sep ++ sep ++ x = joinB (xs ++ [x]) sep := by
  apply ba_ext
  rw [ba_append, ba_append, join_list, join_list]
  cases xs with
  | nil => exact absurd rfl h
  | cons y r =>
    rw [List.cons_append, List.map_cons, List.map_cons, Lib.join_cons, Lib.join_cons, List.map_append]
    unfold Lib.joinTail
    simp
theorem joinB_nil (sep : ByteArray) : joinB [] sep = ⟨#[]⟩ := rfl
theorem take_sum (l : List ByteArray) (k : Nat) : sumL ((l.take k).map ByteArray.size) ≤ sumL (l.map ByteArray.size) := by
  induction l generalizing k with
  | nil => simp [sumL]
  | cons a l ih =>
    cases k with
    | zero => simp [sumL]
    | succ k =>
      have h := ih k
      simp only [List.take_succ_cons, List.map_cons, sumL, List.foldr_cons] at h ⊢
      omega
theorem jsize (es : List ByteArray) (sep : ByteArray) (k : Nat) : (joinB (es.take k) sep).size ≤ sep.size * es.length + sumL (es.map ByteArray.size) := by
  have h1 := joinB_size (es.take k) sep
  have h2 := take_sum es k
  have h3 : (es.take k).length ≤ es.length := by rw [List.length_take]; omega
  have h4 := Nat.mul_le_mul_left sep.size h3
  omega
theorem jtake {es : List ByteArray} {sep : ByteArray} {k : Nat} (hk : k < es.length) : (k = 0 → (⟨#[]⟩ : ByteArray) ++ es[k] = joinB (es.take (k + 1)) sep) ∧ (0 < k → joinB (es.take k) sep ++ sep ++ es[k] = joinB (es.take (k + 1)) sep) := by
  have e : es.take (k + 1) = es.take k ++ [es[k]] := by rw [List.take_add_one, List.getElem?_eq_getElem hk]; rfl
  refine ⟨fun h => ?_, fun h => ?_⟩
  · subst h
    rw [e, List.take_zero, List.nil_append]
    exact jstep0 _ _
  · rw [e]
    refine jstep (fun h2 => ?_) _ _
    have := congrArg List.length h2
    rw [List.length_take, List.length_nil] at this
    omega
end TyD
end Go.Proofs.YtmcnoagihnkkcaaDoor
