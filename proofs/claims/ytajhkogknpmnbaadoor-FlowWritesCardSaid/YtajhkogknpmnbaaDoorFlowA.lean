/- Where a word leads: sorted and compacted lists of at most two. -/
import Derived.Test.YtajhkogknpmnbaaDoorFlow1
import Derived.Test.YtajhkogknpmnbaaDoorShelf
import Derived.Sort.OwnSortedInts
namespace Go.Proofs.YtajhkogknpmnbaaDoor
open Go.RowKit ObjM
namespace FlowD
open InstrM InstrD

def sortL (zs : List Int) : List Int := zs.mergeSort fun x y => decide (x ≤ y)
theorem sortL_len (zs : List Int) : (sortL zs).length = zs.length := List.length_mergeSort zs
theorem sort_own {W : World} {base g cap : Nat} {zs : List Int} (hz : zs.length ≤ 1000000) (h : W.ownsRow base 3 1 (.slice (some ⟨g, 0, none⟩) zs.length cap) zs.length (zs.map (Value.int .i64))) :
    Calls Tryd.prog 21 #[.slice (some ⟨g, 0, none⟩) zs.length cap] W fun e w' => e = .returned (.tuple #[]) ∧ w'.ownsRow base 3 1 (.slice (some ⟨g, 0, none⟩) zs.length cap) zs.length ((sortL zs).map (Value.int .i64)) ∧ Below base W w' := by
  rcases own_shape h with ⟨h1, _⟩ | ⟨g', cap', cs, h1, hb, hh, hnc, hcm, hcl, htk⟩
  · cases h1
  · injection h1 with h2 h3 h4
    injection h2 with h2
    injection h2 with h5
    subst h5 h4
    have hbk : W.heap[g]? = some (.cells cs.toArray 3 (0, 0)) := hh
    have ht2 : cs.toArray.toList.take zs.length = zs.map (Value.int .i64) := by simpa using htk
    refine (Tryd.slices_Sort_int g 0 cap zs W (holds_of_blockI hbk ht2) hh.lt (by omega)).mono ?_
    rintro e w' ⟨rfl, n, os, rfl⟩
    exact ⟨rfl, ownsRow_sortedI (List.length_mergeSort zs) hb hbk hnc hcm (by simpa using hcl), (Keeps.grown (grownBy_sortedI _)).toBelow base (Nat.le_trans hb (Nat.le_of_lt hh.lt)) (by intro x hx; simp at hx; omega)⟩
theorem compact_own {W : World} {base g cap : Nat} {zs : List Int} (hl : (Lib.compact zs).length ≤ zs.length) (h : W.ownsRow base 3 1 (.slice (some ⟨g, 0, none⟩) zs.length cap) zs.length (zs.map (Value.int .i64))) :
    Calls Tryd.prog 22 #[.slice (some ⟨g, 0, none⟩) zs.length cap] W fun e w' => e = .returned (.slice (some ⟨g, 0, none⟩) (Lib.compact zs).length cap) ∧ w'.ownsRow base 3 1 (.slice (some ⟨g, 0, none⟩) (Lib.compact zs).length cap) (Lib.compact zs).length ((Lib.compact zs).map (Value.int .i64)) ∧ Below base W w' := by
  rcases own_shape h with ⟨h1, _⟩ | ⟨g', cap', cs, h1, hb, hh, hnc, hcm, hcl, htk⟩
  · cases h1
  · injection h1 with h2 h3 h4
    injection h2 with h2
    injection h2 with h5
    subst h5 h4
    have hbk : W.heap[g]? = some (.cells cs.toArray 3 (0, 0)) := hh
    have ht2 : cs.toArray.toList.take zs.length = zs.map (Value.int .i64) := by simpa using htk
    refine (Tryd.slices_Compact_int g 0 cap zs W (holds_of_blockI hbk ht2) (by unfold maxLen at hcm; omega) hnc).mono ?_
    rintro e w' ⟨rfl, q, rfl⟩
    have ho : (Go.Sort.putRow (Value.int .i64) (Go.Sort.ahead W q) g 0 (Lib.compact zs ++ List.replicate (zs.length - (Lib.compact zs).length) 0).toArray).ownsRow base 3 1 (.slice (some ⟨g, 0, none⟩) zs.length cap) zs.length ((Lib.compact zs ++ List.replicate (zs.length - (Lib.compact zs).length) 0).map (Value.int .i64)) := by
      have h := ownsRow_sortedI (n := q) (os := #[]) (ts := Lib.compact zs ++ List.replicate (zs.length - (Lib.compact zs).length) 0) (ss := zs) (by simp; omega) hb hbk hnc hcm (by simpa using hcl)
      rwa [Go.Sort.grow_empty] at h
    have hk : W.grownBy (Go.Sort.putRow (Value.int .i64) (Go.Sort.ahead W q) g 0 (Lib.compact zs ++ List.replicate (zs.length - (Lib.compact zs).length) 0).toArray) (some g) := by
      have h := grownBy_sortedI (w := W) (g := g) (n := q) (os := #[]) (Lib.compact zs ++ List.replicate (zs.length - (Lib.compact zs).length) 0).toArray
      rwa [Go.Sort.grow_empty] at h
    refine ⟨rfl, ?_, (Keeps.grown hk).toBelow base (Nat.le_trans hb (Nat.le_of_lt hh.lt)) (by intro x hx; simp at hx; omega)⟩
    have h9 := own_take ho hl
    simpa using h9
theorem compact_one (a : Int) : Lib.compact [a] = [a] := by
  simp [Lib.compact, Lib.compactUpTo, Lib.keeps]
theorem compact_two (a b : Int) : Lib.compact [a, b] = if a = b then [a] else [a, b] := by
  by_cases h : a = b
  · subst h
    simp [Lib.compact, Lib.compactUpTo, Lib.keeps, List.range_succ]
  · have h2 : ¬ b = a := fun e => h e.symm
    simp [Lib.compact, Lib.compactUpTo, Lib.keeps, List.range_succ, h, h2]
theorem sort_two (a b : Int) : sortL [a, b] = if a ≤ b then [a, b] else [b, a] := by
  unfold sortL
  by_cases h : a ≤ b
  · rw [if_pos h]
    simp [List.mergeSort, List.MergeSort.Internal.splitInTwo, h]
  · rw [if_neg h]
    simp [List.mergeSort, List.MergeSort.Internal.splitInTwo, h]
theorem sc_one (a : Int) : Lib.compact (sortL [a]) = [a] := by
  have e : sortL [a] = [a] := by simp [sortL]
  rw [e, compact_one]
theorem sc_two (a b : Int) : Lib.compact (sortL [a, b]) = if a = b then [a] else [min a b, max a b] := by
  rw [sort_two]
  by_cases h : a ≤ b
  · rw [if_pos h, compact_two, show min a b = a by omega, show max a b = b by omega]
  · rw [if_neg h, compact_two, if_neg (by omega), if_neg (by omega), show min a b = b by omega, show max a b = a by omega]
end FlowD
end Go.Proofs.YtajhkogknpmnbaaDoor
namespace Go.Proofs.YtajhkogknpmnbaaDoor
open Go.RowKit ObjM
namespace FlowD
open InstrM InstrD

/-- The first places are within the function, or behind it. -/
def clampT (N k : Nat) (zs : List Int) : List Int := (zs.take k).map (plV N) ++ zs.drop k
theorem clamp_len (N k : Nat) (zs : List Int) : (clampT N k zs).length = zs.length := by
  simp [clampT]
  omega
theorem clamp_set {N k : Nat} {zs : List Int} (hk : k < zs.length) : clampT N (k + 1) zs = (clampT N k zs).set k (plV N zs[k]) := by
  unfold clampT
  have hm : k - ((zs.take k).map (plV N)).length = 0 := by simp; omega
  rw [List.take_succ_eq_append_getElem hk, List.drop_eq_getElem_cons hk, List.set_append_right _ _ (by simp; omega), hm, List.set_cons_zero, List.map_append, List.append_assoc]
  rfl
theorem clamp_get {N k : Nat} {zs : List Int} (hk : k < zs.length) : (clampT N k zs)[k]? = some zs[k] := by
  unfold clampT
  rw [List.getElem?_append_right (by simp; omega)]
  have : min k zs.length = k := by omega
  simp [this]
theorem clamp_same {N k : Nat} {zs : List Int} (hk : k < zs.length) (h : plV N zs[k] = zs[k]) : clampT N (k + 1) zs = clampT N k zs := by
  rw [clamp_set hk, h]
  apply List.ext_getElem?
  intro i
  rw [List.getElem?_set]
  by_cases hi : k = i
  · subst hi
    rw [if_pos rfl, clamp_get hk, if_pos (by rw [clamp_len]; exact hk)]
  · rw [if_neg hi]
theorem clamp_all {N : Nat} {zs : List Int} : clampT N zs.length zs = zs.map (plV N) := by simp [clampT]
theorem sc_len {N : Nat} {zs : List Int} (h : zs.length ≤ 2) : (Lib.compact (sortL (zs.map (plV N)))).length ≤ zs.length := by
  rcases zs with _ | ⟨a, _ | ⟨b, _ | ⟨c, r⟩⟩⟩
  · simp [sortL, Lib.compact, Lib.compactUpTo]
  · rw [List.map_cons, List.map_nil, sc_one]
    simp
  · rw [List.map_cons, List.map_cons, List.map_nil, sc_two]
    split <;> simp
  · simp at h
/-- A list of places that is gone through. -/
def AtL (W1 wr : World) (b G n N k : Nat) (zs : List Int) : Prop := wr.ownsRow b 3 1 (.slice (some ⟨G, 0, none⟩) n n) n ((clampT N k zs).map (Value.int .i64)) ∧ Below b W1 wr
theorem AtL.cell {W1 wr : World} {b G n N k : Nat} {zs : List Int} (h : AtL W1 wr b G n N k zs) (hk : k < zs.length) : wr.cell? ⟨G, k, none⟩ = some (.int .i64 zs[k]) := by
  have hl : k < ((clampT N k zs).map (Value.int .i64)).length := by
    rw [List.length_map, clamp_len]
    exact hk
  rw [own_cell h.1 k hl]
  have := clamp_get (N := N) hk
  rw [List.getElem_map]
  congr 2
  rw [List.getElem?_eq_getElem (by rw [clamp_len]; exact hk)] at this
  exact Option.some.inj this
theorem AtL.lt {W1 wr : World} {b G n N k : Nat} {zs : List Int} (h : AtL W1 wr b G n N k zs) : b ≤ G ∧ G < wr.heap.size := own_lt h.1 G rfl
theorem AtL.set {W1 wr : World} {b G n N k : Nat} {zs : List Int} (h : AtL W1 wr b G n N k zs) (hk : k < zs.length) (hv : plV N zs[k] = -1) : AtL W1 (wr.setCell ⟨G, k, none⟩ (.int .i64 (-1))) b G n N (k + 1) zs := by
  have hs := h.1.stored k (.int .i64 (-1))
  refine ⟨?_, h.2.setCell h.lt.1 _⟩
  rw [clamp_set hk, hv, List.map_set]
  exact hs.1
theorem AtL.stay {W1 wr : World} {b G n N k : Nat} {zs : List Int} (h : AtL W1 wr b G n N k zs) (hk : k < zs.length) (hv : plV N zs[k] = zs[k]) : AtL W1 wr b G n N (k + 1) zs := by
  refine ⟨?_, h.2⟩
  rw [clamp_same hk hv]
  exact h.1
theorem atl_one {W1 W : World} {b N : Nat} (hb : Below b W1 W) (hw : b ≤ W.heap.size) (x : Int) {G : Nat} (hG : W.heap.size = G) : AtL W1 (W.alloc (.cells #[.int .i64 x] 3)) b G 1 N 0 [x] := by
  subst hG
  exact ⟨own_base (one_int W x) hw, hb.alloc hw _⟩
theorem atl_two {W1 W : World} {b N : Nat} (hb : Below b W1 W) (hw : b ≤ W.heap.size) (x y : Int) {G : Nat} (hG : W.heap.size = G) : AtL W1 (W.alloc (.cells #[.int .i64 x, .int .i64 y] 3)) b G 2 N 0 [x, y] := by
  subst hG
  exact ⟨own_base (two_int W x y) hw, hb.alloc hw _⟩
/-- What is left of a list when it is sorted and compacted. -/
theorem atl_sort {w W1 wr : World} {G n N : Nat} {zs : List Int} (hn : n = zs.length) (hz : zs.length ≤ 2) (hb1 : Below w.heap.size w W1) (h : AtL W1 wr (w.heap.size + 1) G n N n zs) :
    Calls Tryd.prog 21 #[.slice (some ⟨G, 0, none⟩) n n] wr fun e w' => e = .returned (.tuple #[]) ∧ Hid (w'.ownsRow (w.heap.size + 1) 3 1 (.slice (some ⟨G, 0, none⟩) n n) n ((sortL (zs.map (plV N))).map (Value.int .i64)) ∧ Below w.heap.size w w') := by
  subst hn
  obtain ⟨h1, h2⟩ := h
  rw [clamp_all] at h1
  have e : zs.length = (zs.map (plV N)).length := by simp
  have hg := sort_own (g := G) (cap := zs.length) (zs := zs.map (plV N)) (W := wr) (base := w.heap.size + 1) (by simp; omega) (by rw [← e]; exact h1)
  rw [← e] at hg
  refine hg.mono ?_
  rintro x w' ⟨rfl, ho, hb⟩
  exact ⟨rfl, Lib.hid ⟨ho, hb1.trans ((h2.trans hb).mono (by omega))⟩⟩
theorem atl_compact {w wr : World} {G n N : Nat} {zs R : List Int} (hn : n = zs.length) (hR : Lib.compact (sortL (zs.map (plV N))) = R) (hl : R.length ≤ zs.length) (h : wr.ownsRow (w.heap.size + 1) 3 1 (.slice (some ⟨G, 0, none⟩) n n) n ((sortL (zs.map (plV N))).map (Value.int .i64)) ∧ Below w.heap.size w wr) :
    Calls Tryd.prog 22 #[.slice (some ⟨G, 0, none⟩) n n] wr fun e w' => ∃ v, e = .returned v ∧ Hid (IntsIs w R (.returned v) w') := by
  subst hn
  have e : zs.length = (sortL (zs.map (plV N))).length := by rw [sortL_len]; simp
  have hg := compact_own (g := G) (cap := zs.length) (zs := sortL (zs.map (plV N))) (W := wr) (base := w.heap.size + 1) (by rw [hR, ← e]; exact hl) (by rw [← e]; exact h.1)
  rw [← e, hR] at hg
  refine hg.mono ?_
  rintro x w' ⟨rfl, ho, hb⟩
  exact ⟨_, rfl, Lib.hid ⟨_, rfl, own_base ho (by omega), h.2.trans (hb.mono (by omega))⟩⟩
end FlowD
end Go.Proofs.YtajhkogknpmnbaaDoor
