/- The places of a set, collected. -/
import Derived.Test.YtajhkogknpmnbaaDoorFlowZ3
namespace Go.Proofs.YtajhkogknpmnbaaDoor
open Go.RowKit ObjM Go.Shelf
namespace FlowD
open FlowM LabelM LabelD
attribute [local go_sem] Oper.semAt_some

def plsV {L : List Nat} (ys : List (Pl L)) : List Value := ys.map fun y => Value.int .i64 (y.val : Int)
theorem plsV_all {L : List Nat} {ys : List (Pl L)} (h : ys.map (·.val) = L) : plsV ys = (L.map fun (x : Nat) => (x : Int)).map (Value.int .i64) ∧ ys.length = (L.map fun (x : Nat) => (x : Int)).length := by
  refine ⟨?_, by have := congrArg List.length h; simpa using this⟩
  unfold plsV
  have h2 := congrArg (List.map fun (x : Nat) => Value.int .i64 (x : Int)) h
  rw [List.map_map] at h2
  rw [List.map_map]
  exact h2
set_option maxRecDepth 100000 in
set_option maxHeartbeats 2000000 in
theorem appendSeq_in (Bn G c k : Nat) (ws L : List Nat) (hk : ws.length = k) (hk4 : k ≤ 4) (hws : ∀ x ∈ ws, x < M64) (hL : posOf 0 ws = L) (hlen : L.length ≤ 1000) (w : World) (hBn : Bn < w.heap.size) (hG : G < w.heap.size)
    (hc : w.cell? ⟨Bn, 0, none⟩ = some (.slice (some ⟨G, 0, none⟩) k c)) (hcG : ∀ (i x : Nat), ws[i]? = some x → w.cell? ⟨G, i, none⟩ = some (.int .u64 (x : Int))) (hT : Bru w) (hg : 0 < w.heap.size) :
    CallsIn Fence.wide 3 Tryd.prog 57 #[.slice none 0 0, .func (.func 58) #[] #[.pointer (some ⟨Bn, 0, none⟩)]] w fun e W' => ∃ v, e = .returned v ∧ W'.ownsRow w.heap.size 3 1 v (L.map fun (x : Nat) => (x : Int)).length ((L.map fun (x : Nat) => (x : Int)).map (Value.int .i64)) ∧ Below w.heap.size w W' := by
  obtain ⟨i0, hi, hz0, hz1, hz2⟩ := info_parts infoInt
  refine callsIn_of_wp_marks Tryd.func57 rfl trivial ?_ rfl
  simp only [Tryd.ntmps57, List.size_toArray, List.length_cons, List.length_nil, Nat.reduceAdd, Nat.reduceSub, Array.replicate_succ, Array.replicate_zero, List.push_toArray, List.append_toArray, List.nil_append, List.cons_append]
  gi_wp2
  have bO := Boxed.new w 26 (.slice none 0 0)
  have hB0 : Below w.heap.size w (w.alloc (.cells #[.slice none 0 0] 26)) := (Below.refl _ w).alloc (Nat.le_refl _) _
  have hT2 : Bru (w.alloc (.cells #[.slice none 0 0] 26)) := fun j hj => (hB0.cell (p := ⟨_, j, none⟩) hg).trans (hT j hj)
  refine wpIn_rangeFunc_ownG rfl (by omega) (gf := 58) (lb := #[.pointer (some ⟨Bn, 0, none⟩)]) rfl trivial (enters_of Tryd.func58 (by kernel_rfl) rfl)
    (places_stops 2 (by omega) Bn G c w.heap.size k ws L hk hk4 hws hL _ (by simp; omega) (by simp; omega) hG (by simp) hg ((hB0.cell (p := ⟨Bn, 0, none⟩) hBn).trans hc) (fun i x h => (hB0.cell (p := ⟨G, i, none⟩) hG).trans (hcG i x h)) hT2) belowK_t (belowK_b (by simp)) (Below.refl _ _) (fun _ => rfl)
    (fun pre W => (∃ v, Boxed W w.heap.size 26 v ∧ W.ownsRow w.heap.size 3 1 v pre.length (plsV pre) ∧ True) ∧ Below w.heap.size w W)
    (fun _ _ _ => False)
    (OwnFrom.and (Own.from (holdsRow_own w.heap.size w.heap.size 26 3 1 (fun pre => pre.length) (fun pre => plsV pre) (fun _ _ => True)) _) (ownFrom_below (Nat.le_refl _) (by simp)))
    (fun _ _ _ _ _ hs _ _ => hs)
    ⟨⟨_, bO, World.ownsRow_nil _ _ _ _, trivial⟩, hB0⟩
    (fun x => { tmps := #[.slice none 0 0, .func (.func 58) #[] #[.pointer (some ⟨Bn, 0, none⟩)], .pointer (some ⟨w.heap.size, 0, none⟩), undef, .slice none 0 0, .int .i64 (x.val : Int), .func (.func 58) #[] #[.pointer (some ⟨Bn, 0, none⟩)], .int .i64 (x.val : Int), undef, undef, undef, undef, undef], defers := [] }) ?assign ?body ?done ?stop
  case assign =>
    intro l x W K hK
    gi_wp2
    exact hK
  case body =>
    rintro l pre x W ⟨⟨v, hv, hrow, -⟩, hB⟩ hlt
    have hc := hv.cell
    gi_wp2_with (gi_at_builtin; refine wpListIn_append_own _ rfl _ _ 26 rfl w.heap.size 3 i0 (.int .i64 0) 1 8 Tryd.underlying26 hi hz0 hz1 hz2 rfl (by decide) _ _ _ rfl (hrow.alloc _) ⟨W.heap.size, 0, none⟩ 1 1 [.int .i64 (x.val : Int)] rfl rfl (cell_one_new _ _ _) (by simp [Value.oneCell']) (by unfold maxLen; omega) (by omega) (by have := hB.size; simp; omega) ?_; intro v' w1 hown' hgrow _; obtain ⟨g', cap', rfl⟩ := ownsRow_succ hown'; obtain ⟨hv1, hv2, hr2, hk2, hb2⟩ := hv.appended (by decide) hrow hB.size (Nat.le_refl _) hown' hgrow; have hc1 := hv1.cell; have hf1 := hv1.frozen)
    exact ⟨hk2.from _, hb2, ⟨_, hv2, by simpa [plsV] using hr2, trivial⟩, hB.trans hb2⟩
  case done =>
    rintro D ys W hD hys ⟨⟨v, hv, hrow, -⟩, hB⟩ hK
    have hc := hv.cell
    obtain ⟨e1, e2⟩ := plsV_all hys
    rw [e1, e2] at hrow
    gi_wp2
    refine ⟨by simp, .inl ⟨_, _, rfl, run_takeDeferred hK, ?_⟩⟩
    exact ⟨_, results_tmp rfl _ _ _, v, rfl, ownsRow_putObj hrow _ hK rfl, hB.trans (belowK_b (w := w) (Nat.le_refl _) W D _ _ (by simp at hD; omega) hK rfl rfl)⟩
  case stop =>
    rintro D c pre W _ _ h _
    exact h.elim
/-- The numbers in a row of its own. -/
def RegsIs (w : World) (R : List Int) (e : Ending) (w' : World) : Prop := ∃ v, e = .returned v ∧ w'.ownsRow w.heap.size 3 1 v R.length (R.map (Value.int .i64)) ∧ Below w.heap.size w w'
set_option maxRecDepth 100000 in
theorem collect_any (Bn G c : Nat) (xs : List Nat) (w : World) (hs : Set4 w G xs) (hBn : Has w Bn 54 [.slice (some ⟨G, 0, none⟩) 4 c]) (hT : Bru w) (hg : 0 < w.heap.size) :
    Calls Tryd.prog 38 #[.func (.func 58) #[] #[.pointer (some ⟨Bn, 0, none⟩)]] w (RegsIs w (regsL (bitX xs))) := by
  have HA : Hid (Calls Tryd.prog 57 #[.slice none 0 0, .func (.func 58) #[] #[.pointer (some ⟨Bn, 0, none⟩)]] w (RegsIs w (regsL (bitX xs)))) := Lib.hid (by
    have hp := pos_four hs.len
    have h := callsIn_wide.1 (appendSeq_in Bn G c 4 xs _ hs.len (Nat.le_refl _) hs.lt hp (Nat.le_trans (List.length_filter_le _ _) (by simp)) w hBn.lt hs.h.lt (hBn.cell 0) (fun i x h => by
      rw [hs.h.cell]
      unfold wordsV
      rw [List.getElem?_map, h]
      rfl) hT hg)
    exact h)
  clear hs hBn hT hg
  go_enter Tryd.func38, Tryd.ntmps38
  go_wp2_with fail
  refine HA.out.mono ?_
  rintro e w2 ⟨v, rfl, ho, hb⟩
  have HE : Hid (RegsIs w (regsL (bitX xs)) (.returned v) w2) := Lib.hid ⟨v, rfl, ho, hb⟩
  obtain ⟨a, k, c, rfl⟩ := own_slice_of ho
  clear HA ho hb
  go_wp2
  go_ret
  exact HE.out
theorem places_any (a : Option Addr) (k c : Nat) (w : World) : Calls Tryd.prog 39 #[.slice a k c] w fun e w' => e = .returned (.func (.func 58) #[] #[.pointer (some ⟨w.heap.size, 0, none⟩)]) ∧ w' = w.alloc (.cells #[.slice a k c] 54) := callsIn_wide.1 (places_in 1 a k c w)
end FlowD
end Go.Proofs.YtajhkogknpmnbaaDoor
