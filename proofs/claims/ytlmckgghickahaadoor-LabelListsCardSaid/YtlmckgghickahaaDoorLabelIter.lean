/- The iterator over a label's principals. -/
import Derived.Test.YtlmckgghickahaaDoorLabel
import Derived.Test.YtlmckgghickahaaDoorLabelBits
import Derived.Shelf.Spec.TrailingZeros
import Derived.RangeFuncBox
import Derived.RangeFuncLeaves
import Derived.RangeFuncCalls
import Derived.OwnWalkIn
import Derived.TacticsInMore
import Derived.LoopNIn
import Derived.LoopIn
import Derived.Maps.AppendAt
namespace Go.Proofs.YtlmckgghickahaaDoor
open Go.RowKit Go.Shelf
namespace LabelD
open LabelM
attribute [local go_sem] Oper.semAt_some

set_option maxHeartbeats 1000000 in
theorem members_in (n : Nat) (l : Nat) (w : World) :
    CallsIn Fence.wide n Tryd.prog 28 #[.int .u64 l] w fun e w' => e = .returned (.func (.func 36) #[] #[.pointer (some ⟨w.heap.size, 0, none⟩)]) ∧ w' = w.alloc (.cells #[.int .u64 l] 24) := by
  refine callsIn_of_wp Tryd.func28 rfl trivial ?_ rfl
  simp only [Tryd.ntmps28, List.size_toArray, List.length_cons, List.length_nil, Nat.reduceAdd, Nat.reduceSub, Array.replicate_succ, Array.replicate_zero, List.push_toArray, List.append_toArray, List.nil_append, List.cons_append]
  gi_wp2
  go_ret
  exact ⟨rfl, rfl⟩

set_option maxHeartbeats 1000000 in
theorem tz_core (x k idx : Nat) (w : World) (hx0 : ((x : Int) == 0) = false)
    (key : IntKind.u64.wrap (bits BinOp.and IntKind.u64 (x : Int) (IntKind.u64.wrap (-(x : Int))) * 285870213051353865) / 288230376151711744 = (idx : Int))
    (hi : idx < 64) (hk : k < 64) (hcell : w.cell? ⟨0, idx, none⟩ = some (.int .u8 k)) :
    Calls Tryd.prog 37 #[.int .u64 x] w fun e w' => e = .returned (.int .i64 k) ∧ w' = w := by
  go_enter Tryd.func37, Tryd.ntmps37
  go_wp2_with (simp only [key])
  go_ret
  exact ⟨rfl, rfl⟩
abbrev Bru (w : World) : Prop := TabAt 0 Lib.deBruijn64tab w
theorem tz_any (x : Nat) (h0 : x ≠ 0) (hx : x < 18446744073709551616) (w : World) (hT : Bru w) :
    Calls Tryd.prog 37 #[.int .u64 x] w fun e w' => e = .returned (.int .i64 (Lib.ctz 64 x)) ∧ w' = w := by
  obtain ⟨hlow, hk⟩ := Lib.lowest_bit 64 x h0 hx
  obtain ⟨hi, htab⟩ := Lib.deBruijn64_at _ hk
  have hcell := hT _ hi
  rw [htab] at hcell
  exact tz_core x _ _ w (by simpa using h0) (tz64_key x _ hx h0 hlow) hi hk hcell
theorem andPred {x : Nat} (h0 : x ≠ 0) (hx : x < M64) : bits .and .u64 (x : Int) (IntKind.u64.wrap ((x : Int) - 1)) = ((x &&& (x - 1) : Nat) : Int) := by
  have hx2 : x < 18446744073709551616 := hx
  have e : IntKind.u64.wrap ((x : Int) - 1) = ((x - 1 : Nat) : Int) := by rw [IntKind.wrap_u64]; omega
  rw [e, u64_and_nat _ _ hx2 (by omega)]

set_option maxRecDepth 100000 in
set_option maxHeartbeats 1000000 in
theorem members1_in (n : Nat) (hn : 1 ≤ n) (l Bn n₀ : Nat) (L : Nat) (hL : L < M64) (J Jx : List (Fin 64) → World → Prop)
    (hY : ∀ pre x W, J pre W → pre.length < (finsL L).length → YieldAt Fence.wide (n - 1) Tryd.prog l #[.int .i64 ((x : Fin 64).val : Int)] W fun e W' =>
      (e = .returned (.bool true) ∧ J (pre ++ [x]) W' ∧ Below n₀ W W') ∨ (e = .returned (.bool false) ∧ Jx (pre ++ [x]) W'))
    (W : World) (hBn : W.cell? ⟨Bn, 0, none⟩ = some (.int .u64 L)) (hT : Bru W) (hn₀ : 0 < n₀) (h0 : J [] W) :
    CallsIn Fence.wide n Tryd.prog 36 #[.func (.yield l) #[] #[], .pointer (some ⟨Bn, 0, none⟩)] W fun e W' => (∃ v, e = .returned v) ∧
      ((∃ ys, ys = finsL L ∧ J ys W') ∨ (∃ pre, pre <+: finsL L ∧ Jx pre W')) := by
  refine callsIn_of_wp Tryd.func36 rfl trivial ?_ rfl
  simp only [Tryd.ntmps36, List.size_toArray, List.length_cons, List.length_nil, Nat.reduceAdd, Nat.reduceSub, Array.replicate_succ, Array.replicate_zero, List.push_toArray, List.append_toArray, List.nil_append, List.cons_append]
  gi_wp2
  gi_loopw [3] (fun rv wr => ∃ (pre : List (Fin 64)) (x : Nat), rv = .int .u64 x ∧ x < M64 ∧ Hid (finsL L = pre ++ finsL x) ∧ J pre wr ∧ Hid (Bru wr)) (fun rv _ => (finsL (intOf rv).toNat).length)
  case atStart =>
    exact ⟨[], L, rfl, hL, rfl, h0, hT⟩
  case round =>
    obtain ⟨pre, x, rfl, hx, hfx, hJs, hTr⟩ := hrel
    by_cases hz : x = 0
    · subst hz
      have he := hfx.out
      rw [finsL_zero, List.append_nil] at he
      have He := Lib.hid he
      clear he hfx
      gi_wp2
      go_end0
      exact ⟨⟨_, rfl⟩, .inl ⟨pre, He.out.symm, hJs⟩⟩
    · obtain ⟨m, hm, hnx⟩ := finsL_next hz hx
      have hlen : pre.length < (finsL L).length := by rw [hfx.out, hnx]; simp
      obtain ⟨fn, tmps, assign, body, hy, hR⟩ := hY pre m wr hJs hlen
      have hc := tz_any x hz hx wr hTr.out
      rw [hm] at hc
      have HC := Lib.hid hc
      have hap := andPred hz hx
      have HA := Lib.hid hap
      have HN := Lib.hid hnx
      have hxz : ((x : Int) == 0) = false := by simpa using hz
      have hxz2 : ((x : Int) != 0) = true := by simpa using hz
      clear hc hm hap hnx
      gi_wp2_with (refine ⟨trivial, ?_⟩; gi_at_call 37; refine (callsIn_wide.2 HC.out).mono ?_; rintro e w' ⟨rfl, rfl⟩)
      refine hR.mono ?_
      rintro e W3 (⟨rfl, hJ3, hk3⟩ | ⟨rfl, hJx3⟩)
      · gi_wp2
        rw [HA.out]
        go_roundw
        case rel => exact ⟨pre ++ [m], x &&& (x - 1), rfl, and_lt hx, by show finsL L = _; rw [hfx.out, HN.out]; simp, hJ3, fun j hj => (hk3.cell (p := ⟨_, j, none⟩) hn₀).trans (hTr.out j hj)⟩
        case measure =>
          have e1 : (intOf (Value.int .u64 ((x &&& (x - 1) : Nat) : Int))).toNat = x &&& (x - 1) := rfl
          have e2 : (intOf (Value.int .u64 (x : Int))).toNat = x := rfl
          rw [e1, e2, HN.out]
          simp
      · gi_wp2
        refine bodyPost_ret (results_none rfl _ _ _) rfl ?_
        exact ⟨⟨_, rfl⟩, .inr ⟨pre ++ [m], ⟨finsL (x &&& (x - 1)), by rw [hfx.out, HN.out]; simp⟩, hJx3⟩⟩

theorem members_stops (n : Nat) (hn : 1 ≤ n) (Bn n₀ : Nat) (L : Nat) (hL : L < M64) (w : World) (hBn : Bn < w.heap.size) (hn₀ : n₀ ≤ w.heap.size) (hg : 0 < n₀)
    (hc : w.cell? ⟨Bn, 0, none⟩ = some (.int .u64 L)) (hT : Bru w) :
    SeqStopsK Fence.wide n Tryd.prog 36 #[.pointer (some ⟨Bn, 0, none⟩)] (fun x : Fin 64 => #[Value.int .i64 (x.val : Int)]) (Below n₀) (fun ys => ys = finsL L) (fun pre => pre <+: finsL L) (finsL L).length w := fun l J Jx W hW _ _ hY h0 =>
  members1_in n hn l Bn n₀ L hL J Jx hY W ((hW.cell (p := ⟨Bn, 0, none⟩) hBn).trans hc) (fun j hj => (hW.cell (p := ⟨_, j, none⟩) (Nat.lt_of_lt_of_le hg hn₀)).trans (hT j hj)) hg h0

theorem infoInt : (Tryd.prog.info? 3).map (fun i => (i.zero, i.size, i.bytes)) = some (some (.int .i64 0), 1, 8) := by kernel_rfl
theorem finsL_len (L : Nat) : (finsL L).length ≤ 64 := by
  unfold finsL
  have := List.length_filter_le (fun i : Fin 64 => L.testBit i.val) (List.finRange 64)
  simpa using this
/-- A label's principals, as numbers. -/
def listV (ys : List (Fin 64)) : List Value := ys.map fun y => Value.int .i64 (y.val : Int)

set_option maxRecDepth 100000 in
set_option maxHeartbeats 2000000 in
theorem list_in (L : Nat) (hL : L < M64) (w : World) (hT : Bru w) (hg : 0 < w.heap.size) :
    CallsIn Fence.wide 3 Tryd.prog 19 #[.int .u64 L] w fun e W' => ∃ v, e = .returned v ∧ W'.ownsRow w.heap.size 3 1 v (finsL L).length (listV (finsL L)) ∧ Below w.heap.size w W' := by
  obtain ⟨i0, hi, hz0, hz1, hz2⟩ := info_parts infoInt
  refine callsIn_of_wp_marks Tryd.func19 rfl trivial ?_ rfl
  simp only [Tryd.ntmps19, List.size_toArray, List.length_cons, List.length_nil, Nat.reduceAdd, Nat.reduceSub, Array.replicate_succ, Array.replicate_zero, List.push_toArray, List.append_toArray, List.nil_append, List.cons_append]
  gi_wp2_with (refine ⟨trivial, ?_⟩; gi_at_call 28; refine (members_in _ _ _).mono ?_; rintro e w' ⟨rfl, rfl⟩)
  have bO := Boxed.new w 30 (.slice none 0 0)
  have bN := Boxed.new (w.alloc (.cells #[.slice none 0 0] 30)) 24 (.int .u64 L)
  rw [World.size_alloc] at bN
  have hB0 : Below w.heap.size w ((w.alloc (.cells #[.slice none 0 0] 30)).alloc (.cells #[.int .u64 L] 24)) := ((Below.refl _ w).alloc (Nat.le_refl _) _).alloc (by simp) _
  have hT2 : Bru ((w.alloc (.cells #[.slice none 0 0] 30)).alloc (.cells #[.int .u64 L] 24)) := fun j hj => (hB0.cell (p := ⟨_, j, none⟩) hg).trans (hT j hj)
  have hl64 := finsL_len L
  refine wpIn_rangeFunc_ownG rfl (by omega) (gf := 36) (lb := #[.pointer (some ⟨w.heap.size + 1, 0, none⟩)]) rfl trivial (enters_of Tryd.func36 (by kernel_rfl) rfl)
    (members_stops 2 (by omega) (w.heap.size + 1) w.heap.size L hL _ (by simp) (by simp; omega) hg bN.cell hT2) belowK_t (belowK_b (by simp; omega)) (Below.refl _ _) (fun _ => rfl)
    (fun pre W => (∃ v, Boxed W w.heap.size 30 v ∧ W.ownsRow w.heap.size 3 1 v pre.length (listV pre) ∧ True) ∧ Below w.heap.size w W)
    (fun _ _ _ => False)
    (OwnFrom.and (Own.from (holdsRow_own w.heap.size w.heap.size 30 3 1 (fun pre => pre.length) (fun pre => listV pre) (fun _ _ => True)) _) (ownFrom_below (Nat.le_refl _) (by simp; omega)))
    (fun _ _ _ _ _ hs _ _ => hs)
    ⟨⟨_, bO.alloc _, World.ownsRow_nil _ _ _ _, trivial⟩, hB0⟩
    (fun x => { tmps := #[.int .u64 L, undef, .slice none 0 0, .pointer (some ⟨w.heap.size, 0, none⟩), .int .i64 (x.val : Int), .int .u64 L, .func (.func 36) #[] #[.pointer (some ⟨w.heap.size + 1, 0, none⟩)], .int .i64 (x.val : Int), undef, undef, undef, undef, undef], defers := [] }) ?assign ?body ?done ?stop
  case assign =>
    intro l x W K hK
    gi_wp2
    exact hK
  case body =>
    rintro l pre x W ⟨⟨v, hv, hrow, -⟩, hB⟩ hlt
    have hc := hv.cell
    gi_wp2_with (gi_at_builtin; refine wpListIn_append_own _ rfl _ _ 30 rfl w.heap.size 3 i0 (.int .i64 0) 1 8 Tryd.underlying30 hi hz0 hz1 hz2 rfl (by decide) _ _ _ rfl (hrow.alloc _) ⟨W.heap.size, 0, none⟩ 1 1 [.int .i64 (x.val : Int)] rfl rfl (cell_one_new _ _ _) (by simp [Value.oneCell']) (by unfold maxLen; omega) (by omega) (by have := hB.size; simp; omega) ?_; intro v' w1 hown' hgrow _; obtain ⟨g', cap', rfl⟩ := ownsRow_succ hown'; obtain ⟨hv1, hv2, hr2, hk2, hb2⟩ := hv.appended (by decide) hrow hB.size (Nat.le_refl _) hown' hgrow; have hc1 := hv1.cell; have hf1 := hv1.frozen)
    exact ⟨hk2.from _, hb2, ⟨_, hv2, by simpa [listV] using hr2, trivial⟩, hB.trans hb2⟩
  case done =>
    rintro D ys W hD rfl ⟨⟨v, hv, hrow, -⟩, hB⟩ hK
    have hc := hv.cell
    gi_wp2
    refine ⟨by simp, .inl ⟨_, _, rfl, run_takeDeferred hK, ?_⟩⟩
    exact ⟨_, results_tmp rfl _ _ _, v, rfl, ownsRow_putObj hrow _ hK rfl, hB.trans (belowK_b (w := w) (Nat.le_refl _) W D _ _ (by simp at hD; omega) hK rfl rfl)⟩
  case stop =>
    rintro D c pre W _ _ h _
    exact h.elim
end LabelD
end Go.Proofs.YtlmckgghickahaaDoor
