/- The contracts of package label's plain functions, and of the document's own. -/
import Derived.Test.YticgpfigjkgfaaaDoorLabelMath
import Derived.Test.YticgpfigjkgfaaaDoorProg
import Derived.WalkSpells
import Derived.WalkLawsBesides
import Derived.Lib.Hide
namespace Go.Proofs.YticgpfigjkgfaaaDoor
open Go.RowKit
namespace LabelD
open LabelM

theorem ret_int {k : IntKind} {a b : Int} (h : a = b) : Ending.returned (.int k a) = .returned (.int k b) := by rw [h]
theorem ret_bool {a b : Bool} (h : a = b) : Ending.returned (.bool a) = .returned (.bool b) := by rw [h]

set_option maxHeartbeats 400000 in
theorem flows_any (a b : Nat) (ha : a < M64) (hb : b < M64) (w : World) :
    Calls Tryd.prog 27 #[.int .u64 a, .int .u64 b] w fun e w' => e = .returned (.bool (flowsB a b)) ∧ w = w' := by
  have h := Lib.hid (andNot_zero ha hb)
  clear ha hb
  go_enter Tryd.func27, Tryd.ntmps27
  go_wp2
  go_ret
  exact ⟨ret_bool h.out, rfl⟩
set_option maxHeartbeats 400000 in
theorem refHas_any (l : Nat) (hl : l < M64) (p : Int) (w : World) :
    Calls Tryd.prog 30 #[.int .u64 l, .int .i64 p] w fun e w' => e = .returned (.bool (hasB l p)) ∧ w = w' := by
  go_enter Tryd.func30, Tryd.ntmps30
  go_wp2
  · go_ret
    exact ⟨ret_bool (hasB_in hl (by omega) (by omega)), rfl⟩
  · go_ret
    exact ⟨ret_bool (hasB_out (by omega)), rfl⟩
  · go_ret
    exact ⟨ret_bool (hasB_out (by omega)), rfl⟩

/-- Whether the lowest k bits of a are in b. -/
def flowsK (a b k : Nat) : Prop := ∀ i < k, a.testBit i = true → b.testBit i = true
theorem flowsK_no {a b k : Nat} (hx : a.testBit k = true) (hy : b.testBit k = false) : false = flowsB a b := by
  cases h : flowsB a b
  · rfl
  · have := (flows_iff a b).1 h k hx
    rw [hy] at this
    cases this
theorem flowsK_step {a b k : Nat} (H : flowsK a b k) (h : a.testBit k = true → b.testBit k = true) : flowsK a b (k + 1) := fun i hi ht => by
  rcases Nat.lt_succ_iff_lt_or_eq.1 hi with hi | rfl
  · exact H i hi ht
  · exact h ht
set_option maxHeartbeats 1000000 in
theorem refFlows_any (a b : Nat) (ha : a < M64) (hb : b < M64) (w : World) :
    Calls Tryd.prog 20 #[.int .u64 a, .int .u64 b] w fun e w' => e = .returned (.bool (flowsB a b)) ∧ w = w' := by
  have HA := Lib.hid ha
  have HB := Lib.hid hb
  clear ha hb
  go_enter Tryd.func20, Tryd.ntmps20
  go_wp2
  go_loop [5] (fun i => ∃ k : Nat, i = .int .i64 k ∧ k ≤ 64 ∧ flowsK a b k) (fun i => 64 - (intOf i).toNat)
  case atStart => exact ⟨0, rfl, by omega, fun i hi => absurd hi (by omega)⟩
  case round =>
    obtain ⟨k, rfl, hk, HD⟩ := hrel
    by_cases hlt : k < 64
    · have H1 := fun W => Lib.hid (refHas_any a HA.out k W)
      have H2 := fun W => Lib.hid (refHas_any b HB.out k W)
      rw [hasB_nat a k hlt] at H1
      rw [hasB_nat b k hlt] at H2
      obtain ⟨x, hx⟩ : ∃ x, a.testBit k = x := ⟨_, rfl⟩
      obtain ⟨y, hy⟩ : ∃ y, b.testBit k = y := ⟨_, rfl⟩
      rw [hx] at H1
      rw [hy] at H2
      have HX := Lib.hid hx
      have HY := Lib.hid hy
      clear hx hy
      cases x <;> cases y
      all_goals
        go_wp2_with fail
        refine ((H1 _).out).mono ?_
        rintro e w' ⟨rfl, rfl⟩
        go_wp2_with (first | (go_at_call 30; refine ((H2 _).out).mono ?_; rintro e w' ⟨rfl, rfl⟩))
        first
          | (go_round
             case rel => exact ⟨k + 1, by go_num, by omega, flowsK_step HD (fun h => by first | exact HY.out | (rw [HX.out] at h; cases h))⟩
             case measure => simp [intOf]; omega)
          | (go_ret
             exact ⟨ret_bool (flowsK_no HX.out HY.out), rfl⟩)
    · obtain rfl : k = 64 := by omega
      have hf := Lib.hid ((flows_iff64 b HA.out).2 HD)
      go_wp2
      go_ret
      exact ⟨ret_bool hf.out.symm, rfl⟩
end LabelD
end Go.Proofs.YticgpfigjkgfaaaDoor
