/- The contracts of package label's plain functions, and of the document's own. -/
import Derived.Test.YtpmbbkhhnkhcbaaLabelMath
import Derived.Test.YtpmbbkhhnkhcbaaProg
import Derived.WalkSpells
import Derived.WalkLawsBesides
import Derived.Lib.Hide
namespace Go.Proofs.Ytpmbbkhhnkhcbaa
open Go.RowKit
namespace LabelD
open LabelM

theorem ret_int {k : IntKind} {a b : Int} (h : a = b) : Ending.returned (.int k a) = .returned (.int k b) := by rw [h]
theorem ret_bool {a b : Bool} (h : a = b) : Ending.returned (.bool a) = .returned (.bool b) := by rw [h]

set_option maxHeartbeats 400000 in
theorem flows_any (a b : Nat) (ha : a < M64) (hb : b < M64) (w : World) :
    Calls Try.prog 36 #[.int .u64 a, .int .u64 b] w fun e w' => e = .returned (.bool (flowsB a b)) ∧ w = w' := by
  have h := Lib.hid (andNot_zero ha hb)
  clear ha hb
  go_enter Try.func36, Try.ntmps36
  go_wp2
  go_ret
  exact ⟨ret_bool h.out, rfl⟩
set_option maxHeartbeats 400000 in
theorem join_any (bk o c : Nat) (zs : List Nat) (hz : ∀ x ∈ zs, x < M64) (hlen : zs.length ≤ 9223372036854775807) (w : World) (hc : ∀ (j : Nat) x, zs[j]? = some x → w.cell? ⟨bk, o + j, none⟩ = some (.int .u64 x)) :
    Calls Try.prog 35 #[.slice (some ⟨bk, o, none⟩) zs.length c] w fun e w' => e = .returned (.int .u64 (joinL zs)) ∧ w = w' := by
  have HC := Lib.hid hc
  have HZ := Lib.hid hz
  clear hc hz
  go_enter Try.func35, Try.ntmps35
  go_wp2
  go_loop [3, 8] (fun av i => ∃ k : Nat, i = .int .i64 k ∧ k ≤ zs.length ∧ av = .int .u64 ((joinL (zs.take k) : Nat) : Int)) (fun _ i => zs.length - (intOf i).toNat)
  case atStart => exact ⟨0, rfl, by omega, rfl⟩
  case round =>
    obtain ⟨k, rfl, hk, rfl⟩ := hrel
    by_cases hlt : k < zs.length
    · have hcell := HC.out k zs[k] (List.getElem?_eq_getElem hlt)
      obtain ⟨x, hx⟩ : ∃ x, zs[k] = x := ⟨_, rfl⟩
      rw [hx] at hcell
      have hor := u64_or_nat (joinL (zs.take k)) x (joinL_lt _ (fun y hy => HZ.out y (List.mem_of_mem_take hy))) (by rw [← hx]; exact HZ.out _ (List.getElem_mem hlt))
      have hsn : joinL (zs.take k) ||| x = joinL (zs.take (k + 1)) := by rw [List.take_succ_eq_append_getElem hlt, joinL_snoc, hx]
      have Hor := Lib.hid hor
      have Hsn := Lib.hid hsn
      clear hor hsn hx
      go_wp2
      go_round
      case rel => exact ⟨k + 1, by go_num, by omega, by rw [Hor.out, Hsn.out]⟩
      case measure => simp [intOf]; omega
    · obtain rfl : k = zs.length := by omega
      go_wp2
      go_ret
      exact ⟨rfl, rfl⟩
set_option maxHeartbeats 400000 in
theorem join_none (w : World) : Calls Try.prog 35 #[.slice none 0 0] w fun e w' => e = .returned (.int .u64 0) ∧ w = w' := by
  go_enter Try.func35, Try.ntmps35
  go_wp2
  go_loop [3, 8] (fun av i => i = .int .i64 0 ∧ av = .int .u64 0) (fun _ _ => 0)
  case atStart => exact ⟨rfl, rfl⟩
  case round =>
    obtain ⟨rfl, rfl⟩ := hrel
    go_wp2
    go_ret
    exact ⟨rfl, rfl⟩
set_option maxHeartbeats 400000 in
theorem refHas_any (l : Nat) (hl : l < M64) (p : Int) (w : World) :
    Calls Try.prog 38 #[.int .u64 l, .int .i64 p] w fun e w' => e = .returned (.bool (hasB l p)) ∧ w = w' := by
  go_enter Try.func38, Try.ntmps38
  go_wp2
  · go_ret
    exact ⟨ret_bool (hasB_in hl (by omega) (by omega)), rfl⟩
  · go_ret
    exact ⟨ret_bool (hasB_out (by omega)), rfl⟩
  · go_ret
    exact ⟨ret_bool (hasB_out (by omega)), rfl⟩

set_option maxHeartbeats 1000000 in
theorem made_any (a b : Nat) (ha : a < M64) (hb : b < M64) (both : Bool) (w : World) :
    Calls Try.prog 37 #[.int .u64 a, .int .u64 b, .bool both] w fun e w' => e = .returned (.int .u64 (madeL a b both)) ∧ w = w' := by
  have HA := Lib.hid ha
  have HB := Lib.hid hb
  clear ha hb
  go_enter Try.func37, Try.ntmps37
  go_wp2
  go_loop [7, 8] (fun av i => ∃ k : Nat, i = .int .i64 k ∧ k ≤ 64 ∧ av = .int .u64 ((modP (madeL a b both) k : Nat) : Int)) (fun _ i => 64 - (intOf i).toNat)
  case atStart => exact ⟨0, rfl, by omega, by rw [modP_0]; rfl⟩
  case round =>
    obtain ⟨k, rfl, hk, rfl⟩ := hrel
    by_cases hlt : k < 64
    · have H1 := fun W => Lib.hid (refHas_any a HA.out k W)
      have H2 := fun W => Lib.hid (refHas_any b HB.out k W)
      rw [hasB_nat a k hlt] at H1
      rw [hasB_nat b k hlt] at H2
      have hbit := madeL_bit a b both k
      obtain ⟨x, hx⟩ : ∃ x, a.testBit k = x := ⟨_, rfl⟩
      obtain ⟨y, hy⟩ : ∃ y, b.testBit k = y := ⟨_, rfl⟩
      rw [hx] at H1 hbit
      rw [hy] at H2 hbit
      obtain ⟨T, hT⟩ : ∃ T, madeL a b both = T := ⟨_, rfl⟩
      rw [hT] at hbit ⊢
      have Hbit := Lib.hid hbit
      clear hbit hx hy
      go_wp2_with fail
      refine ((H1 _).out).mono ?_
      rintro e w' ⟨rfl, rfl⟩
      go_wp2_with fail
      refine ((H2 _).out).mono ?_
      rintro e w' ⟨rfl, rfl⟩
      cases x <;> cases y <;> cases both
      all_goals
        go_wp2
        go_round
        case rel => exact ⟨k + 1, by go_num, by omega, by first | rw [modP_no Hbit.out] | rw [modP_yes hlt Hbit.out]⟩
        case measure => simp [intOf]; omega
    · obtain rfl : k = 64 := by omega
      go_wp2
      go_ret
      exact ⟨ret_int (by rw [modP_64 (madeL_lt HA.out HB.out both)]), rfl⟩

set_option maxHeartbeats 400000 in
theorem refJoin_any (a b : Nat) (ha : a < M64) (hb : b < M64) (w : World) :
    Calls Try.prog 16 #[.int .u64 a, .int .u64 b] w fun e w' => e = .returned (.int .u64 ((a ||| b : Nat) : Int)) ∧ w = w' := by
  have H := fun W => Lib.hid (made_any a b ha hb false W)
  go_enter Try.func16, Try.ntmps16
  go_wp2_with fail
  refine ((H _).out).mono ?_
  rintro e w' ⟨rfl, rfl⟩
  go_wp2
  go_ret
  exact ⟨rfl, rfl⟩
/-- Whether the lowest k bits of a are in b. -/
def flowsK (a b k : Nat) : Prop := ∀ i < k, a.testBit i = true → b.testBit i = true
theorem flowsK_no {a b k : Nat} (hx : a.testBit k = true) (hy : b.testBit k = false) : false = flowsB a b := by
  cases h : flowsB a b
  · rfl
  · have := (flows_iff a b).1 h k hx
    rw [hy] at this
    cases this
theorem flowsK_step {a b k : Nat} (H : flowsK a b k) (h : a.testBit k = true → b.testBit k = true) : flowsK a b (k + 1) := fun i hi ht => by
  rcases Nat.lt_succ_iff_lt_or_eq.1 hi with hi | rfl
  · exact H i hi ht
  · exact h ht
set_option maxHeartbeats 1000000 in
theorem refFlows_any (a b : Nat) (ha : a < M64) (hb : b < M64) (w : World) :
    Calls Try.prog 18 #[.int .u64 a, .int .u64 b] w fun e w' => e = .returned (.bool (flowsB a b)) ∧ w = w' := by
  have HA := Lib.hid ha
  have HB := Lib.hid hb
  clear ha hb
  go_enter Try.func18, Try.ntmps18
  go_wp2
  go_loop [5] (fun i => ∃ k : Nat, i = .int .i64 k ∧ k ≤ 64 ∧ flowsK a b k) (fun i => 64 - (intOf i).toNat)
  case atStart => exact ⟨0, rfl, by omega, fun i hi => absurd hi (by omega)⟩
  case round =>
    obtain ⟨k, rfl, hk, HD⟩ := hrel
    by_cases hlt : k < 64
    · have H1 := fun W => Lib.hid (refHas_any a HA.out k W)
      have H2 := fun W => Lib.hid (refHas_any b HB.out k W)
      rw [hasB_nat a k hlt] at H1
      rw [hasB_nat b k hlt] at H2
      obtain ⟨x, hx⟩ : ∃ x, a.testBit k = x := ⟨_, rfl⟩
      obtain ⟨y, hy⟩ : ∃ y, b.testBit k = y := ⟨_, rfl⟩
      rw [hx] at H1
      rw [hy] at H2
      have HX := Lib.hid hx
      have HY := Lib.hid hy
      clear hx hy
      cases x <;> cases y
      all_goals
        go_wp2_with fail
        refine ((H1 _).out).mono ?_
        rintro e w' ⟨rfl, rfl⟩
        go_wp2_with (first | (go_at_call 38; refine ((H2 _).out).mono ?_; rintro e w' ⟨rfl, rfl⟩))
        first
          | (go_round
             case rel => exact ⟨k + 1, by go_num, by omega, flowsK_step HD (fun h => by first | exact HY.out | (rw [HX.out] at h; cases h))⟩
             case measure => simp [intOf]; omega)
          | (go_ret
             exact ⟨ret_bool (flowsK_no HX.out HY.out), rfl⟩)
    · obtain rfl : k = 64 := by omega
      have hf := Lib.hid ((flows_iff64 b HA.out).2 HD)
      go_wp2
      go_ret
      exact ⟨ret_bool hf.out.symm, rfl⟩
end LabelD
end Go.Proofs.Ytpmbbkhhnkhcbaa
