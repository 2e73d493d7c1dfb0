/- The contracts of package label's plain functions, and of the document's own. -/
import Derived.Test.YtbkfmoplgcnejaaDoorLabelMath
import Derived.Test.YtbkfmoplgcnejaaDoorProg
import Derived.WalkSpells
import Derived.WalkLawsBesides
import Derived.Lib.Hide
namespace Go.Proofs.YtbkfmoplgcnejaaDoor
open Go.RowKit
namespace LabelD
open LabelM

theorem ret_int {k : IntKind} {a b : Int} (h : a = b) : Ending.returned (.int k a) = .returned (.int k b) := by rw [h]
theorem ret_bool {a b : Bool} (h : a = b) : Ending.returned (.bool a) = .returned (.bool b) := by rw [h]

set_option maxHeartbeats 400000 in
theorem flows_any (a b : Nat) (ha : a < M64) (hb : b < M64) (w : World) :
    Calls Tryd.prog 41 #[.int .u64 a, .int .u64 b] w fun e w' => e = .returned (.bool (flowsB a b)) ∧ w = w' := by
  have h := Lib.hid (andNot_zero ha hb)
  clear ha hb
  go_enter Tryd.func41, Tryd.ntmps41
  go_wp2
  go_ret
  exact ⟨ret_bool h.out, rfl⟩
set_option maxHeartbeats 400000 in
theorem join_any (bk o c : Nat) (zs : List Nat) (hz : ∀ x ∈ zs, x < M64) (hlen : zs.length ≤ 9223372036854775807) (w : World) (hc : ∀ (j : Nat) x, zs[j]? = some x → w.cell? ⟨bk, o + j, none⟩ = some (.int .u64 x)) :
    Calls Tryd.prog 50 #[.slice (some ⟨bk, o, none⟩) zs.length c] w fun e w' => e = .returned (.int .u64 (joinL zs)) ∧ w = w' := by
  have HC := Lib.hid hc
  have HZ := Lib.hid hz
  clear hc hz
  go_enter Tryd.func50, Tryd.ntmps50
  go_wp2
  go_loop [3, 8] (fun av i => ∃ k : Nat, i = .int .i64 k ∧ k ≤ zs.length ∧ av = .int .u64 ((joinL (zs.take k) : Nat) : Int)) (fun _ i => zs.length - (intOf i).toNat)
  case atStart => exact ⟨0, rfl, by omega, rfl⟩
  case round =>
    obtain ⟨k, rfl, hk, rfl⟩ := hrel
    by_cases hlt : k < zs.length
    · have hcell := HC.out k zs[k] (List.getElem?_eq_getElem hlt)
      obtain ⟨x, hx⟩ : ∃ x, zs[k] = x := ⟨_, rfl⟩
      rw [hx] at hcell
      have hor := u64_or_nat (joinL (zs.take k)) x (joinL_lt _ (fun y hy => HZ.out y (List.mem_of_mem_take hy))) (by rw [← hx]; exact HZ.out _ (List.getElem_mem hlt))
      have hsn : joinL (zs.take k) ||| x = joinL (zs.take (k + 1)) := by rw [List.take_succ_eq_append_getElem hlt, joinL_snoc, hx]
      have Hor := Lib.hid hor
      have Hsn := Lib.hid hsn
      clear hor hsn hx
      go_wp2
      go_round
      case rel => exact ⟨k + 1, by go_num, by omega, by rw [Hor.out, Hsn.out]⟩
      case measure => simp [intOf]; omega
    · obtain rfl : k = zs.length := by omega
      go_wp2
      go_ret
      exact ⟨rfl, rfl⟩
set_option maxHeartbeats 400000 in
theorem join_none (w : World) : Calls Tryd.prog 50 #[.slice none 0 0] w fun e w' => e = .returned (.int .u64 0) ∧ w = w' := by
  go_enter Tryd.func50, Tryd.ntmps50
  go_wp2
  go_loop [3, 8] (fun av i => i = .int .i64 0 ∧ av = .int .u64 0) (fun _ _ => 0)
  case atStart => exact ⟨rfl, rfl⟩
  case round =>
    obtain ⟨rfl, rfl⟩ := hrel
    go_wp2
    go_ret
    exact ⟨rfl, rfl⟩
/-- Whether the lowest k bits of a are in b. -/
def flowsK (a b k : Nat) : Prop := ∀ i < k, a.testBit i = true → b.testBit i = true
theorem flowsK_no {a b k : Nat} (hx : a.testBit k = true) (hy : b.testBit k = false) : false = flowsB a b := by
  cases h : flowsB a b
  · rfl
  · have := (flows_iff a b).1 h k hx
    rw [hy] at this
    cases this
theorem flowsK_step {a b k : Nat} (H : flowsK a b k) (h : a.testBit k = true → b.testBit k = true) : flowsK a b (k + 1) := fun i hi ht => by
  rcases Nat.lt_succ_iff_lt_or_eq.1 hi with hi | rfl
  · exact H i hi ht
  · exact h ht
end LabelD
end Go.Proofs.YtbkfmoplgcnejaaDoor
