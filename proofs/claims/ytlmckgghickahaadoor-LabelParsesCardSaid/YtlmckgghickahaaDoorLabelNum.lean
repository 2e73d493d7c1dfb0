/- The document's own Parse: one number. -/
import Derived.Test.YtlmckgghickahaaDoorLabelAwake
import Derived.Test.YtlmckgghickahaaDoorLabelNumMath
import Derived.Deep.QuietTactic
import Derived.BigQuiet
import Derived.WalkSmall
import Derived.Outline
namespace Go.Proofs.YtlmckgghickahaaDoor
open Go.RowKit
namespace LabelD
open LabelM

theorem ext0 (l : List UInt8) (k n : Nat) (h : l.length ≤ n) : (⟨⟨l⟩⟩ : ByteArray).extract k n = ⟨⟨l.drop k⟩⟩ := by
  ext1
  apply Array.ext'
  rw [ByteArray.data_extract]
  simp only [Array.toList_extract, List.extract_eq_take_drop]
  exact List.take_of_length_le (by simp; omega)

set_option maxRecDepth 100000 in
set_option maxHeartbeats 1000000 in
theorem number_no (a : UInt8) (r : List UInt8) (ha : ¬ (48 ≤ a.toNat ∧ a.toNat ≤ 57)) (w : World) :
    Calls Tryd.prog 35 #[.string ⟨⟨a :: r⟩⟩] w fun e w' => e = .returned (.tuple #[.int .i64 0, .string ⟨⟨a :: r⟩⟩, .bool false]) ∧ Below w.heap.size w w' := by
  have hix : ∀ h, (⟨⟨a :: r⟩⟩ : ByteArray)[0]'h = a := fun _ => rfl
  have hex := ext0 (a :: r) 0 (r.length + 1) (by simp)
  rw [List.drop_zero] at hex
  have hab : (a.toNat : Int) < 48 ∨ (48 ≤ (a.toNat : Int) ∧ ¬ (a.toNat : Int) ≤ 57) := by omega
  rcases hab with hab | ⟨hab1, hab2⟩
  all_goals
    go_enter Tryd.func35, Tryd.ntmps35
    go_wp2
    refine wp_loop_rounds 3 ?_
    rw [rounds_succ]
    go_wp2
    go_quiet (fail)
    go_wp2
    go_ret3
    exact ⟨by simp, below_drewN (Below.refl _ _) _⟩

set_option maxRecDepth 100000 in
set_option maxHeartbeats 1000000 in
theorem number_one (a b : UInt8) (r : List UInt8) (hs : r.length ≤ 1000000) (h1 : 48 ≤ a.toNat) (h2 : a.toNat ≤ 57) (hb : ¬ (48 ≤ b.toNat ∧ b.toNat ≤ 57)) (w : World) :
    Calls Tryd.prog 35 #[.string ⟨⟨a :: b :: r⟩⟩] w fun e w' => e = .returned (.tuple #[.int .i64 ((a.toNat : Int) - 48), .string ⟨⟨b :: r⟩⟩, .bool true]) ∧ Below w.heap.size w w' := by
  have hix : ∀ h, (⟨⟨a :: b :: r⟩⟩ : ByteArray)[0]'h = a := fun _ => rfl
  have hix1 : ∀ h, (⟨⟨a :: b :: r⟩⟩ : ByteArray)[1]'h = b := fun _ => rfl
  have hex := ext0 (a :: b :: r) 1 (r.length + 1 + 1) (by simp)
  rw [List.drop_succ_cons, List.drop_zero] at hex
  have hab : (b.toNat : Int) < 48 ∨ (48 ≤ (b.toNat : Int) ∧ ¬ (b.toNat : Int) ≤ 57) := by omega
  have hi1 : 48 ≤ (a.toNat : Int) := by omega
  have hi2 : (a.toNat : Int) ≤ 57 := by omega
  have hn : (a.toNat : Int) - 48 < 64 := by omega
  rcases hab with hab | ⟨hab1, hab2⟩
  all_goals
    go_enter Tryd.func35, Tryd.ntmps35
    go_wp2
    refine wp_loop_rounds 3 ?_
    rw [rounds_succ]
    go_wp2
    rw [rounds_succ]
    go_wp2
    go_quiet (fail)
    go_wp2
    go_ret3
    exact ⟨by simp, below_drewN (Below.refl _ _) _⟩
set_option maxRecDepth 100000 in
set_option maxHeartbeats 1000000 in
theorem number_nil (w : World) :
    Calls Tryd.prog 35 #[.string ⟨⟨[]⟩⟩] w fun e w' => e = .returned (.tuple #[.int .i64 0, .string ⟨⟨[]⟩⟩, .bool false]) ∧ Below w.heap.size w w' := by
  go_enter Tryd.func35, Tryd.ntmps35
  go_wp2
  refine wp_loop_rounds 3 ?_
  rw [rounds_succ]
  go_wp2
  go_quiet (fail)
  go_wp2
  go_ret3
  exact ⟨rfl, below_drewN (Below.refl _ _) _⟩

set_option maxRecDepth 100000 in
set_option maxHeartbeats 1000000 in
theorem number_end (a : UInt8) (h1 : 48 ≤ a.toNat) (h2 : a.toNat ≤ 57) (w : World) :
    Calls Tryd.prog 35 #[.string ⟨⟨[a]⟩⟩] w fun e w' => e = .returned (.tuple #[.int .i64 ((a.toNat : Int) - 48), .string ⟨⟨[]⟩⟩, .bool true]) ∧ Below w.heap.size w w' := by
  have hix : ∀ h, (⟨⟨[a]⟩⟩ : ByteArray)[0]'h = a := fun _ => rfl
  have hex := ext0 [a] 1 1 (by simp)
  rw [List.drop_succ_cons, List.drop_zero] at hex
  have hi1 : 48 ≤ (a.toNat : Int) := by omega
  have hi2 : (a.toNat : Int) ≤ 57 := by omega
  have hn : (a.toNat : Int) - 48 < 64 := by omega
  go_enter Tryd.func35, Tryd.ntmps35
  go_wp2
  refine wp_loop_rounds 3 ?_
  rw [rounds_succ]
  go_wp2
  rw [rounds_succ]
  go_wp2
  go_quiet (fail)
  go_wp2
  go_ret3
  exact ⟨by simp; rfl, below_drewN (Below.refl _ _) _⟩

set_option maxRecDepth 100000 in
set_option maxHeartbeats 2000000 in
theorem number_two (a b : UInt8) (r : List UInt8) (hs : r.length ≤ 1000000) (h1 : 48 ≤ a.toNat) (h2 : a.toNat ≤ 57) (g1 : 48 ≤ b.toNat) (g2 : b.toNat ≤ 57) (w : World) :
    Calls Tryd.prog 35 #[.string ⟨⟨a :: b :: r⟩⟩] w fun e w' => e = .returned (.tuple #[.int .i64 (10 * ((a.toNat : Int) - 48) + ((b.toNat : Int) - 48)), .string ⟨⟨r⟩⟩, .bool (decide (10 * ((a.toNat : Int) - 48) + ((b.toNat : Int) - 48) < 64) && decide (a.toNat ≠ 48))]) ∧ Below w.heap.size w w' := by
  have hix : ∀ h, (⟨⟨a :: b :: r⟩⟩ : ByteArray)[0]'h = a := fun _ => rfl
  have hix1 : ∀ h, (⟨⟨a :: b :: r⟩⟩ : ByteArray)[1]'h = b := fun _ => rfl
  have hex := ext0 (a :: b :: r) 2 (r.length + 1 + 1) (by simp)
  rw [List.drop_succ_cons, List.drop_succ_cons, List.drop_zero] at hex
  have hi1 : 48 ≤ (a.toNat : Int) := by omega
  have hi2 : (a.toNat : Int) ≤ 57 := by omega
  have hj1 : 48 ≤ (b.toNat : Int) := by omega
  have hj2 : (b.toNat : Int) ≤ 57 := by omega
  have hab : (10 * ((a.toNat : Int) - 48) + ((b.toNat : Int) - 48) < 64 ∧ a.toNat = 48) ∨ (10 * ((a.toNat : Int) - 48) + ((b.toNat : Int) - 48) < 64 ∧ a.toNat ≠ 48) ∨ ¬ 10 * ((a.toNat : Int) - 48) + ((b.toNat : Int) - 48) < 64 := by omega
  rcases hab with ⟨hn, h48⟩ | ⟨hn, h48⟩ | hn
  · obtain rfl : a = 48 := UInt8.toNat_inj.1 h48
    clear h48 hi1 hi2 h1 h2 hix
    have hn2 : (b.toNat : Int) - 48 < 64 := by omega
    have hix : ∀ h, (⟨⟨48 :: b :: r⟩⟩ : ByteArray)[0]'h = 48 := fun _ => rfl
    clear hn
    go_enter Tryd.func35, Tryd.ntmps35
    go_wp2
    refine wp_loop_rounds 3 ?_
    rw [rounds_succ]
    go_wp2
    rw [rounds_succ]
    go_wp2
    rw [rounds_succ]
    go_wp2
    all_goals
      go_quiet (fail)
      go_wp2
      go_ret3
      exact ⟨by simp, below_drewN (Below.refl _ _) _⟩
  · have e1 : ((a.toNat : Int) == 48) = false := by simp; omega
    have e2 : ((a.toNat : Int) != 48) = true := by simp; omega
    go_enter Tryd.func35, Tryd.ntmps35
    go_wp2
    refine wp_loop_rounds 3 ?_
    rw [rounds_succ]
    go_wp2
    rw [rounds_succ]
    go_wp2
    rw [rounds_succ]
    go_wp2
    all_goals
      go_quiet (fail)
      go_wp2
      go_ret3
      exact ⟨by simp [hn, h48], below_drewN (Below.refl _ _) _⟩
  · have hd : decide (10 * ((a.toNat : Int) - 48) + ((b.toNat : Int) - 48) < 64) = false := by simpa using hn
    go_enter Tryd.func35, Tryd.ntmps35
    go_wp2
    refine wp_loop_rounds 3 ?_
    rw [rounds_succ]
    go_wp2
    rw [rounds_succ]
    go_wp2
    rw [rounds_succ]
    go_wp2
    all_goals
      go_quiet (fail)
      go_wp2
      go_ret3
      exact ⟨by simp [hd], below_drewN (Below.refl _ _) _⟩

theorem number_any (t : List UInt8) (ht : t.length ≤ 1000000) (w : World) :
    Calls Tryd.prog 35 #[.string ⟨⟨t⟩⟩] w fun e w' => e = .returned (.tuple #[.int .i64 ((numM t).1 : Int), .string ⟨⟨(numM t).2.1⟩⟩, .bool (numM t).2.2]) ∧ Below w.heap.size w w' := by
  match t, ht with
  | [], _ => exact number_nil w
  | a :: r, ht =>
    unfold numM
    by_cases ha : dig a
    · simp only [if_pos ha]
      have h48 := ha.1
      match r, ht with
      | [], _ =>
        simp only
        rw [Int.ofNat_sub h48]
        exact number_end a ha.1 ha.2 w
      | b :: u, ht =>
        by_cases hb : dig b
        · simp only [if_pos hb]
          have g48 := hb.1
          have e : ((10 * (a.toNat - 48) + (b.toNat - 48) : Nat) : Int) = 10 * ((a.toNat : Int) - 48) + ((b.toNat : Int) - 48) := by omega
          have e2 : decide (10 * (a.toNat - 48) + (b.toNat - 48) < 64) = decide (10 * ((a.toNat : Int) - 48) + ((b.toNat : Int) - 48) < 64) := by
            rw [decide_eq_decide]
            omega
          rw [e, e2]
          exact number_two a b u (by simp at ht; omega) ha.1 ha.2 hb.1 hb.2 w
        · simp only [if_neg hb]
          rw [Int.ofNat_sub h48]
          exact number_one a b u (by simp at ht; omega) ha.1 ha.2 hb w
    · simp only [if_neg ha]
      exact number_no a r ha w
end LabelD
end Go.Proofs.YtlmckgghickahaaDoor
