/- Which kinds may stand where: the program's. -/
import Derived.Test.YtakdmlaecidjaaaGreatDoorTck2
import Derived.StillTailTactics
namespace Go.Proofs.YtakdmlaecidjaaaGreatDoor
open Go.RowKit ObjM
namespace TreeD

set_option maxRecDepth 100000 in
theorem expression_any (k : Int) (w : World) : Calls Tryz.prog 70 #[.int .i64 k] w fun e w' => e = .returned (.bool (exprB k)) ∧ w = w' := by
  by_cases h1 : (13 : Int) ≤ k <;> by_cases h2 : k ≤ 22 <;> by_cases h3 : k = 24 <;> by_cases h4 : (27 : Int) ≤ k <;> by_cases h5 : k ≤ 30
  all_goals try (exfalso; omega)
  all_goals
    try subst h3
    go_enter Tryz.func70, Tryz.ntmps70
    go_wp2
    go_ret
    exact ⟨by first | (simp [exprB, *]; done) | (simp [exprB, *]; rw [Bool.eq_iff_iff]; simp; omega), rfl⟩
set_option maxRecDepth 100000 in
theorem written_any (k : Int) (w : World) : Calls Tryz.prog 71 #[.int .i64 k] w fun e w' => e = .returned (.bool (typeB k)) ∧ w = w' := by
  by_cases h1 : (31 : Int) ≤ k <;> by_cases h2 : k ≤ 35 <;> by_cases h3 : k = 33
  all_goals try (exfalso; omega)
  all_goals
    try subst h3
    go_enter Tryz.func71, Tryz.ntmps71
    go_wp2
    go_ret
    exact ⟨by first | (simp [typeB, *]; done) | (simp [typeB, *]; rw [Bool.eq_iff_iff]; simp; omega), rfl⟩
set_option maxRecDepth 100000 in
theorem kf99 (k : Int) (w : World) : Calls Tryz.prog 47 #[.int .i32 99, .int .i64 k] w fun e w' => e = .returned (.bool (kidB 99 k)) ∧ w = w' := by
  have hs : kidB 99 k = (decide (k = 2)) := rfl
  rw [hs]
  clear hs
  by_cases h0 : k = 2
  all_goals
    try subst h0
    go_enter Tryz.func47, Tryz.ntmps47
    go_wp2
    go_ret
    exact ⟨by simp [*], rfl⟩
set_option maxRecDepth 100000 in
theorem kf98 (k : Int) (w : World) : Calls Tryz.prog 47 #[.int .i32 98, .int .i64 k] w fun e w' => e = .returned (.bool (kidB 98 k)) ∧ w = w' := by
  have hs : kidB 98 k = (decide (k = 3)) := rfl
  rw [hs]
  clear hs
  by_cases h0 : k = 3
  all_goals
    try subst h0
    go_enter Tryz.func47, Tryz.ntmps47
    go_wp2
    go_ret
    exact ⟨by simp [*], rfl⟩
set_option maxRecDepth 100000 in
theorem kf66 (k : Int) (w : World) : Calls Tryz.prog 47 #[.int .i32 66, .int .i64 k] w fun e w' => e = .returned (.bool (kidB 66 k)) ∧ w = w' := by
  have hs : kidB 66 k = (decide (k = 3) || decide (k = 12)) := rfl
  rw [hs]
  clear hs
  by_cases h0 : k = 3 <;> by_cases h1 : k = 12
  all_goals try (exfalso; omega)
  all_goals
    try subst h0
    try subst h1
    go_enter Tryz.func47, Tryz.ntmps47
    go_wp2
    go_ret
    exact ⟨by simp [*], rfl⟩
set_option maxRecDepth 100000 in
theorem kf115 (k : Int) (w : World) : Calls Tryz.prog 47 #[.int .i32 115, .int .i64 k] w fun e w' => e = .returned (.bool (kidB 115 k)) ∧ w = w' := by
  have hs : kidB 115 k = (statB k) := rfl
  rw [hs]
  clear hs
  by_cases g1 : (4 : Int) ≤ k <;> by_cases g2 : k ≤ 11
  all_goals try (exfalso; omega)
  all_goals
    go_enter Tryz.func47, Tryz.ntmps47
    go_wp2
    go_ret
    exact ⟨by first | (simp [statB, *]; done) | (simp [statB, *]; rw [Bool.eq_iff_iff]; simp; omega), rfl⟩
set_option maxRecDepth 100000 in
theorem kf101 (k : Int) (w : World) : Calls Tryz.prog 47 #[.int .i32 101, .int .i64 k] w fun e w' => e = .returned (.bool (kidB 101 k)) ∧ w = w' := by
  have hs : kidB 101 k = (exprB k) := rfl
  rw [hs]
  clear hs
  have H := fun W => Lib.hid (expression_any k W)
  obtain ⟨b, hb⟩ : ∃ b, exprB k = b := ⟨_, rfl⟩
  rw [hb] at H ⊢
  clear hb
  all_goals
    cases b
  all_goals
    go_enter Tryz.func47, Tryz.ntmps47
    go_wp2_with fail
    refine ((H _).out).mono ?_
    rintro e w1 ⟨rfl, rfl⟩
    go_wp2
    go_ret
    exact ⟨by simp [*], rfl⟩
set_option maxRecDepth 100000 in
theorem kf69 (k : Int) (w : World) : Calls Tryz.prog 47 #[.int .i32 69, .int .i64 k] w fun e w' => e = .returned (.bool (kidB 69 k)) ∧ w = w' := by
  have hs : kidB 69 k = (exprB k || decide (k = 12)) := rfl
  rw [hs]
  clear hs
  have H := fun W => Lib.hid (expression_any k W)
  obtain ⟨b, hb⟩ : ∃ b, exprB k = b := ⟨_, rfl⟩
  rw [hb] at H ⊢
  clear hb
  by_cases h0 : k = 12
  all_goals
    cases b
  all_goals
    try subst h0
    go_enter Tryz.func47, Tryz.ntmps47
    go_wp2_with fail
    refine ((H _).out).mono ?_
    rintro e w1 ⟨rfl, rfl⟩
    go_wp2
    go_ret
    exact ⟨by simp [*], rfl⟩
set_option maxRecDepth 100000 in
theorem kf116 (k : Int) (w : World) : Calls Tryz.prog 47 #[.int .i32 116, .int .i64 k] w fun e w' => e = .returned (.bool (kidB 116 k)) ∧ w = w' := by
  have hs : kidB 116 k = (typeB k) := rfl
  rw [hs]
  clear hs
  have H := fun W => Lib.hid (written_any k W)
  obtain ⟨b, hb⟩ : ∃ b, typeB k = b := ⟨_, rfl⟩
  rw [hb] at H ⊢
  clear hb
  all_goals
    cases b
  all_goals
    go_enter Tryz.func47, Tryz.ntmps47
    go_wp2_with fail
    refine ((H _).out).mono ?_
    rintro e w1 ⟨rfl, rfl⟩
    go_wp2
    go_ret
    exact ⟨by simp [*], rfl⟩
set_option maxRecDepth 100000 in
theorem kf84 (k : Int) (w : World) : Calls Tryz.prog 47 #[.int .i32 84, .int .i64 k] w fun e w' => e = .returned (.bool (kidB 84 k)) ∧ w = w' := by
  have hs : kidB 84 k = (typeB k || decide (k = 12)) := rfl
  rw [hs]
  clear hs
  have H := fun W => Lib.hid (written_any k W)
  obtain ⟨b, hb⟩ : ∃ b, typeB k = b := ⟨_, rfl⟩
  rw [hb] at H ⊢
  clear hb
  by_cases h0 : k = 12
  all_goals
    cases b
  all_goals
    try subst h0
    go_enter Tryz.func47, Tryz.ntmps47
    go_wp2_with fail
    refine ((H _).out).mono ?_
    rintro e w1 ⟨rfl, rfl⟩
    go_wp2
    go_ret
    exact ⟨by simp [*], rfl⟩
set_option maxRecDepth 100000 in
theorem kf76 (k : Int) (w : World) : Calls Tryz.prog 47 #[.int .i32 76, .int .i64 k] w fun e w' => e = .returned (.bool (kidB 76 k)) ∧ w = w' := by
  have hs : kidB 76 k = (typeB k || decide (k = 12) || decide (k = 36)) := rfl
  rw [hs]
  clear hs
  have H := fun W => Lib.hid (written_any k W)
  obtain ⟨b, hb⟩ : ∃ b, typeB k = b := ⟨_, rfl⟩
  rw [hb] at H ⊢
  clear hb
  by_cases h0 : k = 12 <;> by_cases h1 : k = 36
  all_goals try (exfalso; omega)
  all_goals
    cases b
  all_goals
    try subst h0
    try subst h1
    go_enter Tryz.func47, Tryz.ntmps47
    go_wp2_with fail
    refine ((H _).out).mono ?_
    rintro e w1 ⟨rfl, rfl⟩
    go_wp2
    go_ret
    exact ⟨by simp [*], rfl⟩
set_option maxRecDepth 100000 in
theorem kf97 (k : Int) (w : World) : Calls Tryz.prog 47 #[.int .i32 97, .int .i64 k] w fun e w' => e = .returned (.bool (kidB 97 k)) ∧ w = w' := by
  have hs : kidB 97 k = (decide (k = 17) || decide (k = 18) || decide (k = 19)) := rfl
  rw [hs]
  clear hs
  by_cases h0 : k = 17 <;> by_cases h1 : k = 18 <;> by_cases h2 : k = 19
  all_goals try (exfalso; omega)
  all_goals
    try subst h0
    try subst h1
    try subst h2
    go_enter Tryz.func47, Tryz.ntmps47
    go_wp2
    go_ret
    exact ⟨by simp [*], rfl⟩
set_option maxRecDepth 100000 in
theorem kf107 (k : Int) (w : World) : Calls Tryz.prog 47 #[.int .i32 107, .int .i64 k] w fun e w' => e = .returned (.bool (kidB 107 k)) ∧ w = w' := by
  have hs : kidB 107 k = (decide (k = 20) || decide (k = 21)) := rfl
  rw [hs]
  clear hs
  by_cases h0 : k = 20 <;> by_cases h1 : k = 21
  all_goals try (exfalso; omega)
  all_goals
    try subst h0
    try subst h1
    go_enter Tryz.func47, Tryz.ntmps47
    go_wp2
    go_ret
    exact ⟨by simp [*], rfl⟩
set_option maxRecDepth 100000 in
theorem kf70 (k : Int) (w : World) : Calls Tryz.prog 47 #[.int .i32 70, .int .i64 k] w fun e w' => e = .returned (.bool (kidB 70 k)) ∧ w = w' := by
  have hs : kidB 70 k = (decide (k = 22)) := rfl
  rw [hs]
  clear hs
  by_cases h0 : k = 22
  all_goals
    try subst h0
    go_enter Tryz.func47, Tryz.ntmps47
    go_wp2
    go_ret
    exact ⟨by simp [*], rfl⟩
set_option maxRecDepth 100000 in
theorem kf112 (k : Int) (w : World) : Calls Tryz.prog 47 #[.int .i32 112, .int .i64 k] w fun e w' => e = .returned (.bool (kidB 112 k)) ∧ w = w' := by
  have hs : kidB 112 k = (decide (k = 23)) := rfl
  rw [hs]
  clear hs
  by_cases h0 : k = 23
  all_goals
    try subst h0
    go_enter Tryz.func47, Tryz.ntmps47
    go_wp2
    go_ret
    exact ⟨by simp [*], rfl⟩
set_option maxRecDepth 100000 in
theorem kf110 (k : Int) (w : World) : Calls Tryz.prog 47 #[.int .i32 110, .int .i64 k] w fun e w' => e = .returned (.bool (kidB 110 k)) ∧ w = w' := by
  have hs : kidB 110 k = (decide (k = 25) || decide (k = 26)) := rfl
  rw [hs]
  clear hs
  by_cases h0 : k = 25 <;> by_cases h1 : k = 26
  all_goals try (exfalso; omega)
  all_goals
    try subst h0
    try subst h1
    go_enter Tryz.func47, Tryz.ntmps47
    go_wp2
    go_ret
    exact ⟨by simp [*], rfl⟩
set_option maxRecDepth 100000 in
theorem kf102 (k : Int) (w : World) : Calls Tryz.prog 47 #[.int .i32 102, .int .i64 k] w fun e w' => e = .returned (.bool (kidB 102 k)) ∧ w = w' := by
  have hs : kidB 102 k = (decide (k = 33)) := rfl
  rw [hs]
  clear hs
  by_cases h0 : k = 33
  all_goals
    try subst h0
    go_enter Tryz.func47, Tryz.ntmps47
    go_wp2
    go_ret
    exact ⟨by simp [*], rfl⟩
set_option maxRecDepth 100000 in
theorem kf109 (k : Int) (w : World) : Calls Tryz.prog 47 #[.int .i32 109, .int .i64 k] w fun e w' => e = .returned (.bool (kidB 109 k)) ∧ w = w' := by
  have hs : kidB 109 k = (decide (k = 31) || decide (k = 32)) := rfl
  rw [hs]
  clear hs
  by_cases h0 : k = 31 <;> by_cases h1 : k = 32
  all_goals try (exfalso; omega)
  all_goals
    try subst h0
    try subst h1
    go_enter Tryz.func47, Tryz.ntmps47
    go_wp2
    go_ret
    exact ⟨by simp [*], rfl⟩
def LETS : List Nat := [99, 98, 66, 115, 101, 69, 116, 84, 76, 97, 107, 70, 112, 110, 102, 109]
theorem kidFits_any (c : Nat) (hc : c ∈ LETS) (k : Int) (w : World) : Calls Tryz.prog 47 #[.int .i32 (c : Int), .int .i64 k] w fun e w' => e = .returned (.bool (kidB c k)) ∧ w = w' := by
  simp only [LETS, List.mem_cons, List.not_mem_nil, or_false] at hc
  rcases hc with rfl | rfl | rfl | rfl | rfl | rfl | rfl | rfl | rfl | rfl | rfl | rfl | rfl | rfl | rfl | rfl
  · exact kf99 k w
  · exact kf98 k w
  · exact kf66 k w
  · exact kf115 k w
  · exact kf101 k w
  · exact kf69 k w
  · exact kf116 k w
  · exact kf84 k w
  · exact kf76 k w
  · exact kf97 k w
  · exact kf107 k w
  · exact kf70 k w
  · exact kf112 k w
  · exact kf110 k w
  · exact kf102 k w
  · exact kf109 k w
end TreeD
end Go.Proofs.YtakdmlaecidjaaaGreatDoor
