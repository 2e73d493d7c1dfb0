/- Which kinds may stand where: the document's. -/
import Derived.Test.YtmdkocegnbcgmaaGreatDoorZ11
import Derived.StillTailTactics
import Derived.BigQuiet
import Derived.WalkSmall
namespace Go.Proofs.YtmdkocegnbcgmaaGreatDoor
open Go.RowKit ObjM
namespace TreeD

set_option maxRecDepth 100000 in
theorem rPlace_any (k : Int) (w : World) : Calls Tryz.prog 72 #[.int .i64 k] w fun e w' => e = .returned (.bool (decide (k = 17) || decide (k = 18) || decide (k = 19))) ∧ w = w' := by
  by_cases h0 : k = 17 <;> by_cases h1 : k = 18 <;> by_cases h2 : k = 19
  all_goals try (exfalso; omega)
  all_goals
    try subst h0
    try subst h1
    try subst h2
    go_enter Tryz.func72, Tryz.ntmps72
    go_wp2
    go_ret
    exact ⟨by first | (simp [*]; done) | (simp [*]; rw [Bool.eq_iff_iff]; simp; omega), rfl⟩
set_option maxRecDepth 100000 in
theorem rCall_any (k : Int) (w : World) : Calls Tryz.prog 73 #[.int .i64 k] w fun e w' => e = .returned (.bool (decide (k = 20) || decide (k = 21))) ∧ w = w' := by
  by_cases h0 : k = 20 <;> by_cases h1 : k = 21
  all_goals try (exfalso; omega)
  all_goals
    try subst h0
    try subst h1
    go_enter Tryz.func73, Tryz.ntmps73
    go_wp2
    go_ret
    exact ⟨by first | (simp [*]; done) | (simp [*]; rw [Bool.eq_iff_iff]; simp; omega), rfl⟩
set_option maxRecDepth 100000 in
theorem rExpr_any (k : Int) (w : World) : Calls Tryz.prog 70 #[.int .i64 k] w fun e w' => e = .returned (.bool (exprB k)) ∧ w = w' := by
  by_cases g0 : (13 : Int) ≤ k <;> by_cases g1 : k ≤ 22 <;> by_cases g2 : (27 : Int) ≤ k <;> by_cases g3 : k ≤ 30 <;> by_cases h0 : k = 24
  all_goals try (exfalso; omega)
  all_goals
    try subst h0
    go_enter Tryz.func70, Tryz.ntmps70
    go_wp2
    go_ret
    exact ⟨by first | (simp [exprB, *]; done) | (simp [exprB, *]; rw [Bool.eq_iff_iff]; simp; omega), rfl⟩
theorem typeB_or (k : Int) : typeB k = (decide (k = 31) || decide (k = 32) || decide (k = 34) || decide (k = 35)) := by
  by_cases h0 : k = 31 <;> by_cases h1 : k = 32 <;> by_cases h2 : k = 34 <;> by_cases h3 : k = 35
  all_goals try (exfalso; omega)
  all_goals
    try subst h0
    try subst h1
    try subst h2
    try subst h3
    simp only [typeB, *]
    try rfl
  simp
  omega
set_option maxRecDepth 100000 in
theorem rType0_any (k : Int) (w : World) : Calls Tryz.prog 71 #[.int .i64 k] w fun e w' => e = .returned (.bool (decide (k = 31) || decide (k = 32) || decide (k = 34) || decide (k = 35))) ∧ w = w' := by
  by_cases h0 : k = 31 <;> by_cases h1 : k = 32 <;> by_cases h2 : k = 34 <;> by_cases h3 : k = 35
  all_goals try (exfalso; omega)
  all_goals
    try subst h0
    try subst h1
    try subst h2
    try subst h3
    go_enter Tryz.func71, Tryz.ntmps71
    go_wp2
    go_ret
    exact ⟨by first | (simp [*]; done) | (simp [*]; rw [Bool.eq_iff_iff]; simp; omega), rfl⟩
theorem rType_any (k : Int) (w : World) : Calls Tryz.prog 71 #[.int .i64 k] w fun e w' => e = .returned (.bool (typeB k)) ∧ w = w' := by
  rw [typeB_or]
  exact rType0_any k w
set_option maxRecDepth 100000 in
theorem rStat_any (k : Int) (w : World) : Calls Tryz.prog 74 #[.int .i64 k] w fun e w' => e = .returned (.bool (statB k)) ∧ w = w' := by
  by_cases g0 : (4 : Int) ≤ k <;> by_cases g1 : k ≤ 11
  all_goals try (exfalso; omega)
  all_goals
    go_enter Tryz.func74, Tryz.ntmps74
    go_wp2
    go_ret
    exact ⟨by first | (simp [statB, *]; done) | (simp [statB, *]; rw [Bool.eq_iff_iff]; simp; omega), rfl⟩
set_option maxRecDepth 100000 in
theorem is98 (k : Int) (w : World) : Calls Tryz.prog 40 #[.int .i64 k, .int .u8 98] w fun e w' => e = .returned (.bool (kidB 98 k)) ∧ w = w' := by
  by_cases hn : k = 12
  · subst hn
    have hs : kidB 98 12 = false := by decide
    rw [hs]
    go_enter Tryz.func40, Tryz.ntmps40
    go_wp2
    go_ret
    exact ⟨rfl, rfl⟩
  · have hs : kidB 98 k = (decide (k = 3)) := by rfl
    rw [hs]
    clear hs
    by_cases h0 : k = 3
    all_goals
      try subst h0
      go_enter Tryz.func40, Tryz.ntmps40
      go_wp2
      go_ret
      exact ⟨by simp [*], rfl⟩
set_option maxRecDepth 100000 in
theorem is66 (k : Int) (w : World) : Calls Tryz.prog 40 #[.int .i64 k, .int .u8 66] w fun e w' => e = .returned (.bool (kidB 66 k)) ∧ w = w' := by
  by_cases hn : k = 12
  · subst hn
    have hs : kidB 66 12 = true := by decide
    rw [hs]
    go_enter Tryz.func40, Tryz.ntmps40
    go_wp2
    go_ret
    exact ⟨rfl, rfl⟩
  · have hs : kidB 66 k = (decide (k = 3)) := by simp [kidB, hn]
    rw [hs]
    clear hs
    by_cases h0 : k = 3
    all_goals
      try subst h0
      go_enter Tryz.func40, Tryz.ntmps40
      go_wp2
      go_ret
      exact ⟨by simp [*], rfl⟩
set_option maxRecDepth 100000 in
theorem is101 (k : Int) (w : World) : Calls Tryz.prog 40 #[.int .i64 k, .int .u8 101] w fun e w' => e = .returned (.bool (kidB 101 k)) ∧ w = w' := by
  by_cases hn : k = 12
  · subst hn
    have hs : kidB 101 12 = false := by decide
    rw [hs]
    have H := fun W => Lib.hid (rExpr_any 12 W)
    go_enter Tryz.func40, Tryz.ntmps40
    go_wp2_with fail
    refine ((H _).out).mono ?_
    rintro e w1 ⟨rfl, rfl⟩
    go_wp2
    go_ret
    exact ⟨by first | rfl | decide, rfl⟩
  · have hs : kidB 101 k = (exprB k) := by rfl
    rw [hs]
    clear hs
    have H := fun W => Lib.hid (rExpr_any k W)
    obtain ⟨b, hb⟩ : ∃ b, exprB k = b := ⟨_, rfl⟩
    rw [hb] at H ⊢
    clear hb
    all_goals
      cases b
    all_goals
      go_enter Tryz.func40, Tryz.ntmps40
      go_wp2_with fail
      refine ((H _).out).mono ?_
      rintro e w1 ⟨rfl, rfl⟩
      go_wp2
      go_ret
      exact ⟨by simp [*], rfl⟩
set_option maxRecDepth 100000 in
theorem is69 (k : Int) (w : World) : Calls Tryz.prog 40 #[.int .i64 k, .int .u8 69] w fun e w' => e = .returned (.bool (kidB 69 k)) ∧ w = w' := by
  by_cases hn : k = 12
  · subst hn
    have hs : kidB 69 12 = true := by decide
    rw [hs]
    have H := fun W => Lib.hid (rExpr_any 12 W)
    go_enter Tryz.func40, Tryz.ntmps40
    go_wp2_with fail
    refine ((H _).out).mono ?_
    rintro e w1 ⟨rfl, rfl⟩
    go_wp2
    go_ret
    exact ⟨by first | rfl | decide, rfl⟩
  · have hs : kidB 69 k = (exprB k) := by simp [kidB, hn]
    rw [hs]
    clear hs
    have H := fun W => Lib.hid (rExpr_any k W)
    obtain ⟨b, hb⟩ : ∃ b, exprB k = b := ⟨_, rfl⟩
    rw [hb] at H ⊢
    clear hb
    all_goals
      cases b
    all_goals
      go_enter Tryz.func40, Tryz.ntmps40
      go_wp2_with fail
      refine ((H _).out).mono ?_
      rintro e w1 ⟨rfl, rfl⟩
      go_wp2
      go_ret
      exact ⟨by simp [*], rfl⟩
set_option maxRecDepth 100000 in
theorem is84 (k : Int) (w : World) : Calls Tryz.prog 40 #[.int .i64 k, .int .u8 84] w fun e w' => e = .returned (.bool (kidB 116 k)) ∧ w = w' := by
  by_cases hn : k = 12
  · subst hn
    have hs : kidB 116 12 = false := by decide
    rw [hs]
    have H := fun W => Lib.hid (rType_any 12 W)
    go_enter Tryz.func40, Tryz.ntmps40
    go_wp2_with fail
    refine ((H _).out).mono ?_
    rintro e w1 ⟨rfl, rfl⟩
    go_wp2
    go_ret
    exact ⟨by first | rfl | decide, rfl⟩
  · have hs : kidB 116 k = (typeB k) := by rfl
    rw [hs]
    clear hs
    have H := fun W => Lib.hid (rType_any k W)
    obtain ⟨b, hb⟩ : ∃ b, typeB k = b := ⟨_, rfl⟩
    rw [hb] at H ⊢
    clear hb
    all_goals
      cases b
    all_goals
      go_enter Tryz.func40, Tryz.ntmps40
      go_wp2_with fail
      refine ((H _).out).mono ?_
      rintro e w1 ⟨rfl, rfl⟩
      go_wp2
      go_ret
      exact ⟨by simp [*], rfl⟩
set_option maxRecDepth 100000 in
theorem is116 (k : Int) (w : World) : Calls Tryz.prog 40 #[.int .i64 k, .int .u8 116] w fun e w' => e = .returned (.bool (kidB 84 k)) ∧ w = w' := by
  by_cases hn : k = 12
  · subst hn
    have hs : kidB 84 12 = true := by decide
    rw [hs]
    have H := fun W => Lib.hid (rType_any 12 W)
    go_enter Tryz.func40, Tryz.ntmps40
    go_wp2_with fail
    refine ((H _).out).mono ?_
    rintro e w1 ⟨rfl, rfl⟩
    go_wp2
    go_ret
    exact ⟨by first | rfl | decide, rfl⟩
  · have hs : kidB 84 k = (typeB k) := by simp [kidB, hn]
    rw [hs]
    clear hs
    have H := fun W => Lib.hid (rType_any k W)
    obtain ⟨b, hb⟩ : ∃ b, typeB k = b := ⟨_, rfl⟩
    rw [hb] at H ⊢
    clear hb
    all_goals
      cases b
    all_goals
      go_enter Tryz.func40, Tryz.ntmps40
      go_wp2_with fail
      refine ((H _).out).mono ?_
      rintro e w1 ⟨rfl, rfl⟩
      go_wp2
      go_ret
      exact ⟨by simp [*], rfl⟩
set_option maxRecDepth 100000 in
theorem is100 (k : Int) (w : World) : Calls Tryz.prog 40 #[.int .i64 k, .int .u8 100] w fun e w' => e = .returned (.bool (kidB 76 k)) ∧ w = w' := by
  by_cases hn : k = 12
  · subst hn
    have hs : kidB 76 12 = true := by decide
    rw [hs]
    have H := fun W => Lib.hid (rType_any 12 W)
    go_enter Tryz.func40, Tryz.ntmps40
    go_wp2_with fail
    refine ((H _).out).mono ?_
    rintro e w1 ⟨rfl, rfl⟩
    go_wp2
    go_ret
    exact ⟨by first | rfl | decide, rfl⟩
  · have hs : kidB 76 k = (typeB k || decide (k = 36)) := by simp [kidB, hn]
    rw [hs]
    clear hs
    have H := fun W => Lib.hid (rType_any k W)
    obtain ⟨b, hb⟩ : ∃ b, typeB k = b := ⟨_, rfl⟩
    rw [hb] at H ⊢
    clear hb
    by_cases h0 : k = 36
    all_goals
      cases b
    all_goals
      try subst h0
      go_enter Tryz.func40, Tryz.ntmps40
      go_wp2_with fail
      refine ((H _).out).mono ?_
      rintro e w1 ⟨rfl, rfl⟩
      go_wp2
      go_ret
      exact ⟨by simp [*], rfl⟩
set_option maxRecDepth 100000 in
theorem is102 (k : Int) (w : World) : Calls Tryz.prog 40 #[.int .i64 k, .int .u8 102] w fun e w' => e = .returned (.bool (kidB 70 k)) ∧ w = w' := by
  by_cases hn : k = 12
  · subst hn
    have hs : kidB 70 12 = false := by decide
    rw [hs]
    go_enter Tryz.func40, Tryz.ntmps40
    go_wp2
    go_ret
    exact ⟨rfl, rfl⟩
  · have hs : kidB 70 k = (decide (k = 22)) := by rfl
    rw [hs]
    clear hs
    by_cases h0 : k = 22
    all_goals
      try subst h0
      go_enter Tryz.func40, Tryz.ntmps40
      go_wp2
      go_ret
      exact ⟨by simp [*], rfl⟩
set_option maxRecDepth 100000 in
theorem is112 (k : Int) (w : World) : Calls Tryz.prog 40 #[.int .i64 k, .int .u8 112] w fun e w' => e = .returned (.bool (kidB 97 k)) ∧ w = w' := by
  by_cases hn : k = 12
  · subst hn
    have hs : kidB 97 12 = false := by decide
    rw [hs]
    have H := fun W => Lib.hid (rPlace_any 12 W)
    go_enter Tryz.func40, Tryz.ntmps40
    go_wp2_with fail
    refine ((H _).out).mono ?_
    rintro e w1 ⟨rfl, rfl⟩
    go_wp2
    go_ret
    exact ⟨by first | rfl | decide, rfl⟩
  · have hs : kidB 97 k = ((decide (k = 17) || decide (k = 18) || decide (k = 19))) := by rfl
    rw [hs]
    clear hs
    have H := fun W => Lib.hid (rPlace_any k W)
    obtain ⟨b, hb⟩ : ∃ b, (decide (k = 17) || decide (k = 18) || decide (k = 19)) = b := ⟨_, rfl⟩
    rw [hb] at H ⊢
    clear hb
    all_goals
      cases b
    all_goals
      go_enter Tryz.func40, Tryz.ntmps40
      go_wp2_with fail
      refine ((H _).out).mono ?_
      rintro e w1 ⟨rfl, rfl⟩
      go_wp2
      go_ret
      exact ⟨by simp [*], rfl⟩
set_option maxRecDepth 100000 in
theorem is99 (k : Int) (w : World) : Calls Tryz.prog 40 #[.int .i64 k, .int .u8 99] w fun e w' => e = .returned (.bool (kidB 107 k)) ∧ w = w' := by
  by_cases hn : k = 12
  · subst hn
    have hs : kidB 107 12 = false := by decide
    rw [hs]
    have H := fun W => Lib.hid (rCall_any 12 W)
    go_enter Tryz.func40, Tryz.ntmps40
    go_wp2_with fail
    refine ((H _).out).mono ?_
    rintro e w1 ⟨rfl, rfl⟩
    go_wp2
    go_ret
    exact ⟨by first | rfl | decide, rfl⟩
  · have hs : kidB 107 k = ((decide (k = 20) || decide (k = 21))) := by rfl
    rw [hs]
    clear hs
    have H := fun W => Lib.hid (rCall_any k W)
    obtain ⟨b, hb⟩ : ∃ b, (decide (k = 20) || decide (k = 21)) = b := ⟨_, rfl⟩
    rw [hb] at H ⊢
    clear hb
    all_goals
      cases b
    all_goals
      go_enter Tryz.func40, Tryz.ntmps40
      go_wp2_with fail
      refine ((H _).out).mono ?_
      rintro e w1 ⟨rfl, rfl⟩
      go_wp2
      go_ret
      exact ⟨by simp [*], rfl⟩
set_option maxRecDepth 100000 in
theorem is115 (k : Int) (w : World) : Calls Tryz.prog 40 #[.int .i64 k, .int .u8 115] w fun e w' => e = .returned (.bool (kidB 115 k)) ∧ w = w' := by
  by_cases hn : k = 12
  · subst hn
    have hs : kidB 115 12 = false := by decide
    rw [hs]
    have H := fun W => Lib.hid (rStat_any 12 W)
    go_enter Tryz.func40, Tryz.ntmps40
    go_wp2_with fail
    refine ((H _).out).mono ?_
    rintro e w1 ⟨rfl, rfl⟩
    go_wp2
    go_ret
    exact ⟨by first | rfl | decide, rfl⟩
  · have hs : kidB 115 k = (statB k) := by rfl
    rw [hs]
    clear hs
    have H := fun W => Lib.hid (rStat_any k W)
    obtain ⟨b, hb⟩ : ∃ b, statB k = b := ⟨_, rfl⟩
    rw [hb] at H ⊢
    clear hb
    all_goals
      cases b
    all_goals
      go_enter Tryz.func40, Tryz.ntmps40
      go_wp2_with fail
      refine ((H _).out).mono ?_
      rintro e w1 ⟨rfl, rfl⟩
      go_wp2
      go_ret
      exact ⟨by simp [*], rfl⟩
set_option maxRecDepth 100000 in
theorem is80 (k : Int) (w : World) : Calls Tryz.prog 40 #[.int .i64 k, .int .u8 80] w fun e w' => e = .returned (.bool (kidB 112 k)) ∧ w = w' := by
  by_cases hn : k = 12
  · subst hn
    have hs : kidB 112 12 = false := by decide
    rw [hs]
    go_enter Tryz.func40, Tryz.ntmps40
    go_wp2
    go_ret
    exact ⟨rfl, rfl⟩
  · have hs : kidB 112 k = (decide (k = 23)) := by rfl
    rw [hs]
    clear hs
    by_cases h0 : k = 23
    all_goals
      try subst h0
      go_enter Tryz.func40, Tryz.ntmps40
      go_wp2
      go_ret
      exact ⟨by simp [*], rfl⟩
set_option maxRecDepth 100000 in
theorem is110 (k : Int) (w : World) : Calls Tryz.prog 40 #[.int .i64 k, .int .u8 110] w fun e w' => e = .returned (.bool (kidB 110 k)) ∧ w = w' := by
  by_cases hn : k = 12
  · subst hn
    have hs : kidB 110 12 = false := by decide
    rw [hs]
    go_enter Tryz.func40, Tryz.ntmps40
    go_wp2
    go_ret
    exact ⟨rfl, rfl⟩
  · have hs : kidB 110 k = (decide (k = 25) || decide (k = 26)) := by rfl
    rw [hs]
    clear hs
    by_cases h0 : k = 25 <;> by_cases h1 : k = 26
    all_goals try (exfalso; omega)
    all_goals
      try subst h0
      try subst h1
      go_enter Tryz.func40, Tryz.ntmps40
      go_wp2
      go_ret
      exact ⟨by simp [*], rfl⟩
set_option maxRecDepth 100000 in
theorem is104 (k : Int) (w : World) : Calls Tryz.prog 40 #[.int .i64 k, .int .u8 104] w fun e w' => e = .returned (.bool (kidB 99 k)) ∧ w = w' := by
  by_cases hn : k = 12
  · subst hn
    have hs : kidB 99 12 = false := by decide
    rw [hs]
    go_enter Tryz.func40, Tryz.ntmps40
    go_wp2
    go_ret
    exact ⟨rfl, rfl⟩
  · have hs : kidB 99 k = (decide (k = 2)) := by rfl
    rw [hs]
    clear hs
    by_cases h0 : k = 2
    all_goals
      try subst h0
      go_enter Tryz.func40, Tryz.ntmps40
      go_wp2
      go_ret
      exact ⟨by simp [*], rfl⟩
set_option maxRecDepth 100000 in
theorem is117 (k : Int) (w : World) : Calls Tryz.prog 40 #[.int .i64 k, .int .u8 117] w fun e w' => e = .returned (.bool (kidB 109 k)) ∧ w = w' := by
  by_cases hn : k = 12
  · subst hn
    have hs : kidB 109 12 = false := by decide
    rw [hs]
    go_enter Tryz.func40, Tryz.ntmps40
    go_wp2
    go_ret
    exact ⟨rfl, rfl⟩
  · have hs : kidB 109 k = (decide (k = 31) || decide (k = 32)) := by rfl
    rw [hs]
    clear hs
    by_cases h0 : k = 31 <;> by_cases h1 : k = 32
    all_goals try (exfalso; omega)
    all_goals
      try subst h0
      try subst h1
      go_enter Tryz.func40, Tryz.ntmps40
      go_wp2
      go_ret
      exact ⟨by simp [*], rfl⟩
set_option maxRecDepth 100000 in
theorem is70 (k : Int) (w : World) : Calls Tryz.prog 40 #[.int .i64 k, .int .u8 70] w fun e w' => e = .returned (.bool (kidB 102 k)) ∧ w = w' := by
  by_cases hn : k = 12
  · subst hn
    have hs : kidB 102 12 = false := by decide
    rw [hs]
    go_enter Tryz.func40, Tryz.ntmps40
    go_wp2
    go_ret
    exact ⟨rfl, rfl⟩
  · have hs : kidB 102 k = (decide (k = 33)) := by rfl
    rw [hs]
    clear hs
    by_cases h0 : k = 33
    all_goals
      try subst h0
      go_enter Tryz.func40, Tryz.ntmps40
      go_wp2
      go_ret
      exact ⟨by simp [*], rfl⟩
set_option maxRecDepth 100000 in
theorem shape1 (w : World) : Calls Tryz.prog 39 #[.int .i64 1] w fun e w' => e = .returned (.tuple #[.string ⟨#[]⟩, .string ⟨#[104]⟩, .string ⟨#[98]⟩, .bool true]) ∧ w = w' := by
  go_enter Tryz.func39, Tryz.ntmps39
  go_wp2
  exact bodyPost_ret (v := .tuple #[.string ⟨#[]⟩, .string ⟨#[104]⟩, .string ⟨#[98]⟩, .bool true]) (by simp [results, Tryz.results39, go_sem]) rfl ⟨rfl, rfl⟩
set_option maxRecDepth 100000 in
theorem shape2 (w : World) : Calls Tryz.prog 39 #[.int .i64 2] w fun e w' => e = .returned (.tuple #[.string ⟨#[]⟩, .string ⟨#[]⟩, .string ⟨#[]⟩, .bool true]) ∧ w = w' := by
  go_enter Tryz.func39, Tryz.ntmps39
  go_wp2
  exact bodyPost_ret (v := .tuple #[.string ⟨#[]⟩, .string ⟨#[]⟩, .string ⟨#[]⟩, .bool true]) (by simp [results, Tryz.results39, go_sem]) rfl ⟨rfl, rfl⟩
set_option maxRecDepth 100000 in
theorem shape3 (w : World) : Calls Tryz.prog 39 #[.int .i64 3] w fun e w' => e = .returned (.tuple #[.string ⟨#[]⟩, .string ⟨#[115]⟩, .string ⟨#[]⟩, .bool true]) ∧ w = w' := by
  go_enter Tryz.func39, Tryz.ntmps39
  go_wp2
  exact bodyPost_ret (v := .tuple #[.string ⟨#[]⟩, .string ⟨#[115]⟩, .string ⟨#[]⟩, .bool true]) (by simp [results, Tryz.results39, go_sem]) rfl ⟨rfl, rfl⟩
set_option maxRecDepth 100000 in
theorem shape4 (w : World) : Calls Tryz.prog 39 #[.int .i64 4] w fun e w' => e = .returned (.tuple #[.string ⟨#[100, 69]⟩, .string ⟨#[]⟩, .string ⟨#[]⟩, .bool true]) ∧ w = w' := by
  go_enter Tryz.func39, Tryz.ntmps39
  go_wp2
  exact bodyPost_ret (v := .tuple #[.string ⟨#[100, 69]⟩, .string ⟨#[]⟩, .string ⟨#[]⟩, .bool true]) (by simp [results, Tryz.results39, go_sem]) rfl ⟨rfl, rfl⟩
set_option maxRecDepth 100000 in
theorem shape5 (w : World) : Calls Tryz.prog 39 #[.int .i64 5] w fun e w' => e = .returned (.tuple #[.string ⟨#[102]⟩, .string ⟨#[]⟩, .string ⟨#[]⟩, .bool true]) ∧ w = w' := by
  go_enter Tryz.func39, Tryz.ntmps39
  go_wp2
  exact bodyPost_ret (v := .tuple #[.string ⟨#[102]⟩, .string ⟨#[]⟩, .string ⟨#[]⟩, .bool true]) (by simp [results, Tryz.results39, go_sem]) rfl ⟨rfl, rfl⟩
set_option maxRecDepth 100000 in
theorem shape6 (w : World) : Calls Tryz.prog 39 #[.int .i64 6] w fun e w' => e = .returned (.tuple #[.string ⟨#[112, 101]⟩, .string ⟨#[]⟩, .string ⟨#[]⟩, .bool true]) ∧ w = w' := by
  go_enter Tryz.func39, Tryz.ntmps39
  go_wp2
  exact bodyPost_ret (v := .tuple #[.string ⟨#[112, 101]⟩, .string ⟨#[]⟩, .string ⟨#[]⟩, .bool true]) (by simp [results, Tryz.results39, go_sem]) rfl ⟨rfl, rfl⟩
set_option maxRecDepth 100000 in
theorem shape7 (w : World) : Calls Tryz.prog 39 #[.int .i64 7] w fun e w' => e = .returned (.tuple #[.string ⟨#[99]⟩, .string ⟨#[]⟩, .string ⟨#[]⟩, .bool true]) ∧ w = w' := by
  go_enter Tryz.func39, Tryz.ntmps39
  go_wp2
  exact bodyPost_ret (v := .tuple #[.string ⟨#[99]⟩, .string ⟨#[]⟩, .string ⟨#[]⟩, .bool true]) (by simp [results, Tryz.results39, go_sem]) rfl ⟨rfl, rfl⟩
set_option maxRecDepth 100000 in
theorem shape8 (w : World) : Calls Tryz.prog 39 #[.int .i64 8] w fun e w' => e = .returned (.tuple #[.string ⟨#[101, 98, 66]⟩, .string ⟨#[]⟩, .string ⟨#[]⟩, .bool true]) ∧ w = w' := by
  go_enter Tryz.func39, Tryz.ntmps39
  go_wp2
  exact bodyPost_ret (v := .tuple #[.string ⟨#[101, 98, 66]⟩, .string ⟨#[]⟩, .string ⟨#[]⟩, .bool true]) (by simp [results, Tryz.results39, go_sem]) rfl ⟨rfl, rfl⟩
set_option maxRecDepth 100000 in
theorem shape9 (w : World) : Calls Tryz.prog 39 #[.int .i64 9] w fun e w' => e = .returned (.tuple #[.string ⟨#[101, 98]⟩, .string ⟨#[]⟩, .string ⟨#[]⟩, .bool true]) ∧ w = w' := by
  go_enter Tryz.func39, Tryz.ntmps39
  go_wp2
  exact bodyPost_ret (v := .tuple #[.string ⟨#[101, 98]⟩, .string ⟨#[]⟩, .string ⟨#[]⟩, .bool true]) (by simp [results, Tryz.results39, go_sem]) rfl ⟨rfl, rfl⟩
set_option maxRecDepth 100000 in
theorem shape10 (w : World) : Calls Tryz.prog 39 #[.int .i64 10] w fun e w' => e = .returned (.tuple #[.string ⟨#[69]⟩, .string ⟨#[]⟩, .string ⟨#[]⟩, .bool true]) ∧ w = w' := by
  go_enter Tryz.func39, Tryz.ntmps39
  go_wp2
  exact bodyPost_ret (v := .tuple #[.string ⟨#[69]⟩, .string ⟨#[]⟩, .string ⟨#[]⟩, .bool true]) (by simp [results, Tryz.results39, go_sem]) rfl ⟨rfl, rfl⟩
set_option maxRecDepth 100000 in
theorem shape11 (w : World) : Calls Tryz.prog 39 #[.int .i64 11] w fun e w' => e = .returned (.tuple #[.string ⟨#[]⟩, .string ⟨#[]⟩, .string ⟨#[]⟩, .bool true]) ∧ w = w' := by
  go_enter Tryz.func39, Tryz.ntmps39
  go_wp2
  exact bodyPost_ret (v := .tuple #[.string ⟨#[]⟩, .string ⟨#[]⟩, .string ⟨#[]⟩, .bool true]) (by simp [results, Tryz.results39, go_sem]) rfl ⟨rfl, rfl⟩
set_option maxRecDepth 100000 in
theorem shape12 (w : World) : Calls Tryz.prog 39 #[.int .i64 12] w fun e w' => e = .returned (.tuple #[.string ⟨#[]⟩, .string ⟨#[]⟩, .string ⟨#[]⟩, .bool true]) ∧ w = w' := by
  go_enter Tryz.func39, Tryz.ntmps39
  go_wp2
  exact bodyPost_ret (v := .tuple #[.string ⟨#[]⟩, .string ⟨#[]⟩, .string ⟨#[]⟩, .bool true]) (by simp [results, Tryz.results39, go_sem]) rfl ⟨rfl, rfl⟩
set_option maxRecDepth 100000 in
theorem shape13 (w : World) : Calls Tryz.prog 39 #[.int .i64 13] w fun e w' => e = .returned (.tuple #[.string ⟨#[]⟩, .string ⟨#[]⟩, .string ⟨#[]⟩, .bool true]) ∧ w = w' := by
  go_enter Tryz.func39, Tryz.ntmps39
  go_wp2
  exact bodyPost_ret (v := .tuple #[.string ⟨#[]⟩, .string ⟨#[]⟩, .string ⟨#[]⟩, .bool true]) (by simp [results, Tryz.results39, go_sem]) rfl ⟨rfl, rfl⟩
set_option maxRecDepth 100000 in
theorem shape14 (w : World) : Calls Tryz.prog 39 #[.int .i64 14] w fun e w' => e = .returned (.tuple #[.string ⟨#[]⟩, .string ⟨#[]⟩, .string ⟨#[]⟩, .bool true]) ∧ w = w' := by
  go_enter Tryz.func39, Tryz.ntmps39
  go_wp2
  exact bodyPost_ret (v := .tuple #[.string ⟨#[]⟩, .string ⟨#[]⟩, .string ⟨#[]⟩, .bool true]) (by simp [results, Tryz.results39, go_sem]) rfl ⟨rfl, rfl⟩
set_option maxRecDepth 100000 in
theorem shape15 (w : World) : Calls Tryz.prog 39 #[.int .i64 15] w fun e w' => e = .returned (.tuple #[.string ⟨#[]⟩, .string ⟨#[]⟩, .string ⟨#[]⟩, .bool true]) ∧ w = w' := by
  go_enter Tryz.func39, Tryz.ntmps39
  go_wp2
  exact bodyPost_ret (v := .tuple #[.string ⟨#[]⟩, .string ⟨#[]⟩, .string ⟨#[]⟩, .bool true]) (by simp [results, Tryz.results39, go_sem]) rfl ⟨rfl, rfl⟩
set_option maxRecDepth 100000 in
theorem shape16 (w : World) : Calls Tryz.prog 39 #[.int .i64 16] w fun e w' => e = .returned (.tuple #[.string ⟨#[]⟩, .string ⟨#[]⟩, .string ⟨#[]⟩, .bool true]) ∧ w = w' := by
  go_enter Tryz.func39, Tryz.ntmps39
  go_wp2
  exact bodyPost_ret (v := .tuple #[.string ⟨#[]⟩, .string ⟨#[]⟩, .string ⟨#[]⟩, .bool true]) (by simp [results, Tryz.results39, go_sem]) rfl ⟨rfl, rfl⟩
set_option maxRecDepth 100000 in
theorem shape17 (w : World) : Calls Tryz.prog 39 #[.int .i64 17] w fun e w' => e = .returned (.tuple #[.string ⟨#[]⟩, .string ⟨#[]⟩, .string ⟨#[]⟩, .bool true]) ∧ w = w' := by
  go_enter Tryz.func39, Tryz.ntmps39
  go_wp2
  exact bodyPost_ret (v := .tuple #[.string ⟨#[]⟩, .string ⟨#[]⟩, .string ⟨#[]⟩, .bool true]) (by simp [results, Tryz.results39, go_sem]) rfl ⟨rfl, rfl⟩
set_option maxRecDepth 100000 in
theorem shape18 (w : World) : Calls Tryz.prog 39 #[.int .i64 18] w fun e w' => e = .returned (.tuple #[.string ⟨#[101]⟩, .string ⟨#[]⟩, .string ⟨#[]⟩, .bool true]) ∧ w = w' := by
  go_enter Tryz.func39, Tryz.ntmps39
  go_wp2
  exact bodyPost_ret (v := .tuple #[.string ⟨#[101]⟩, .string ⟨#[]⟩, .string ⟨#[]⟩, .bool true]) (by simp [results, Tryz.results39, go_sem]) rfl ⟨rfl, rfl⟩
set_option maxRecDepth 100000 in
theorem shape19 (w : World) : Calls Tryz.prog 39 #[.int .i64 19] w fun e w' => e = .returned (.tuple #[.string ⟨#[101, 101]⟩, .string ⟨#[]⟩, .string ⟨#[]⟩, .bool true]) ∧ w = w' := by
  go_enter Tryz.func39, Tryz.ntmps39
  go_wp2
  exact bodyPost_ret (v := .tuple #[.string ⟨#[101, 101]⟩, .string ⟨#[]⟩, .string ⟨#[]⟩, .bool true]) (by simp [results, Tryz.results39, go_sem]) rfl ⟨rfl, rfl⟩
set_option maxRecDepth 100000 in
theorem shape20 (w : World) : Calls Tryz.prog 39 #[.int .i64 20] w fun e w' => e = .returned (.tuple #[.string ⟨#[101]⟩, .string ⟨#[101]⟩, .string ⟨#[]⟩, .bool true]) ∧ w = w' := by
  go_enter Tryz.func39, Tryz.ntmps39
  go_wp2
  exact bodyPost_ret (v := .tuple #[.string ⟨#[101]⟩, .string ⟨#[101]⟩, .string ⟨#[]⟩, .bool true]) (by simp [results, Tryz.results39, go_sem]) rfl ⟨rfl, rfl⟩
set_option maxRecDepth 100000 in
theorem shape21 (w : World) : Calls Tryz.prog 39 #[.int .i64 21] w fun e w' => e = .returned (.tuple #[.string ⟨#[]⟩, .string ⟨#[101]⟩, .string ⟨#[]⟩, .bool true]) ∧ w = w' := by
  go_enter Tryz.func39, Tryz.ntmps39
  go_wp2
  exact bodyPost_ret (v := .tuple #[.string ⟨#[]⟩, .string ⟨#[101]⟩, .string ⟨#[]⟩, .bool true]) (by simp [results, Tryz.results39, go_sem]) rfl ⟨rfl, rfl⟩
set_option maxRecDepth 100000 in
theorem shape22 (w : World) : Calls Tryz.prog 39 #[.int .i64 22] w fun e w' => e = .returned (.tuple #[.string ⟨#[]⟩, .string ⟨#[80]⟩, .string ⟨#[116, 98]⟩, .bool true]) ∧ w = w' := by
  go_enter Tryz.func39, Tryz.ntmps39
  go_wp2
  exact bodyPost_ret (v := .tuple #[.string ⟨#[]⟩, .string ⟨#[80]⟩, .string ⟨#[116, 98]⟩, .bool true]) (by simp [results, Tryz.results39, go_sem]) rfl ⟨rfl, rfl⟩
set_option maxRecDepth 100000 in
theorem shape23 (w : World) : Calls Tryz.prog 39 #[.int .i64 23] w fun e w' => e = .returned (.tuple #[.string ⟨#[100]⟩, .string ⟨#[]⟩, .string ⟨#[]⟩, .bool true]) ∧ w = w' := by
  go_enter Tryz.func39, Tryz.ntmps39
  go_wp2
  exact bodyPost_ret (v := .tuple #[.string ⟨#[100]⟩, .string ⟨#[]⟩, .string ⟨#[]⟩, .bool true]) (by simp [results, Tryz.results39, go_sem]) rfl ⟨rfl, rfl⟩
set_option maxRecDepth 100000 in
theorem shape24 (w : World) : Calls Tryz.prog 39 #[.int .i64 24] w fun e w' => e = .returned (.tuple #[.string ⟨#[]⟩, .string ⟨#[110]⟩, .string ⟨#[]⟩, .bool true]) ∧ w = w' := by
  go_enter Tryz.func39, Tryz.ntmps39
  go_wp2
  exact bodyPost_ret (v := .tuple #[.string ⟨#[]⟩, .string ⟨#[110]⟩, .string ⟨#[]⟩, .bool true]) (by simp [results, Tryz.results39, go_sem]) rfl ⟨rfl, rfl⟩
set_option maxRecDepth 100000 in
theorem shape25 (w : World) : Calls Tryz.prog 39 #[.int .i64 25] w fun e w' => e = .returned (.tuple #[.string ⟨#[101]⟩, .string ⟨#[]⟩, .string ⟨#[]⟩, .bool true]) ∧ w = w' := by
  go_enter Tryz.func39, Tryz.ntmps39
  go_wp2
  exact bodyPost_ret (v := .tuple #[.string ⟨#[101]⟩, .string ⟨#[]⟩, .string ⟨#[]⟩, .bool true]) (by simp [results, Tryz.results39, go_sem]) rfl ⟨rfl, rfl⟩
set_option maxRecDepth 100000 in
theorem shape26 (w : World) : Calls Tryz.prog 39 #[.int .i64 26] w fun e w' => e = .returned (.tuple #[.string ⟨#[101]⟩, .string ⟨#[]⟩, .string ⟨#[]⟩, .bool true]) ∧ w = w' := by
  go_enter Tryz.func39, Tryz.ntmps39
  go_wp2
  exact bodyPost_ret (v := .tuple #[.string ⟨#[101]⟩, .string ⟨#[]⟩, .string ⟨#[]⟩, .bool true]) (by simp [results, Tryz.results39, go_sem]) rfl ⟨rfl, rfl⟩
set_option maxRecDepth 100000 in
theorem shape27 (w : World) : Calls Tryz.prog 39 #[.int .i64 27] w fun e w' => e = .returned (.tuple #[.string ⟨#[101, 101]⟩, .string ⟨#[]⟩, .string ⟨#[]⟩, .bool true]) ∧ w = w' := by
  go_enter Tryz.func39, Tryz.ntmps39
  go_wp2
  exact bodyPost_ret (v := .tuple #[.string ⟨#[101, 101]⟩, .string ⟨#[]⟩, .string ⟨#[]⟩, .bool true]) (by simp [results, Tryz.results39, go_sem]) rfl ⟨rfl, rfl⟩
set_option maxRecDepth 100000 in
theorem shape28 (w : World) : Calls Tryz.prog 39 #[.int .i64 28] w fun e w' => e = .returned (.tuple #[.string ⟨#[101]⟩, .string ⟨#[]⟩, .string ⟨#[]⟩, .bool true]) ∧ w = w' := by
  go_enter Tryz.func39, Tryz.ntmps39
  go_wp2
  exact bodyPost_ret (v := .tuple #[.string ⟨#[101]⟩, .string ⟨#[]⟩, .string ⟨#[]⟩, .bool true]) (by simp [results, Tryz.results39, go_sem]) rfl ⟨rfl, rfl⟩
set_option maxRecDepth 100000 in
theorem shape29 (w : World) : Calls Tryz.prog 39 #[.int .i64 29] w fun e w' => e = .returned (.tuple #[.string ⟨#[101, 101]⟩, .string ⟨#[]⟩, .string ⟨#[]⟩, .bool true]) ∧ w = w' := by
  go_enter Tryz.func39, Tryz.ntmps39
  go_wp2
  exact bodyPost_ret (v := .tuple #[.string ⟨#[101, 101]⟩, .string ⟨#[]⟩, .string ⟨#[]⟩, .bool true]) (by simp [results, Tryz.results39, go_sem]) rfl ⟨rfl, rfl⟩
set_option maxRecDepth 100000 in
theorem shape30 (w : World) : Calls Tryz.prog 39 #[.int .i64 30] w fun e w' => e = .returned (.tuple #[.string ⟨#[101, 101]⟩, .string ⟨#[]⟩, .string ⟨#[]⟩, .bool true]) ∧ w = w' := by
  go_enter Tryz.func39, Tryz.ntmps39
  go_wp2
  exact bodyPost_ret (v := .tuple #[.string ⟨#[101, 101]⟩, .string ⟨#[]⟩, .string ⟨#[]⟩, .bool true]) (by simp [results, Tryz.results39, go_sem]) rfl ⟨rfl, rfl⟩
set_option maxRecDepth 100000 in
theorem shape31 (w : World) : Calls Tryz.prog 39 #[.int .i64 31] w fun e w' => e = .returned (.tuple #[.string ⟨#[]⟩, .string ⟨#[]⟩, .string ⟨#[]⟩, .bool true]) ∧ w = w' := by
  go_enter Tryz.func39, Tryz.ntmps39
  go_wp2
  exact bodyPost_ret (v := .tuple #[.string ⟨#[]⟩, .string ⟨#[]⟩, .string ⟨#[]⟩, .bool true]) (by simp [results, Tryz.results39, go_sem]) rfl ⟨rfl, rfl⟩
set_option maxRecDepth 100000 in
theorem shape32 (w : World) : Calls Tryz.prog 39 #[.int .i64 32] w fun e w' => e = .returned (.tuple #[.string ⟨#[]⟩, .string ⟨#[70]⟩, .string ⟨#[]⟩, .bool true]) ∧ w = w' := by
  go_enter Tryz.func39, Tryz.ntmps39
  go_wp2
  exact bodyPost_ret (v := .tuple #[.string ⟨#[]⟩, .string ⟨#[70]⟩, .string ⟨#[]⟩, .bool true]) (by simp [results, Tryz.results39, go_sem]) rfl ⟨rfl, rfl⟩
set_option maxRecDepth 100000 in
theorem shape33 (w : World) : Calls Tryz.prog 39 #[.int .i64 33] w fun e w' => e = .returned (.tuple #[.string ⟨#[84]⟩, .string ⟨#[]⟩, .string ⟨#[]⟩, .bool true]) ∧ w = w' := by
  go_enter Tryz.func39, Tryz.ntmps39
  go_wp2
  exact bodyPost_ret (v := .tuple #[.string ⟨#[84]⟩, .string ⟨#[]⟩, .string ⟨#[]⟩, .bool true]) (by simp [results, Tryz.results39, go_sem]) rfl ⟨rfl, rfl⟩
set_option maxRecDepth 100000 in
theorem shape34 (w : World) : Calls Tryz.prog 39 #[.int .i64 34] w fun e w' => e = .returned (.tuple #[.string ⟨#[]⟩, .string ⟨#[84]⟩, .string ⟨#[84]⟩, .bool true]) ∧ w = w' := by
  go_enter Tryz.func39, Tryz.ntmps39
  go_wp2
  exact bodyPost_ret (v := .tuple #[.string ⟨#[]⟩, .string ⟨#[84]⟩, .string ⟨#[84]⟩, .bool true]) (by simp [results, Tryz.results39, go_sem]) rfl ⟨rfl, rfl⟩
set_option maxRecDepth 100000 in
theorem shape35 (w : World) : Calls Tryz.prog 39 #[.int .i64 35] w fun e w' => e = .returned (.tuple #[.string ⟨#[117, 117]⟩, .string ⟨#[117]⟩, .string ⟨#[]⟩, .bool true]) ∧ w = w' := by
  go_enter Tryz.func39, Tryz.ntmps39
  go_wp2
  exact bodyPost_ret (v := .tuple #[.string ⟨#[117, 117]⟩, .string ⟨#[117]⟩, .string ⟨#[]⟩, .bool true]) (by simp [results, Tryz.results39, go_sem]) rfl ⟨rfl, rfl⟩
set_option maxRecDepth 100000 in
theorem shape36 (w : World) : Calls Tryz.prog 39 #[.int .i64 36] w fun e w' => e = .returned (.tuple #[.string ⟨#[84]⟩, .string ⟨#[]⟩, .string ⟨#[]⟩, .bool true]) ∧ w = w' := by
  go_enter Tryz.func39, Tryz.ntmps39
  go_wp2
  exact bodyPost_ret (v := .tuple #[.string ⟨#[84]⟩, .string ⟨#[]⟩, .string ⟨#[]⟩, .bool true]) (by simp [results, Tryz.results39, go_sem]) rfl ⟨rfl, rfl⟩
set_option maxRecDepth 100000 in
theorem shape_no (k : Int) (h : k < 1 ∨ 36 < k) (w : World) : Calls Tryz.prog 39 #[.int .i64 k] w fun e w' => e = .returned (.tuple #[.string ⟨#[]⟩, .string ⟨#[]⟩, .string ⟨#[]⟩, .bool false]) ∧ w = w' := by
  have h1 : ¬ k = 1 := by omega
  have h2 : ¬ k = 2 := by omega
  have h3 : ¬ k = 3 := by omega
  have h4 : ¬ k = 4 := by omega
  have h5 : ¬ k = 5 := by omega
  have h6 : ¬ k = 6 := by omega
  have h7 : ¬ k = 7 := by omega
  have h8 : ¬ k = 8 := by omega
  have h9 : ¬ k = 9 := by omega
  have h10 : ¬ k = 10 := by omega
  have h11 : ¬ k = 11 := by omega
  have h12 : ¬ k = 12 := by omega
  have h13 : ¬ k = 13 := by omega
  have h14 : ¬ k = 14 := by omega
  have h15 : ¬ k = 15 := by omega
  have h16 : ¬ k = 16 := by omega
  have h17 : ¬ k = 17 := by omega
  have h18 : ¬ k = 18 := by omega
  have h19 : ¬ k = 19 := by omega
  have h20 : ¬ k = 20 := by omega
  have h21 : ¬ k = 21 := by omega
  have h22 : ¬ k = 22 := by omega
  have h23 : ¬ k = 23 := by omega
  have h24 : ¬ k = 24 := by omega
  have h25 : ¬ k = 25 := by omega
  have h26 : ¬ k = 26 := by omega
  have h27 : ¬ k = 27 := by omega
  have h28 : ¬ k = 28 := by omega
  have h29 : ¬ k = 29 := by omega
  have h30 : ¬ k = 30 := by omega
  have h31 : ¬ k = 31 := by omega
  have h32 : ¬ k = 32 := by omega
  have h33 : ¬ k = 33 := by omega
  have h34 : ¬ k = 34 := by omega
  have h35 : ¬ k = 35 := by omega
  have h36 : ¬ k = 36 := by omega
  go_enter Tryz.func39, Tryz.ntmps39
  go_wp2
  exact bodyPost_ret (v := .tuple #[.string ⟨#[]⟩, .string ⟨#[]⟩, .string ⟨#[]⟩, .bool false]) (by simp [results, Tryz.results39, go_sem]) rfl ⟨rfl, rfl⟩
end TreeD
end Go.Proofs.YtmdkocegnbcgmaaGreatDoor

namespace Go.Proofs.YtmdkocegnbcgmaaGreatDoor
open Go.RowKit ObjM
namespace TreeD

/-- The document's letters, as ours. -/
def trL (c : UInt8) : UInt8 := if c = 98 then 98 else if c = 66 then 66 else if c = 101 then 101 else if c = 69 then 69 else if c = 84 then 116 else if c = 116 then 84 else if c = 100 then 76 else if c = 102 then 70 else if c = 112 then 97 else if c = 99 then 107 else if c = 115 then 115 else if c = 80 then 112 else if c = 110 then 110 else if c = 104 then 99 else if c = 117 then 109 else if c = 70 then 102 else 0
def DOCL : List UInt8 := [98, 66, 101, 69, 84, 116, 100, 102, 112, 99, 115, 80, 110, 104, 117, 70]
theorem is_any (c : UInt8) (hc : c ∈ DOCL) (k : Int) (w : World) : Calls Tryz.prog 40 #[.int .i64 k, .int .u8 (c.toNat : Int)] w fun e w' => e = .returned (.bool (kidB (trL c).toNat k)) ∧ w = w' := by
  simp only [DOCL, List.mem_cons, List.not_mem_nil, or_false] at hc
  rcases hc with rfl | rfl | rfl | rfl | rfl | rfl | rfl | rfl | rfl | rfl | rfl | rfl | rfl | rfl | rfl | rfl
  · exact is98 k w
  · exact is66 k w
  · exact is101 k w
  · exact is69 k w
  · exact is84 k w
  · exact is116 k w
  · exact is100 k w
  · exact is102 k w
  · exact is112 k w
  · exact is99 k w
  · exact is115 k w
  · exact is80 k w
  · exact is110 k w
  · exact is104 k w
  · exact is117 k w
  · exact is70 k w
structure Sh (k : Int) (A O B : List UInt8) : Prop where
  call : ∀ w, Calls Tryz.prog 39 #[.int .i64 k] w fun e w' => e = .returned (.tuple #[.string ⟨A.toArray⟩, .string ⟨O.toArray⟩, .string ⟨B.toArray⟩, .bool true]) ∧ w = w'
  fit : ∀ ks, rfitB k ks = rfitP (A.map trL) ((O.map trL).head?) (B.map trL) ks
  all : ∀ c ∈ A ++ O ++ B, c ∈ DOCL
  len : A.length ≤ 3 ∧ O.length ≤ 1 ∧ B.length ≤ 3
theorem shape_of (k : Int) (h1 : 1 ≤ k) (h2 : k ≤ 36) : ∃ A O B, Sh k A O B := by
  have hk : k = 1 ∨ k = 2 ∨ k = 3 ∨ k = 4 ∨ k = 5 ∨ k = 6 ∨ k = 7 ∨ k = 8 ∨ k = 9 ∨ k = 10 ∨ k = 11 ∨ k = 12 ∨ k = 13 ∨ k = 14 ∨ k = 15 ∨ k = 16 ∨ k = 17 ∨ k = 18 ∨ k = 19 ∨ k = 20 ∨ k = 21 ∨ k = 22 ∨ k = 23 ∨ k = 24 ∨ k = 25 ∨ k = 26 ∨ k = 27 ∨ k = 28 ∨ k = 29 ∨ k = 30 ∨ k = 31 ∨ k = 32 ∨ k = 33 ∨ k = 34 ∨ k = 35 ∨ k = 36 := by omega
  rcases hk with rfl | rfl | rfl | rfl | rfl | rfl | rfl | rfl | rfl | rfl | rfl | rfl | rfl | rfl | rfl | rfl | rfl | rfl | rfl | rfl | rfl | rfl | rfl | rfl | rfl | rfl | rfl | rfl | rfl | rfl | rfl | rfl | rfl | rfl | rfl | rfl
  · exact ⟨[], [104], [98], shape1, fun _ => rfl, by decide, by decide⟩
  · exact ⟨[], [], [], shape2, fun _ => rfl, by decide, by decide⟩
  · exact ⟨[], [115], [], shape3, fun _ => rfl, by decide, by decide⟩
  · exact ⟨[100, 69], [], [], shape4, fun _ => rfl, by decide, by decide⟩
  · exact ⟨[102], [], [], shape5, fun _ => rfl, by decide, by decide⟩
  · exact ⟨[112, 101], [], [], shape6, fun _ => rfl, by decide, by decide⟩
  · exact ⟨[99], [], [], shape7, fun _ => rfl, by decide, by decide⟩
  · exact ⟨[101, 98, 66], [], [], shape8, fun _ => rfl, by decide, by decide⟩
  · exact ⟨[101, 98], [], [], shape9, fun _ => rfl, by decide, by decide⟩
  · exact ⟨[69], [], [], shape10, fun _ => rfl, by decide, by decide⟩
  · exact ⟨[], [], [], shape11, fun _ => rfl, by decide, by decide⟩
  · exact ⟨[], [], [], shape12, fun _ => rfl, by decide, by decide⟩
  · exact ⟨[], [], [], shape13, fun _ => rfl, by decide, by decide⟩
  · exact ⟨[], [], [], shape14, fun _ => rfl, by decide, by decide⟩
  · exact ⟨[], [], [], shape15, fun _ => rfl, by decide, by decide⟩
  · exact ⟨[], [], [], shape16, fun _ => rfl, by decide, by decide⟩
  · exact ⟨[], [], [], shape17, fun _ => rfl, by decide, by decide⟩
  · exact ⟨[101], [], [], shape18, fun _ => rfl, by decide, by decide⟩
  · exact ⟨[101, 101], [], [], shape19, fun _ => rfl, by decide, by decide⟩
  · exact ⟨[101], [101], [], shape20, fun _ => rfl, by decide, by decide⟩
  · exact ⟨[], [101], [], shape21, fun _ => rfl, by decide, by decide⟩
  · exact ⟨[], [80], [116, 98], shape22, fun _ => rfl, by decide, by decide⟩
  · exact ⟨[100], [], [], shape23, fun _ => rfl, by decide, by decide⟩
  · exact ⟨[], [110], [], shape24, fun _ => rfl, by decide, by decide⟩
  · exact ⟨[101], [], [], shape25, fun _ => rfl, by decide, by decide⟩
  · exact ⟨[101], [], [], shape26, fun _ => rfl, by decide, by decide⟩
  · exact ⟨[101, 101], [], [], shape27, fun _ => rfl, by decide, by decide⟩
  · exact ⟨[101], [], [], shape28, fun _ => rfl, by decide, by decide⟩
  · exact ⟨[101, 101], [], [], shape29, fun _ => rfl, by decide, by decide⟩
  · exact ⟨[101, 101], [], [], shape30, fun _ => rfl, by decide, by decide⟩
  · exact ⟨[], [], [], shape31, fun _ => rfl, by decide, by decide⟩
  · exact ⟨[], [70], [], shape32, fun _ => rfl, by decide, by decide⟩
  · exact ⟨[84], [], [], shape33, fun _ => rfl, by decide, by decide⟩
  · exact ⟨[], [84], [84], shape34, fun _ => rfl, by decide, by decide⟩
  · exact ⟨[117, 117], [117], [], shape35, fun _ => rfl, by decide, by decide⟩
  · exact ⟨[84], [], [], shape36, fun _ => rfl, by decide, by decide⟩
theorem rfit_none_kind {k : Int} (h : k < 1 ∨ 36 < k) (ks : List Int) : rfitB k ks = false := by
  cases hr : rfitB k ks with
  | false => rfl
  | true =>
    have := rfit_kind hr
    omega
theorem allK_drop {p : List UInt8} {ks : List Int} {i : Nat} (hp : i < p.length) (hk : i < ks.length) : allKids (p.drop i) (ks.drop i) = (kidB p[i].toNat ks[i] && allKids (p.drop (i + 1)) (ks.drop (i + 1))) := by
  rw [List.drop_eq_getElem_cons hp, List.drop_eq_getElem_cons hk]
  rfl
theorem map_rep (m : Nat) (c : UInt8) : (List.replicate m c).map trL = List.replicate m (trL c) := by simp
theorem rfit_way (A O B : List UInt8) (hO : O.length ≤ 1) (ks : List Int) :
    (rfitP (A.map trL) ((O.map trL).head?) (B.map trL) ks = false ∧ ((ks.length : Int) - (A.length : Int) - (B.length : Int) < 0 ∨ (¬ (ks.length : Int) - (A.length : Int) - (B.length : Int) < 0 ∧ (0 : Int) < (ks.length : Int) - (A.length : Int) - (B.length : Int) ∧ O.length = 0))) ∨
    (∃ mo : Nat, (ks.length : Int) - (A.length : Int) - (B.length : Int) = (mo : Int) ∧ (mo = 0 ∨ O.length = 1) ∧ (A ++ List.replicate mo (O.headD 0) ++ B).length = ks.length ∧ rfitP (A.map trL) ((O.map trL).head?) (B.map trL) ks = allKids ((A ++ List.replicate mo (O.headD 0) ++ B).map trL) ks) := by
  by_cases h1 : (ks.length : Int) - (A.length : Int) - (B.length : Int) < 0
  · refine .inl ⟨?_, .inl h1⟩
    unfold rfitP
    rw [if_pos]
    left
    simpa using h1
  · obtain ⟨mo, hmo⟩ : ∃ mo : Nat, (ks.length : Int) - (A.length : Int) - (B.length : Int) = (mo : Int) := ⟨((ks.length : Int) - (A.length : Int) - (B.length : Int)).toNat, by omega⟩
    have hlen : (A ++ List.replicate mo (O.headD 0) ++ B).length = ks.length := by simp; omega
    match O, hO with
    | [], _ =>
      by_cases h2 : mo = 0
      · subst h2
        refine .inr ⟨0, hmo, .inl rfl, hlen, ?_⟩
        show rfitP _ none _ ks = _
        rw [rfit_none]
        simp
      · refine .inl ⟨?_, .inr ⟨h1, by omega, rfl⟩⟩
        show rfitP _ none _ ks = _
        rw [rfit_none]
        apply allKids_no
        simp
        omega
    | [c], _ =>
      refine .inr ⟨mo, hmo, .inr rfl, hlen, ?_⟩
      show rfitP _ (some (trL c)) _ ks = _
      have hl2 : ks.length - A.length - B.length = mo := by omega
      rw [rfit_some, if_neg (by simp; omega)]
      simp [hl2]
theorem q_first {A M B : List UInt8} {i : Nat} (h : i < A.length) (h2 : i < (A ++ M ++ B).length) : (A ++ M ++ B)[i] = A[i] := by
  rw [List.getElem_append_left (by simp; omega), List.getElem_append_left h]
theorem q_mid {A B : List UInt8} {c : UInt8} {mo i : Nat} (h : ¬ i < A.length) (h1 : i < A.length + mo) (h2 : i < (A ++ List.replicate mo c ++ B).length) : (A ++ List.replicate mo c ++ B)[i] = c := by
  rw [List.getElem_append_left (by simp; omega), List.getElem_append_right (by omega)]
  simp
theorem q_last {A B : List UInt8} {c : UInt8} {mo i : Nat} (h1 : ¬ i < A.length + mo) (h2 : i < (A ++ List.replicate mo c ++ B).length) (h3 : i - A.length - mo < B.length) : (A ++ List.replicate mo c ++ B)[i] = B[i - A.length - mo] := by
  rw [List.getElem_append_right (by simp; omega)]
  congr 1
  simp
  omega
theorem byte_at {s : ByteArray} {L : List UInt8} (hL : s.data.toList = L) {i : Nat} (h : i < L.length) (hs : i < s.size) : s[i]'hs = L[i] := by
  have h1 : i < s.data.toList.length := hs
  have h2 : s.data.toList[i]'h1 = L[i] := by simp only [hL]
  exact h2
set_option maxRecDepth 100000 in
set_option maxHeartbeats 16000000 in
theorem kids_any (k : Int) (ks : List Int) (v : Value) (w : World) (hv : KidsAt w v ks) (hkl : ks.length ≤ 140737488355328) :
    Calls Tryz.prog 24 #[.int .i64 k, v] w fun e w' => e = .returned (.bool (rfitB k ks)) ∧ w = w' := by
  have HV := Lib.hid hv
  obtain ⟨av, cv, rfl⟩ := hv.shape
  by_cases hk : 1 ≤ k ∧ k ≤ 36
  · obtain ⟨A, O, B, hcall, hfit, hall, hA3, hO1, hB3⟩ := shape_of k hk.1 hk.2
    rw [hfit]
    have HC := Lib.hid (hcall w)
    have hway := rfit_way A O B hO1 ks
    obtain ⟨R, hR⟩ : ∃ R, rfitP (A.map trL) ((O.map trL).head?) (B.map trL) ks = R := ⟨_, rfl⟩
    rw [hR] at hway ⊢
    obtain ⟨sA, hsA⟩ : ∃ s : ByteArray, (⟨A.toArray⟩ : ByteArray) = s := ⟨_, rfl⟩
    obtain ⟨sO, hsO⟩ : ∃ s : ByteArray, (⟨O.toArray⟩ : ByteArray) = s := ⟨_, rfl⟩
    obtain ⟨sB, hsB⟩ : ∃ s : ByteArray, (⟨B.toArray⟩ : ByteArray) = s := ⟨_, rfl⟩
    rw [hsA, hsO, hsB] at HC
    have lA : Hid (sA.data.toList = A) := Lib.hid (by rw [← hsA])
    have lO : Hid (sO.data.toList = O) := Lib.hid (by rw [← hsO])
    have lB : Hid (sB.data.toList = B) := Lib.hid (by rw [← hsB])
    have HAll := Lib.hid hall
    obtain ⟨nA, hnA⟩ : ∃ n, A.length = n := ⟨_, rfl⟩
    obtain ⟨nO, hnO⟩ : ∃ n, O.length = n := ⟨_, rfl⟩
    obtain ⟨nB, hnB⟩ : ∃ n, B.length = n := ⟨_, rfl⟩
    have zA : sA.size = nA := by rw [← hsA]; exact hnA
    have zB : sB.size = nB := by rw [← hsB]; exact hnB
    have zO : sO.size = nO := by rw [← hsO]; exact hnO
    have qA : (sA.size : Int) = (nA : Int) := by omega
    have qB : (sB.size : Int) = (nB : Int) := by omega
    have qO : (sO.size : Int) = (nO : Int) := by omega
    have HZ := Lib.hid (⟨zA, zO, zB⟩ : _ ∧ _ ∧ _)
    have HN := Lib.hid (⟨hnA, hnO, hnB⟩ : _ ∧ _ ∧ _)
    have hemp : sO.toList.isEmpty = decide (nO = 0) := by
      rw [ByteArray.toList_eq, lO.out, ← hnO]
      cases O <;> simp
    rw [hnA, hnB, hnO] at hway
    rw [hnA] at hA3
    rw [hnO] at hO1
    rw [hnB] at hB3
    obtain ⟨n, hn⟩ : ∃ n, ks.length = n := ⟨_, rfl⟩
    have HKn := Lib.hid hn
    rw [hn] at hway hkl ⊢
    clear hcall hfit hall hR hsA hsO hsB hnA hnO hnB zA zB zO hv hn hk
    rcases hway with ⟨rfl, hno⟩ | ⟨mo, hmo, hmo1, hlen, hRe⟩
    · rcases hno with h1 | ⟨h1, h2, h3⟩
      · go_enter Tryz.func24, Tryz.ntmps24
        go_wp2_with fail
        refine (HC.out).mono ?_
        rintro e w1 ⟨rfl, rfl⟩
        go_wp2
        go_ret
        exact ⟨rfl, rfl⟩
      · subst h3
        simp only [decide_true] at hemp
        go_enter Tryz.func24, Tryz.ntmps24
        go_wp2_with fail
        refine (HC.out).mono ?_
        rintro e w1 ⟨rfl, rfl⟩
        go_wp2
        go_ret
        exact ⟨rfl, rfl⟩
    · have hm0 : ¬ (mo : Int) < 0 := by omega
      have HLen := Lib.hid hlen
      obtain ⟨Q, hQ⟩ : ∃ Q, A ++ List.replicate mo (O.headD 0) ++ B = Q := ⟨_, rfl⟩
      have HQ := Lib.hid hQ
      rw [hQ] at hRe HLen
      have HR0 : Hid (allKids ((Q.map trL).drop 0) (ks.drop 0) = R) := Lib.hid hRe.symm
      have HMo := Lib.hid hmo1
      have hmn : nA + mo + nB = n := by omega
      have hcond : (¬ (0 : Int) < (mo : Int) ∧ True) ∨ ((0 : Int) < (mo : Int) ∧ sO.toList.isEmpty = false) := by
        rcases hmo1 with h | h
        · exact .inl ⟨by omega, trivial⟩
        · by_cases hz : mo = 0
          · exact .inl ⟨by omega, trivial⟩
          · exact .inr ⟨by omega, by rw [hemp, h]; rfl⟩
      clear hlen hQ hRe hmo1 hemp
      rcases hcond with ⟨hc1, hc2⟩ | ⟨hc1, hc2⟩
      all_goals
        go_enter Tryz.func24, Tryz.ntmps24
        go_wp2_with fail
        refine (HC.out).mono ?_
        rintro e w1 ⟨rfl, rfl⟩
        go_wp2
        clear hmo hc1 hc2 hm0
        go_loopw [10] (fun iv wr => ∃ i : Nat, iv = .int .i64 (i : Int) ∧ i ≤ n ∧ Hid (wr = w) ∧ Hid (allKids ((Q.map trL).drop i) (ks.drop i) = R)) (fun iv _ => n - (intOf iv).toNat)
        case atStart => exact ⟨0, rfl, by omega, Lib.hid rfl, HR0⟩
        case round =>
          obtain ⟨i, rfl, hi, HW, HRi⟩ := hrel
          obtain rfl := HW.out
          clear HW
          by_cases hlt : i < n
          · have hi1 : (i : Int) < (n : Int) := by omega
            have hi0 : (0 : Int) ≤ (i : Int) := by omega
            have hik : i < ks.length := by rw [HKn.out]; exact hlt
            have hiQ : i < Q.length := by rw [HLen.out]; exact hlt
            have hkv := HV.out
            rw [HKn.out] at hkv
            obtain ⟨g, o, rfl, hg2, z0⟩ := hkv.at i hik
            have HStep0 : Hid (R = (kidB (trL Q[i]).toNat ks[i] && allKids ((Q.map trL).drop (i + 1)) (ks.drop (i + 1)))) := Lib.hid (by
              rw [← HRi.out, allK_drop (p := Q.map trL) (by simpa using hiQ) hik]
              simp)
            generalize ks[i] = kd at z0 HStep0
            clear hkv
            by_cases h1 : i < nA
            · have h1i : (i : Int) < (nA : Int) := by omega
              have hiA : i < A.length := by rw [HN.out.1]; exact h1
              have hsz : i < sA.size := by rw [HZ.out.1]; exact h1
              have hb1 : Q[i] = A[i] := by simp only [← HQ.out]; exact q_first hiA _
              have hb2 := byte_at lA.out hiA hsz
              have hbd : A[i] ∈ DOCL := HAll.out _ (by simp)
              rw [hb1, ← hb2] at HStep0
              rw [← hb2] at hbd
              have HI := fun W => Lib.hid (is_any (sA[i]'hsz) hbd kd W)
              have hbr := HStep0.out
              generalize kidB (trL (sA[i]'hsz)).toNat kd = r at HI hbr
              clear HStep0 hb1 hb2 hbd
              cases r
              · have hRf : R = false := by rw [hbr]; rfl
                subst hRf
                clear hbr
                go_wp2_with fail
                refine ((HI wr).out).mono ?_
                rintro e w2 ⟨rfl, rfl⟩
                go_wp2
                go_ret
                exact ⟨rfl, rfl⟩
              · have HR2 : Hid (allKids ((Q.map trL).drop (i + 1)) (ks.drop (i + 1)) = R) := Lib.hid (by rw [hbr]; rfl)
                clear hbr
                go_wp2_with fail
                refine ((HI wr).out).mono ?_
                rintro e w2 ⟨rfl, rfl⟩
                go_wp2
                go_roundw
                case rel => exact ⟨i + 1, by go_num, by omega, (by first | exact Lib.hid rfl | exact Lib.hid trivial), HR2⟩
                case measure => simp [intOf]; omega
            · have h1i : ¬ (i : Int) < (nA : Int) := by omega
              have hiA : ¬ i < A.length := by rw [HN.out.1]; exact h1
              by_cases h2 : i < nA + mo
              · have h2i : (i : Int) < (nA : Int) + (mo : Int) := by omega
                have ho1 : nO = 1 := by rcases HMo.out with h | h <;> omega
                have hoz : (0 : Int) < (nO : Int) := by omega
                have hsz : 0 < sO.size := by rw [HZ.out.2.1]; omega
                have hO0 : 0 < O.length := by rw [HN.out.2.1]; omega
                have hhd : O.headD 0 = O[0] := by
                  cases O with
                  | nil => simp at hO0
                  | cons c r => rfl
                have hb1 : Q[i] = O[0] := by
                  simp only [← HQ.out, hhd]
                  exact q_mid hiA (by rw [HN.out.1]; exact h2) _
                have hb2 := byte_at lO.out hO0 hsz
                have hbd : O[0] ∈ DOCL := HAll.out _ (by simp)
                clear hhd
                rw [hb1, ← hb2] at HStep0
                rw [← hb2] at hbd
                have HI := fun W => Lib.hid (is_any (sO[0]'hsz) hbd kd W)
                have hbr := HStep0.out
                generalize kidB (trL (sO[0]'hsz)).toNat kd = r at HI hbr
                clear HStep0 hb1 hb2 hbd
                cases r
                · have hRf : R = false := by rw [hbr]; rfl
                  subst hRf
                  clear hbr
                  go_wp2_with fail
                  refine ((HI wr).out).mono ?_
                  rintro e w2 ⟨rfl, rfl⟩
                  go_wp2
                  go_ret
                  exact ⟨rfl, rfl⟩
                · have HR2 : Hid (allKids ((Q.map trL).drop (i + 1)) (ks.drop (i + 1)) = R) := Lib.hid (by rw [hbr]; rfl)
                  clear hbr
                  go_wp2_with fail
                  refine ((HI wr).out).mono ?_
                  rintro e w2 ⟨rfl, rfl⟩
                  go_wp2
                  go_roundw
                  case rel => exact ⟨i + 1, by go_num, by omega, (by first | exact Lib.hid rfl | exact Lib.hid trivial), HR2⟩
                  case measure => simp [intOf]; omega
              · have h2i : ¬ (i : Int) < (nA : Int) + (mo : Int) := by omega
                obtain ⟨j, hj⟩ : ∃ j : Nat, i = nA + mo + j := ⟨i - nA - mo, by omega⟩
                have hji : (i : Int) - (nA : Int) - (mo : Int) = (j : Int) := by omega
                have hjB : j < nB := by omega
                have hjBi : (j : Int) < (nB : Int) := by omega
                have hj0 : (0 : Int) ≤ (j : Int) := by omega
                have hsz : j < sB.size := by rw [HZ.out.2.2]; exact hjB
                have hBl : j < B.length := by rw [HN.out.2.2]; exact hjB
                have hjj : i - A.length - mo = j := by rw [HN.out.1]; omega
                have hb1 : Q[i] = B[j] := by
                  simp only [← HQ.out]
                  rw [q_last (by rw [HN.out.1]; exact h2) _ (by rw [hjj]; exact hBl)]
                  simp only [hjj]
                have hb2 := byte_at lB.out hBl hsz
                have hbd : B[j] ∈ DOCL := HAll.out _ (by simp)
                have Hj := Lib.hid hj
                clear hj hjj
                rw [hb1, ← hb2] at HStep0
                rw [← hb2] at hbd
                have HI := fun W => Lib.hid (is_any (sB[j]'hsz) hbd kd W)
                have hbr := HStep0.out
                generalize kidB (trL (sB[j]'hsz)).toNat kd = r at HI hbr
                clear HStep0 hb1 hb2 hbd
                cases r
                · have hRf : R = false := by rw [hbr]; rfl
                  subst hRf
                  clear hbr
                  go_wp2_with fail
                  refine ((HI wr).out).mono ?_
                  rintro e w2 ⟨rfl, rfl⟩
                  go_wp2
                  go_ret
                  exact ⟨rfl, rfl⟩
                · have HR2 : Hid (allKids ((Q.map trL).drop (i + 1)) (ks.drop (i + 1)) = R) := Lib.hid (by rw [hbr]; rfl)
                  clear hbr
                  go_wp2_with fail
                  refine ((HI wr).out).mono ?_
                  rintro e w2 ⟨rfl, rfl⟩
                  go_wp2
                  go_roundw
                  case rel => exact ⟨i + 1, by go_num, by omega, (by first | exact Lib.hid rfl | exact Lib.hid trivial), HR2⟩
                  case measure => simp [intOf]; omega
          · have hin : i = n := by omega
            have hRt : R = true := by
              rw [← HRi.out, List.drop_eq_nil_of_le (by rw [List.length_map, HLen.out]; omega), List.drop_eq_nil_of_le (by rw [HKn.out]; omega)]
              rfl
            subst hRt hin
            go_wp2
            go_ret
            exact ⟨rfl, rfl⟩
  · rw [rfit_none_kind (by omega)]
    have HC := Lib.hid (shape_no k (by omega) w)
    go_enter Tryz.func24, Tryz.ntmps24
    go_wp2_with fail
    refine (HC.out).mono ?_
    rintro e w1 ⟨rfl, rfl⟩
    go_wp2
    go_ret
    exact ⟨rfl, rfl⟩
end TreeD
end Go.Proofs.YtmdkocegnbcgmaaGreatDoor
