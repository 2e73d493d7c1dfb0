/- What a word writes. -/
import Derived.Test.YtajhkogknpmnbaaDoorFlowT
namespace Go.Proofs.YtajhkogknpmnbaaDoor
open Go.RowKit ObjM
namespace FlowD
open FlowM InstrM InstrD

/-- Whether an instruction writes its register. -/
def wrB (op : Int) : Bool := decide (op ∈ ([1, 2, 3, 5, 6, 8, 30, 31, 32, 40, 41, 43, 45, 46, 49, 51, 53, 54, 55, 57, 58, 59, 60, 61] : List Int)) || (decide (11 ≤ op) && decide (op ≤ 27))
def okW (w : Int) : Bool := decide (wOf w (rF w) = (w, 0))
def aW (w : Int) : Int := if okW w then w / 256 % 256 else 0
def eW (w : Int) : Int := if okW w then 0 else 1
theorem rF_a (w : Int) : (rF w).a = w / 256 % 256 := by
  unfold rF
  split <;> rfl
theorem answer_a (w : Int) : ∃ b c, answer w (rF w) (wOf w (rF w)) = .tuple #[.agg #[.int .i64 (opW w), .int .i64 (aW w), .int .i64 b, .int .i64 c, .int .i64 (dW w)], .int .i64 (eW w)] := by
  unfold answer opW aW dW eW okW
  by_cases h : wOf w (rF w) = (w, 0)
  · rw [if_pos h, if_pos h, if_pos h, decide_eq_true h, rF_a]
    exact ⟨_, _, rfl⟩
  · rw [if_neg h, if_neg h, if_neg h, decide_eq_false h]
    exact ⟨_, _, rfl⟩
theorem ok_op {w : Int} (h : okW w = true) : 0 ≤ opW w ∧ opW w < 63 ∧ opW w ≠ 20 := by
  have h1 := of_decide_eq_true h
  unfold opW
  rw [if_pos h1]
  unfold wOf at h1
  rcases form_cases (w % 256) with h2 | ⟨h2, o0, o1⟩
  · rw [wordV, h2] at h1
    simp [validB] at h1
  · refine ⟨o0, o1, fun e => ?_⟩
    rw [e] at h2
    revert h2
    decide +kernel
theorem a_range (w : Int) : 0 ≤ aW w ∧ aW w < 256 := by
  unfold aW
  split <;> omega
theorem wrB_far {op : Int} (h : op ∉ ([1, 2, 3, 5, 6, 8, 30, 31, 32, 40, 41, 43, 45, 46, 49, 51, 53, 54, 55, 57, 58, 59, 60, 61] : List Int)) : wrB op = (decide (11 ≤ op) && decide (op ≤ 27)) := by
  unfold wrB
  rw [decide_eq_false h, Bool.false_or]
set_option maxRecDepth 100000 in
set_option maxHeartbeats 8000000 in
theorem writes_any (op : Int) (w : World) : Calls Tryd.prog 37 #[.int .i64 op] w fun e w' => e = .returned (.bool (wrB op)) ∧ w' = w := by
  by_cases h1 : op = 1
  · subst h1
    go_enter Tryd.func37, Tryd.ntmps37
    go_wp2
    go_ret
    exact ⟨rfl, rfl⟩
  have b1 : (op == 1) = false := by simpa using h1
  by_cases h2 : op = 2
  · subst h2
    go_enter Tryd.func37, Tryd.ntmps37
    go_wp2
    go_ret
    exact ⟨rfl, rfl⟩
  have b2 : (op == 2) = false := by simpa using h2
  by_cases h3 : op = 3
  · subst h3
    go_enter Tryd.func37, Tryd.ntmps37
    go_wp2
    go_ret
    exact ⟨rfl, rfl⟩
  have b3 : (op == 3) = false := by simpa using h3
  by_cases h5 : op = 5
  · subst h5
    go_enter Tryd.func37, Tryd.ntmps37
    go_wp2
    go_ret
    exact ⟨rfl, rfl⟩
  have b5 : (op == 5) = false := by simpa using h5
  by_cases h6 : op = 6
  · subst h6
    go_enter Tryd.func37, Tryd.ntmps37
    go_wp2
    go_ret
    exact ⟨rfl, rfl⟩
  have b6 : (op == 6) = false := by simpa using h6
  by_cases h8 : op = 8
  · subst h8
    go_enter Tryd.func37, Tryd.ntmps37
    go_wp2
    go_ret
    exact ⟨rfl, rfl⟩
  have b8 : (op == 8) = false := by simpa using h8
  by_cases h30 : op = 30
  · subst h30
    go_enter Tryd.func37, Tryd.ntmps37
    go_wp2
    go_ret
    exact ⟨rfl, rfl⟩
  have b30 : (op == 30) = false := by simpa using h30
  by_cases h31 : op = 31
  · subst h31
    go_enter Tryd.func37, Tryd.ntmps37
    go_wp2
    go_ret
    exact ⟨rfl, rfl⟩
  have b31 : (op == 31) = false := by simpa using h31
  by_cases h32 : op = 32
  · subst h32
    go_enter Tryd.func37, Tryd.ntmps37
    go_wp2
    go_ret
    exact ⟨rfl, rfl⟩
  have b32 : (op == 32) = false := by simpa using h32
  by_cases h40 : op = 40
  · subst h40
    go_enter Tryd.func37, Tryd.ntmps37
    go_wp2
    go_ret
    exact ⟨rfl, rfl⟩
  have b40 : (op == 40) = false := by simpa using h40
  by_cases h41 : op = 41
  · subst h41
    go_enter Tryd.func37, Tryd.ntmps37
    go_wp2
    go_ret
    exact ⟨rfl, rfl⟩
  have b41 : (op == 41) = false := by simpa using h41
  by_cases h43 : op = 43
  · subst h43
    go_enter Tryd.func37, Tryd.ntmps37
    go_wp2
    go_ret
    exact ⟨rfl, rfl⟩
  have b43 : (op == 43) = false := by simpa using h43
  by_cases h45 : op = 45
  · subst h45
    go_enter Tryd.func37, Tryd.ntmps37
    go_wp2
    go_ret
    exact ⟨rfl, rfl⟩
  have b45 : (op == 45) = false := by simpa using h45
  by_cases h46 : op = 46
  · subst h46
    go_enter Tryd.func37, Tryd.ntmps37
    go_wp2
    go_ret
    exact ⟨rfl, rfl⟩
  have b46 : (op == 46) = false := by simpa using h46
  by_cases h49 : op = 49
  · subst h49
    go_enter Tryd.func37, Tryd.ntmps37
    go_wp2
    go_ret
    exact ⟨rfl, rfl⟩
  have b49 : (op == 49) = false := by simpa using h49
  by_cases h51 : op = 51
  · subst h51
    go_enter Tryd.func37, Tryd.ntmps37
    go_wp2
    go_ret
    exact ⟨rfl, rfl⟩
  have b51 : (op == 51) = false := by simpa using h51
  by_cases h53 : op = 53
  · subst h53
    go_enter Tryd.func37, Tryd.ntmps37
    go_wp2
    go_ret
    exact ⟨rfl, rfl⟩
  have b53 : (op == 53) = false := by simpa using h53
  by_cases h54 : op = 54
  · subst h54
    go_enter Tryd.func37, Tryd.ntmps37
    go_wp2
    go_ret
    exact ⟨rfl, rfl⟩
  have b54 : (op == 54) = false := by simpa using h54
  by_cases h55 : op = 55
  · subst h55
    go_enter Tryd.func37, Tryd.ntmps37
    go_wp2
    go_ret
    exact ⟨rfl, rfl⟩
  have b55 : (op == 55) = false := by simpa using h55
  by_cases h57 : op = 57
  · subst h57
    go_enter Tryd.func37, Tryd.ntmps37
    go_wp2
    go_ret
    exact ⟨rfl, rfl⟩
  have b57 : (op == 57) = false := by simpa using h57
  by_cases h58 : op = 58
  · subst h58
    go_enter Tryd.func37, Tryd.ntmps37
    go_wp2
    go_ret
    exact ⟨rfl, rfl⟩
  have b58 : (op == 58) = false := by simpa using h58
  by_cases h59 : op = 59
  · subst h59
    go_enter Tryd.func37, Tryd.ntmps37
    go_wp2
    go_ret
    exact ⟨rfl, rfl⟩
  have b59 : (op == 59) = false := by simpa using h59
  by_cases h60 : op = 60
  · subst h60
    go_enter Tryd.func37, Tryd.ntmps37
    go_wp2
    go_ret
    exact ⟨rfl, rfl⟩
  have b60 : (op == 60) = false := by simpa using h60
  by_cases h61 : op = 61
  · subst h61
    go_enter Tryd.func37, Tryd.ntmps37
    go_wp2
    go_ret
    exact ⟨rfl, rfl⟩
  have b61 : (op == 61) = false := by simpa using h61
  have HF := Lib.hid (wrB_far (op := op) (by simp only [List.mem_cons, List.not_mem_nil, or_false, not_or]; exact ⟨h1, h2, h3, h5, h6, h8, h30, h31, h32, h40, h41, h43, h45, h46, h49, h51, h53, h54, h55, h57, h58, h59, h60, h61⟩))
  clear h1 h2 h3 h5 h6 h8 h30 h31 h32 h40 h41 h43 h45 h46 h49 h51 h53 h54 h55 h57 h58 h59 h60 h61
  by_cases h11 : 11 ≤ op
  · by_cases h27 : op ≤ 27
    · rw [HF.out]
      clear HF
      go_enter Tryd.func37, Tryd.ntmps37
      go_wp2
      go_ret
      exact ⟨by simp; try omega, rfl⟩
    · rw [HF.out]
      clear HF
      go_enter Tryd.func37, Tryd.ntmps37
      go_wp2
      go_ret
      exact ⟨by simp; try omega, rfl⟩
  · rw [HF.out]
    clear HF
    go_enter Tryd.func37, Tryd.ntmps37
    go_wp2
    go_ret
    exact ⟨by simp; try omega, rfl⟩
set_option maxRecDepth 100000 in
set_option maxHeartbeats 8000000 in
theorem refWrites_any (op : Int) (h20 : op ≠ 20) (w : World) : Calls Tryd.prog 40 #[.int .i64 op] w fun e w' => e = .returned (.bool (wrB op)) ∧ w' = w := by
  by_cases h1 : op = 1
  · subst h1
    go_enter Tryd.func40, Tryd.ntmps40
    go_wp2
    go_ret
    exact ⟨rfl, rfl⟩
  have b1 : (op == 1) = false := by simpa using h1
  by_cases h2 : op = 2
  · subst h2
    go_enter Tryd.func40, Tryd.ntmps40
    go_wp2
    go_ret
    exact ⟨rfl, rfl⟩
  have b2 : (op == 2) = false := by simpa using h2
  by_cases h3 : op = 3
  · subst h3
    go_enter Tryd.func40, Tryd.ntmps40
    go_wp2
    go_ret
    exact ⟨rfl, rfl⟩
  have b3 : (op == 3) = false := by simpa using h3
  by_cases h5 : op = 5
  · subst h5
    go_enter Tryd.func40, Tryd.ntmps40
    go_wp2
    go_ret
    exact ⟨rfl, rfl⟩
  have b5 : (op == 5) = false := by simpa using h5
  by_cases h6 : op = 6
  · subst h6
    go_enter Tryd.func40, Tryd.ntmps40
    go_wp2
    go_ret
    exact ⟨rfl, rfl⟩
  have b6 : (op == 6) = false := by simpa using h6
  by_cases h8 : op = 8
  · subst h8
    go_enter Tryd.func40, Tryd.ntmps40
    go_wp2
    go_ret
    exact ⟨rfl, rfl⟩
  have b8 : (op == 8) = false := by simpa using h8
  by_cases h30 : op = 30
  · subst h30
    go_enter Tryd.func40, Tryd.ntmps40
    go_wp2
    go_ret
    exact ⟨rfl, rfl⟩
  have b30 : (op == 30) = false := by simpa using h30
  by_cases h31 : op = 31
  · subst h31
    go_enter Tryd.func40, Tryd.ntmps40
    go_wp2
    go_ret
    exact ⟨rfl, rfl⟩
  have b31 : (op == 31) = false := by simpa using h31
  by_cases h32 : op = 32
  · subst h32
    go_enter Tryd.func40, Tryd.ntmps40
    go_wp2
    go_ret
    exact ⟨rfl, rfl⟩
  have b32 : (op == 32) = false := by simpa using h32
  by_cases h40 : op = 40
  · subst h40
    go_enter Tryd.func40, Tryd.ntmps40
    go_wp2
    go_ret
    exact ⟨rfl, rfl⟩
  have b40 : (op == 40) = false := by simpa using h40
  by_cases h41 : op = 41
  · subst h41
    go_enter Tryd.func40, Tryd.ntmps40
    go_wp2
    go_ret
    exact ⟨rfl, rfl⟩
  have b41 : (op == 41) = false := by simpa using h41
  by_cases h43 : op = 43
  · subst h43
    go_enter Tryd.func40, Tryd.ntmps40
    go_wp2
    go_ret
    exact ⟨rfl, rfl⟩
  have b43 : (op == 43) = false := by simpa using h43
  by_cases h45 : op = 45
  · subst h45
    go_enter Tryd.func40, Tryd.ntmps40
    go_wp2
    go_ret
    exact ⟨rfl, rfl⟩
  have b45 : (op == 45) = false := by simpa using h45
  by_cases h46 : op = 46
  · subst h46
    go_enter Tryd.func40, Tryd.ntmps40
    go_wp2
    go_ret
    exact ⟨rfl, rfl⟩
  have b46 : (op == 46) = false := by simpa using h46
  by_cases h49 : op = 49
  · subst h49
    go_enter Tryd.func40, Tryd.ntmps40
    go_wp2
    go_ret
    exact ⟨rfl, rfl⟩
  have b49 : (op == 49) = false := by simpa using h49
  by_cases h51 : op = 51
  · subst h51
    go_enter Tryd.func40, Tryd.ntmps40
    go_wp2
    go_ret
    exact ⟨rfl, rfl⟩
  have b51 : (op == 51) = false := by simpa using h51
  by_cases h53 : op = 53
  · subst h53
    go_enter Tryd.func40, Tryd.ntmps40
    go_wp2
    go_ret
    exact ⟨rfl, rfl⟩
  have b53 : (op == 53) = false := by simpa using h53
  by_cases h54 : op = 54
  · subst h54
    go_enter Tryd.func40, Tryd.ntmps40
    go_wp2
    go_ret
    exact ⟨rfl, rfl⟩
  have b54 : (op == 54) = false := by simpa using h54
  by_cases h55 : op = 55
  · subst h55
    go_enter Tryd.func40, Tryd.ntmps40
    go_wp2
    go_ret
    exact ⟨rfl, rfl⟩
  have b55 : (op == 55) = false := by simpa using h55
  by_cases h57 : op = 57
  · subst h57
    go_enter Tryd.func40, Tryd.ntmps40
    go_wp2
    go_ret
    exact ⟨rfl, rfl⟩
  have b57 : (op == 57) = false := by simpa using h57
  by_cases h58 : op = 58
  · subst h58
    go_enter Tryd.func40, Tryd.ntmps40
    go_wp2
    go_ret
    exact ⟨rfl, rfl⟩
  have b58 : (op == 58) = false := by simpa using h58
  by_cases h59 : op = 59
  · subst h59
    go_enter Tryd.func40, Tryd.ntmps40
    go_wp2
    go_ret
    exact ⟨rfl, rfl⟩
  have b59 : (op == 59) = false := by simpa using h59
  by_cases h60 : op = 60
  · subst h60
    go_enter Tryd.func40, Tryd.ntmps40
    go_wp2
    go_ret
    exact ⟨rfl, rfl⟩
  have b60 : (op == 60) = false := by simpa using h60
  by_cases h61 : op = 61
  · subst h61
    go_enter Tryd.func40, Tryd.ntmps40
    go_wp2
    go_ret
    exact ⟨rfl, rfl⟩
  have b61 : (op == 61) = false := by simpa using h61
  have HF := Lib.hid (wrB_far (op := op) (by simp only [List.mem_cons, List.not_mem_nil, or_false, not_or]; exact ⟨h1, h2, h3, h5, h6, h8, h30, h31, h32, h40, h41, h43, h45, h46, h49, h51, h53, h54, h55, h57, h58, h59, h60, h61⟩))
  clear h1 h2 h3 h5 h6 h8 h30 h31 h32 h40 h41 h43 h45 h46 h49 h51 h53 h54 h55 h57 h58 h59 h60 h61
  by_cases h11 : 11 ≤ op
  · by_cases h27 : op ≤ 27
    · by_cases h19 : op ≤ 19
      · rw [HF.out]
        clear HF
        go_enter Tryd.func40, Tryd.ntmps40
        go_wp2
        go_ret
        exact ⟨by simp; try omega, rfl⟩
      · have h21 : 21 ≤ op := by omega
        rw [HF.out]
        clear HF
        go_enter Tryd.func40, Tryd.ntmps40
        go_wp2
        go_ret
        exact ⟨by simp; try omega, rfl⟩
    · have h19 : ¬ op ≤ 19 := by omega
      have h21 : 21 ≤ op := by omega
      rw [HF.out]
      clear HF
      go_enter Tryd.func40, Tryd.ntmps40
      go_wp2
      go_ret
      exact ⟨by simp; try omega, rfl⟩
  · have h21 : ¬ 21 ≤ op := by omega
    rw [HF.out]
    clear HF
    go_enter Tryd.func40, Tryd.ntmps40
    go_wp2
    go_ret
    exact ⟨by simp; try omega, rfl⟩
end FlowD
end Go.Proofs.YtajhkogknpmnbaaDoor
