/- The document's own operator, without labels: texts, comparing. -/
import Derived.Test.YtajcglhmononnaaVal10
namespace Go.Proofs.Ytajcglhmononnaa
open Go.RowKit ObjM
namespace ValD
open NumM LabelM LabelD NumD

set_option maxRecDepth 100000 in
set_option maxHeartbeats 4000000 in
theorem raw_cat (a b : V) (hk : a.k = 3) (hk2 : b.k = 3) (hs : a.s.size ≤ 1000) (hs2 : b.s.size ≤ 1000) (w : World) :
    Calls Try.prog 29 #[.int .i64 9, a.agg, b.agg] w fun e w' => e = .returned (.tuple #[.agg #[.int .i64 3, .int .i64 0, .string (a.s ++ b.s), .int .u64 0], .string ⟨#[]⟩]) ∧ Below w.heap.size w w' := by
  obtain ⟨ak, an, sa, al⟩ := a
  obtain ⟨bk, bn, sb, bl⟩ := b
  simp only at hk hk2 hs hs2 ⊢
  subst hk hk2
  simp only [V.agg]
  go_enter Try.func29, Try.ntmps29
  go_wp2
  refine bodyPost_ret (v := .tuple #[.agg #[.int .i64 3, .int .i64 0, .string (sa ++ sb), .int .u64 0], .string ⟨#[]⟩]) (by simp [results, Try.results29, go_sem]) rfl ⟨rfl, ?_⟩
  first | exact alloc3 | exact set4 alloc3 (by omega) _ _ _ _
set_option maxRecDepth 100000 in
set_option maxHeartbeats 8000000 in
theorem raw_catBad (a b : V) (hk : ¬ (a.k = 3 ∧ b.k = 3)) (w : World) :
    Calls Try.prog 29 #[.int .i64 9, a.agg, b.agg] w fun e w' => e = .returned (.tuple #[.agg #[.int .i64 0, .int .i64 0, .string ⟨#[]⟩, .int .u64 0], .string concatS]) ∧ Below w.heap.size w w' := by
  obtain ⟨ak, an, sa, al⟩ := a
  obtain ⟨bk, bn, sb, bl⟩ := b
  simp only at hk ⊢
  simp only [V.agg]
  rcases kinds ak with rfl | rfl | ⟨p2, p3⟩ <;> rcases kinds bk with rfl | rfl | ⟨q2, q3⟩
  case inr.inl.inr.inl => exact absurd ⟨rfl, rfl⟩ hk
  all_goals
    clear hk
    go_enter Try.func29, Try.ntmps29
    go_wp2
    refine bodyPost_ret (v := .tuple #[.agg #[.int .i64 0, .int .i64 0, .string ⟨#[]⟩, .int .u64 0], .string concatS]) (by simp [concatS, results, Try.results29, go_sem]) rfl ⟨rfl, ?_⟩
    first | exact alloc3 | exact set4 alloc3 (by omega) _ _ _ _
set_option maxRecDepth 100000 in
set_option maxHeartbeats 8000000 in
theorem raw_cmpBad (op : Int) (a b : V) (h : op = 6 ∨ op = 7) (hk : ¬ (a.k = b.k ∧ (a.k = 2 ∨ a.k = 3))) (w : World) :
    Calls Try.prog 29 #[.int .i64 op, a.agg, b.agg] w fun e w' => e = .returned (.tuple #[.agg #[.int .i64 0, .int .i64 0, .string ⟨#[]⟩, .int .u64 0], .string compareS]) ∧ Below w.heap.size w w' := by
  obtain ⟨ak, an, sa, al⟩ := a
  obtain ⟨bk, bn, sb, bl⟩ := b
  simp only at hk ⊢
  simp only [V.agg]
  rcases kinds ak with rfl | rfl | ⟨p2, p3⟩ <;> rcases kinds bk with rfl | rfl | ⟨q2, q3⟩
  case inl.inl => exact absurd ⟨rfl, .inl rfl⟩ hk
  case inr.inl.inr.inl => exact absurd ⟨rfl, .inr rfl⟩ hk
  all_goals
    clear hk
    rcases h with rfl | rfl
  all_goals
    go_enter Try.func29, Try.ntmps29
    go_wp2
    refine bodyPost_ret (v := .tuple #[.agg #[.int .i64 0, .int .i64 0, .string ⟨#[]⟩, .int .u64 0], .string compareS]) (by simp [compareS, results, Try.results29, go_sem]) rfl ⟨rfl, ?_⟩
    first | exact alloc3 | exact set4 alloc3 (by omega) _ _ _ _
set_option maxRecDepth 100000 in
set_option maxHeartbeats 8000000 in
theorem raw_none (op : Int) (a b : V) (h : ¬ (op = 1 ∨ op = 2 ∨ op = 3 ∨ op = 4 ∨ op = 5) ∧ op ≠ 9 ∧ op ≠ 6 ∧ op ≠ 7 ∧ op ≠ 8) (w : World) :
    Calls Try.prog 29 #[.int .i64 op, a.agg, b.agg] w fun e w' => e = .returned (.tuple #[.agg #[.int .i64 0, .int .i64 0, .string ⟨#[]⟩, .int .u64 0], .string arithS]) ∧ Below w.heap.size w w' := by
  obtain ⟨h0, h9, h6, h7, h8⟩ := h
  have e1 : (op == 1) = false := by simpa using fun e => h0 (.inl e)
  have e2 : (op == 2) = false := by simpa using fun e => h0 (.inr (.inl e))
  have e3 : (op == 3) = false := by simpa using fun e => h0 (.inr (.inr (.inl e)))
  have e4 : (op == 4) = false := by simpa using fun e => h0 (.inr (.inr (.inr (.inl e))))
  have e5 : (op == 5) = false := by simpa using fun e => h0 (.inr (.inr (.inr (.inr e))))
  have e9 : (op == 9) = false := by simpa using h9
  have e6 : (op == 6) = false := by simpa using h6
  have e7 : (op == 7) = false := by simpa using h7
  have e8 : (op == 8) = false := by simpa using h8
  clear h0 h9 h6 h7 h8
  obtain ⟨ak, an, sa, al⟩ := a
  obtain ⟨bk, bn, sb, bl⟩ := b
  simp only [V.agg]
  rcases kinds ak with rfl | rfl | ⟨p2, p3⟩ <;> rcases kinds bk with rfl | rfl | ⟨q2, q3⟩
  all_goals
    go_enter Try.func29, Try.ntmps29
    go_wp2
    refine bodyPost_ret (v := .tuple #[.agg #[.int .i64 0, .int .i64 0, .string ⟨#[]⟩, .int .u64 0], .string arithS]) (by simp [arithS, results, Try.results29, go_sem]) rfl ⟨rfl, ?_⟩
    first | exact alloc3 | exact set4 alloc3 (by omega) _ _ _ _
end ValD
end Go.Proofs.Ytajcglhmononnaa
