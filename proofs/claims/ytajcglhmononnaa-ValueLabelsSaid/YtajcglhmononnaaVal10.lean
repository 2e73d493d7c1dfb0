/- The document's own operator, without labels. -/
import Derived.Test.YtajcglhmononnaaVal7
namespace Go.Proofs.Ytajcglhmononnaa
open Go.RowKit ObjM
namespace ValD
open NumM LabelM LabelD NumD

theorem kinds (k : Int) : k = 2 ∨ k = 3 ∨ ((k == 2) = false ∧ (k == 3) = false) := by
  by_cases h2 : k = 2
  · exact .inl h2
  · by_cases h3 : k = 3
    · exact .inr (.inl h3)
    · exact .inr (.inr ⟨by simpa using h2, by simpa using h3⟩)

set_option maxRecDepth 100000 in
set_option maxHeartbeats 4000000 in
theorem raw_ok (op : Int) (a b : V) (h : op = 1 ∨ op = 2 ∨ op = 3 ∨ op = 4 ∨ op = 5) (hk : a.k = 2) (hk2 : b.k = 2) (hd : doB op b.n = true) (w : World) :
    Calls Try.prog 29 #[.int .i64 op, a.agg, b.agg] w fun e w' => e = .returned (.tuple #[.agg #[.int .i64 2, .int .i64 (doV op a.n b.n), .string ⟨#[]⟩, .int .u64 0], .string ⟨#[]⟩]) ∧ Below w.heap.size w w' := by
  have HN := fun W => Lib.hid (refDo_any op a.n b.n W)
  rw [hd] at HN
  obtain ⟨ak, an, sa, al⟩ := a
  obtain ⟨bk, bn, sb, bl⟩ := b
  simp only at hk hk2 HN ⊢
  subst hk hk2
  simp only [V.agg]
  obtain ⟨z, hz⟩ : ∃ z, doV op an bn = z := ⟨_, rfl⟩
  rw [hz] at HN ⊢
  clear hz hd
  rcases h with rfl | rfl | rfl | rfl | rfl
  all_goals
    go_enter Try.func29, Try.ntmps29
    go_wp2_with fail
    with_reducible refine ((HN _).out).mono ?_
    rintro e w1 ⟨rfl, hw⟩
    subst hw
    go_wp2
    refine bodyPost_ret (v := .tuple #[.agg #[.int .i64 2, .int .i64 z, .string ⟨#[]⟩, .int .u64 0], .string ⟨#[]⟩]) (by simp [results, Try.results29, go_sem]) rfl ⟨rfl, ?_⟩
    first | exact alloc3 | exact set4 alloc3 (by omega) _ _ _ _
set_option maxRecDepth 100000 in
set_option maxHeartbeats 4000000 in
theorem raw_div (op : Int) (a b : V) (h : op = 1 ∨ op = 2 ∨ op = 3 ∨ op = 4 ∨ op = 5) (hk : a.k = 2) (hk2 : b.k = 2) (hd : doB op b.n = false) (w : World) :
    Calls Try.prog 29 #[.int .i64 op, a.agg, b.agg] w fun e w' => e = .returned (.tuple #[.agg #[.int .i64 0, .int .i64 0, .string ⟨#[]⟩, .int .u64 0], .string divideS]) ∧ Below w.heap.size w w' := by
  have HN := fun W => Lib.hid (refDo_any op a.n b.n W)
  rw [hd] at HN
  obtain ⟨ak, an, sa, al⟩ := a
  obtain ⟨bk, bn, sb, bl⟩ := b
  simp only at hk hk2 HN ⊢
  subst hk hk2
  simp only [V.agg]
  obtain ⟨z, hz⟩ : ∃ z, doV op an bn = z := ⟨_, rfl⟩
  rw [hz] at HN
  clear hz hd
  rcases h with rfl | rfl | rfl | rfl | rfl
  all_goals
    go_enter Try.func29, Try.ntmps29
    go_wp2_with fail
    with_reducible refine ((HN _).out).mono ?_
    rintro e w1 ⟨rfl, hw⟩
    subst hw
    go_wp2
    refine bodyPost_ret (v := .tuple #[.agg #[.int .i64 0, .int .i64 0, .string ⟨#[]⟩, .int .u64 0], .string divideS]) (by simp [divideS, results, Try.results29, go_sem]) rfl ⟨rfl, ?_⟩
    first | exact alloc3 | exact set4 alloc3 (by omega) _ _ _ _
set_option maxRecDepth 100000 in
set_option maxHeartbeats 8000000 in
theorem raw_bad (op : Int) (a b : V) (h : op = 1 ∨ op = 2 ∨ op = 3 ∨ op = 4 ∨ op = 5) (hk : ¬ (a.k = 2 ∧ b.k = 2)) (w : World) :
    Calls Try.prog 29 #[.int .i64 op, a.agg, b.agg] w fun e w' => e = .returned (.tuple #[.agg #[.int .i64 0, .int .i64 0, .string ⟨#[]⟩, .int .u64 0], .string arithS]) ∧ Below w.heap.size w w' := by
  obtain ⟨ak, an, sa, al⟩ := a
  obtain ⟨bk, bn, sb, bl⟩ := b
  simp only at hk ⊢
  simp only [V.agg]
  rcases kinds ak with rfl | rfl | ⟨p2, p3⟩ <;> rcases kinds bk with rfl | rfl | ⟨q2, q3⟩
  · exact absurd ⟨rfl, rfl⟩ hk
  all_goals
    clear hk
    rcases h with rfl | rfl | rfl | rfl | rfl
  all_goals
    go_enter Try.func29, Try.ntmps29
    go_wp2
    refine bodyPost_ret (v := .tuple #[.agg #[.int .i64 0, .int .i64 0, .string ⟨#[]⟩, .int .u64 0], .string arithS]) (by simp [arithS, results, Try.results29, go_sem]) rfl ⟨rfl, ?_⟩
    first | exact alloc3 | exact set4 alloc3 (by omega) _ _ _ _
end ValD
end Go.Proofs.Ytajcglhmononnaa
