/- The document's own operator, without labels: where it compares. -/
import Derived.Test.YtajcglhmononnaaVal10
namespace Go.Proofs.Ytajcglhmononnaa
open Go.RowKit ObjM
namespace ValD
open NumM LabelM LabelD NumD

set_option maxRecDepth 100000 in
set_option maxHeartbeats 4000000 in
theorem raw_same (a b : V) (w : World) :
    Calls Try.prog 29 #[.int .i64 8, a.agg, b.agg] w fun e w' => e = .returned (.tuple #[(flagV (sameB a b)).agg, .string ⟨#[]⟩]) ∧ Below w.heap.size w w' := by
  have HS := fun W => Lib.hid (refSame_any a b W)
  have HF := fun W => Lib.hid (flag_any (sameB a b) W)
  obtain ⟨⟨fk, fn, fs, fl⟩, hf⟩ : ∃ f, flagV (sameB a b) = f := ⟨_, rfl⟩
  obtain ⟨sm, hsm⟩ : ∃ f, sameB a b = f := ⟨_, rfl⟩
  rw [hf] at HF ⊢
  rw [hsm] at HF HS
  clear hf hsm
  obtain ⟨ak, an, sa, al⟩ := a
  obtain ⟨bk, bn, sb, bl⟩ := b
  simp only [V.agg] at HS HF ⊢
  rcases kinds ak with rfl | rfl | ⟨p2, p3⟩ <;> rcases kinds bk with rfl | rfl | ⟨q2, q3⟩
  all_goals
    go_enter Try.func29, Try.ntmps29
    go_wp2_with fail
    with_reducible refine ((HS _).out).mono ?_
    rintro e w1 ⟨rfl, hb1⟩
    have hz := (res3 hb1).2.2.2.2.2.2.2.2
    have hH := (Has.new ((w.alloc _).alloc _) 25 [.int .i64 0, .int .i64 0, .string ⟨#[]⟩, .int .u64 0]).below hb1 (by simp)
    have hB : Below w.heap.size w w1 := alloc3.trans (hb1.mono (by simp; omega))
    clear hb1
    go_wp2_with fail
    with_reducible refine ((HF _).out).mono ?_
    rintro e w2 ⟨rfl, hb2⟩
    have hH2 := hH.below hb2 hH.lt
    simp only [World.size_alloc] at hH2
    have hB2 := hB.trans (hb2.mono hB.size)
    have c0 := hH2.cell 0
    have c1 := hH2.cell 1
    have c2 := hH2.cell 2
    have c3 := hH2.cell 3
    have f0 := hH2.frozen 0
    have f1 := hH2.frozen 1
    have f2 := hH2.frozen 2
    have f3 := hH2.frozen 3
    have hz2 := hH2.lt
    simp at c0 c1 c2 c3
    clear hb2 hH hH2 hB hz
    go_wp2
    refine bodyPost_ret (v := .tuple #[.agg #[.int .i64 fk, .int .i64 fn, .string fs, .int .u64 (fl : Int)], .string ⟨#[]⟩]) (by simp [results, Try.results29, go_sem, c0, c1, c2, c3]) rfl ⟨rfl, ?_⟩
    exact set4 hB2 (by omega) _ _ _ _

theorem lt_int (op a b : Int) (h : op = 6 ∨ op = 7) : (doV op a b == 1) = (decide (a < b) || ((op == 7) && (a == b))) := by
  rcases h with rfl | rfl
  · simp [doV]
    by_cases h : a < b <;> simp [h]
  · simp [doV]
    by_cases h : a < b
    · simp [h]; omega
    · by_cases e : a = b
      · simp [e]
      · have h2 : ¬ a ≤ b := by omega
        simp [h, h2, e]

set_option maxRecDepth 100000 in
set_option maxHeartbeats 4000000 in
theorem raw_cmp (op : Int) (a b : V) (h : op = 6 ∨ op = 7) (hk : a.k = b.k) (hk2 : a.k = 2 ∨ a.k = 3) (w : World) :
    Calls Try.prog 29 #[.int .i64 op, a.agg, b.agg] w fun e w' => e = .returned (.tuple #[(flagV (ltV op a b)).agg, .string ⟨#[]⟩]) ∧ Below w.heap.size w w' := by
  have HF := fun W => Lib.hid (flag_any (ltV op a b) W)
  obtain ⟨x, hx⟩ : ∃ x, ltV op a b = x := ⟨_, rfl⟩
  rw [hx] at HF ⊢
  obtain ⟨⟨fk, fn, fs, fl⟩, hf⟩ : ∃ f, flagV x = f := ⟨_, rfl⟩
  rw [hf] at HF ⊢
  clear hf
  obtain ⟨ak, an, sa, al⟩ := a
  obtain ⟨bk, bn, sb, bl⟩ := b
  simp only [V.agg] at HF hk hk2 ⊢
  subst hk
  rcases hk2 with rfl | rfl
  · have hl : (decide (an < bn) || ((op == 7) && (an == bn))) = x := by rw [← lt_int op an bn h, ← hx]; unfold ltV; rw [if_neg (show ¬ (2 : Int) = 3 by decide)]
    clear hx
    have h3 : (decide (an < bn) = true ∧ x = true) ∨ (decide (an < bn) = false ∧ op = 7 ∧ x = (an == bn)) ∨ (decide (an < bn) = false ∧ op = 6 ∧ x = false) := by
      cases hbl : decide (an < bn)
      · rcases h with rfl | rfl
        · exact .inr (.inr ⟨rfl, rfl, by rw [← hl, hbl]; simp⟩)
        · exact .inr (.inl ⟨rfl, rfl, by rw [← hl, hbl]; simp⟩)
      · exact .inl ⟨rfl, by rw [← hl, hbl]; simp⟩
    clear hl
    rcases h3 with ⟨h1, rfl⟩ | ⟨h1, rfl, hx⟩ | ⟨h1, rfl, rfl⟩
    · rcases h with rfl | rfl
      all_goals
        go_enter Try.func29, Try.ntmps29
        go_wp2_with fail
        with_reducible refine ((HF _).out).mono ?_
        rintro e w1 ⟨rfl, hb1⟩
        obtain ⟨c0, c1, c2, c3, f0, f1, f2, f3, hz⟩ := res3 hb1
        have hB : Below w.heap.size w w1 := alloc3.trans (hb1.mono (by simp; omega))
        clear hb1
        go_wp2
        refine bodyPost_ret (v := .tuple #[.agg #[.int .i64 fk, .int .i64 fn, .string fs, .int .u64 (fl : Int)], .string ⟨#[]⟩]) (by simp [results, Try.results29, go_sem, c0, c1, c2, c3]) rfl ⟨rfl, ?_⟩
        exact set4 hB (by omega) _ _ _ _
    all_goals
      clear h
      try (have HX := Lib.hid hx; clear hx)
      go_enter Try.func29, Try.ntmps29
      go_wp2_with fail
      try (rw [← HX.out])
      with_reducible refine ((HF _).out).mono ?_
      rintro e w1 ⟨rfl, hb1⟩
      obtain ⟨c0, c1, c2, c3, f0, f1, f2, f3, hz⟩ := res3 hb1
      have hB : Below w.heap.size w w1 := alloc3.trans (hb1.mono (by simp; omega))
      clear hb1
      go_wp2
      refine bodyPost_ret (v := .tuple #[.agg #[.int .i64 fk, .int .i64 fn, .string fs, .int .u64 (fl : Int)], .string ⟨#[]⟩]) (by simp [results, Try.results29, go_sem, c0, c1, c2, c3]) rfl ⟨rfl, ?_⟩
      exact set4 hB (by omega) _ _ _ _
  · have hl : (Op.bytesLess sa.toList sb.toList || ((op == 7) && (sa.toList == sb.toList))) = x := by rw [← hx]; unfold ltV; rw [if_pos rfl]
    clear hx
    have h3 : (Op.bytesLess sa.toList sb.toList = true ∧ x = true) ∨ (Op.bytesLess sa.toList sb.toList = false ∧ op = 7 ∧ x = (sa.toList == sb.toList)) ∨ (Op.bytesLess sa.toList sb.toList = false ∧ op = 6 ∧ x = false) := by
      cases hbl : Op.bytesLess sa.toList sb.toList
      · rcases h with rfl | rfl
        · exact .inr (.inr ⟨rfl, rfl, by rw [← hl, hbl]; simp⟩)
        · exact .inr (.inl ⟨rfl, rfl, by rw [← hl, hbl]; simp⟩)
      · exact .inl ⟨rfl, by rw [← hl, hbl]; simp⟩
    clear hl
    rcases h3 with ⟨h1, rfl⟩ | ⟨h1, rfl, hx⟩ | ⟨h1, rfl, rfl⟩
    · rcases h with rfl | rfl
      all_goals
        go_enter Try.func29, Try.ntmps29
        go_wp2_with fail
        with_reducible refine ((HF _).out).mono ?_
        rintro e w1 ⟨rfl, hb1⟩
        obtain ⟨c0, c1, c2, c3, f0, f1, f2, f3, hz⟩ := res3 hb1
        have hB : Below w.heap.size w w1 := alloc3.trans (hb1.mono (by simp; omega))
        clear hb1
        go_wp2
        refine bodyPost_ret (v := .tuple #[.agg #[.int .i64 fk, .int .i64 fn, .string fs, .int .u64 (fl : Int)], .string ⟨#[]⟩]) (by simp [results, Try.results29, go_sem, c0, c1, c2, c3]) rfl ⟨rfl, ?_⟩
        exact set4 hB (by omega) _ _ _ _
    all_goals
      clear h
      try (have HX := Lib.hid hx; clear hx)
      go_enter Try.func29, Try.ntmps29
      go_wp2_with fail
      try (rw [← HX.out])
      with_reducible refine ((HF _).out).mono ?_
      rintro e w1 ⟨rfl, hb1⟩
      obtain ⟨c0, c1, c2, c3, f0, f1, f2, f3, hz⟩ := res3 hb1
      have hB : Below w.heap.size w w1 := alloc3.trans (hb1.mono (by simp; omega))
      clear hb1
      go_wp2
      refine bodyPost_ret (v := .tuple #[.agg #[.int .i64 fk, .int .i64 fn, .string fs, .int .u64 (fl : Int)], .string ⟨#[]⟩]) (by simp [results, Try.results29, go_sem, c0, c1, c2, c3]) rfl ⟨rfl, ?_⟩
      exact set4 hB (by omega) _ _ _ _
end ValD
end Go.Proofs.Ytajcglhmononnaa
