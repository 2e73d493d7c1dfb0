/- An operator's answer, whatever comes of it. -/
import Derived.Test.YtajcglhmononnaaVal6
namespace Go.Proofs.Ytajcglhmononnaa
open Go.RowKit ObjM
namespace ValD
open NumM LabelM LabelD NumD

/-- Behind a call that panics or answers. -/
def Answers (op : Int) (a b : V) (w : World) (e : Ending) (w' : World) : Prop :=
  e = (if (ansR op a b).1 then .returned (ansR op a b).2.1.agg else .panicked (pan (ansR op a b).2.2)) ∧ Below w.heap.size w w'

set_option maxRecDepth 100000 in
set_option maxHeartbeats 4000000 in
theorem answer_arith (op : Int) (a b : V) (h : op = 1 ∨ op = 2 ∨ op = 3 ∨ op = 4 ∨ op = 5) (hk : a.k = 2) (hk2 : b.k = 2) (hd : doB op b.n = true) (w : World) :
    Calls Try.prog 28 #[.int .i64 op, a.agg, b.agg] w fun e w' => e = .returned (.agg #[.int .i64 2, .int .i64 (doV op a.n b.n), .string ⟨#[]⟩, .int .u64 0]) ∧ Below w.heap.size w w' := by
  have HA := fun W => Lib.hid (arith_ok op a b hk hk2 hd W)
  obtain ⟨ak, an, sa, al⟩ := a
  obtain ⟨bk, bn, sb, bl⟩ := b
  simp only at hk hk2
  subst hk hk2
  simp only [V.agg] at HA ⊢
  obtain ⟨z, hz⟩ : ∃ z, doV op an bn = z := ⟨_, rfl⟩
  rw [hz] at HA ⊢
  clear hz hd
  rcases h with rfl | rfl | rfl | rfl | rfl
  all_goals
    go_enter Try.func28, Try.ntmps28
    go_wp2_with fail
    with_reducible refine ((HA _).out).mono ?_
    rintro e w1 ⟨rfl, hb1⟩
    obtain ⟨c0, c1, c2, c3, f0, f1, f2, f3, hz⟩ := res3 hb1
    have hB : Below w.heap.size w w1 := alloc3.trans (hb1.mono (by simp; omega))
    clear hb1
    go_wp2
    refine bodyPost_ret (v := .agg #[.int .i64 2, .int .i64 z, .string ⟨#[]⟩, .int .u64 0]) (by simp [results, Try.results28, go_sem, c0, c1, c2, c3]) rfl ⟨rfl, ?_⟩
    exact set4 hB (by omega) _ _ _ _
set_option maxRecDepth 100000 in
set_option maxHeartbeats 4000000 in
theorem answer_dies (op : Int) (a b : V) (h : op = 1 ∨ op = 2 ∨ op = 3 ∨ op = 4 ∨ op = 5) (S : ByteArray) (hA : ∀ W, Calls Try.prog 33 #[.int .i64 op, a.agg, b.agg] W fun e w' => e = .panicked (pan S) ∧ Below W.heap.size W w') (w : World) :
    Calls Try.prog 28 #[.int .i64 op, a.agg, b.agg] w fun e w' => e = .panicked (pan S) ∧ Below w.heap.size w w' := by
  have HA := fun W => Lib.hid (hA W)
  clear hA
  obtain ⟨ak, an, sa, al⟩ := a
  obtain ⟨bk, bn, sb, bl⟩ := b
  simp only [V.agg] at HA ⊢
  rcases h with rfl | rfl | rfl | rfl | rfl
  all_goals
    go_enter Try.func28, Try.ntmps28
    go_wp2_with fail
    with_reducible refine ((HA _).out).mono ?_
    rintro e w1 ⟨rfl, hb1⟩
    have hB : Below w.heap.size w w1 := alloc3.trans (hb1.mono (by simp; omega))
    clear hb1
    go_wp2
    exact ⟨rfl, rfl, hB⟩
set_option maxRecDepth 100000 in
set_option maxHeartbeats 4000000 in
theorem answer_cmpdies (op : Int) (a b : V) (h : op = 6 ∨ op = 7) (S : ByteArray) (hA : ∀ W, Calls Try.prog 34 #[.int .i64 op, a.agg, b.agg] W fun e w' => e = .panicked (pan S) ∧ Below W.heap.size W w') (w : World) :
    Calls Try.prog 28 #[.int .i64 op, a.agg, b.agg] w fun e w' => e = .panicked (pan S) ∧ Below w.heap.size w w' := by
  have HA := fun W => Lib.hid (hA W)
  clear hA
  obtain ⟨ak, an, sa, al⟩ := a
  obtain ⟨bk, bn, sb, bl⟩ := b
  simp only [V.agg] at HA ⊢
  rcases h with rfl | rfl
  all_goals
    go_enter Try.func28, Try.ntmps28
    go_wp2_with fail
    with_reducible refine ((HA _).out).mono ?_
    rintro e w1 ⟨rfl, hb1⟩
    have hB : Below w.heap.size w w1 := alloc3.trans (hb1.mono (by simp; omega))
    clear hb1
    go_wp2
    exact ⟨rfl, rfl, hB⟩
set_option maxRecDepth 100000 in
set_option maxHeartbeats 4000000 in
theorem answer_none (op : Int) (a b : V) (h : ¬ (op = 1 ∨ op = 2 ∨ op = 3 ∨ op = 4 ∨ op = 5) ∧ op ≠ 9 ∧ op ≠ 6 ∧ op ≠ 7 ∧ op ≠ 8) (w : World) :
    Calls Try.prog 28 #[.int .i64 op, a.agg, b.agg] w fun e w' => e = .panicked (pan arithS) ∧ Below w.heap.size w w' := by
  obtain ⟨h0, h9, h6, h7, h8⟩ := h
  have e1 : (op == 1) = false := by simpa using fun e => h0 (.inl e)
  have e2 : (op == 2) = false := by simpa using fun e => h0 (.inr (.inl e))
  have e3 : (op == 3) = false := by simpa using fun e => h0 (.inr (.inr (.inl e)))
  have e4 : (op == 4) = false := by simpa using fun e => h0 (.inr (.inr (.inr (.inl e))))
  have e5 : (op == 5) = false := by simpa using fun e => h0 (.inr (.inr (.inr (.inr e))))
  have e9 : (op == 9) = false := by simpa using h9
  have e6 : (op == 6) = false := by simpa using h6
  have e7 : (op == 7) = false := by simpa using h7
  have e8 : (op == 8) = false := by simpa using h8
  clear h0 h9 h6 h7 h8
  obtain ⟨ak, an, sa, al⟩ := a
  obtain ⟨bk, bn, sb, bl⟩ := b
  simp only [V.agg]
  go_enter Try.func28, Try.ntmps28
  go_wp2
  exact ⟨rfl, rfl, alloc3⟩
set_option maxRecDepth 100000 in
set_option maxHeartbeats 4000000 in
theorem answer_cat (a b : V) (hk : a.k = 3) (hk2 : b.k = 3) (hs : a.s.size ≤ 1000) (hs2 : b.s.size ≤ 1000) (w : World) :
    Calls Try.prog 28 #[.int .i64 9, a.agg, b.agg] w fun e w' => e = .returned (.agg #[.int .i64 3, .int .i64 0, .string (a.s ++ b.s), .int .u64 0]) ∧ Below w.heap.size w w' := by
  obtain ⟨ak, an, sa, al⟩ := a
  obtain ⟨bk, bn, sb, bl⟩ := b
  simp only at hk hk2 hs hs2
  subst hk hk2
  simp only [V.agg]
  go_enter Try.func28, Try.ntmps28
  go_wp2
  refine bodyPost_ret (v := .agg #[.int .i64 3, .int .i64 0, .string (sa ++ sb), .int .u64 0]) (by simp [results, Try.results28, go_sem]) rfl ⟨rfl, ?_⟩
  first | exact alloc3 | exact set4 alloc3 (by omega) _ _ _ _
set_option maxRecDepth 100000 in
set_option maxHeartbeats 4000000 in
theorem answer_catBad (a b : V) (h : ¬ (a.k = 3 ∧ b.k = 3)) (w : World) :
    Calls Try.prog 28 #[.int .i64 9, a.agg, b.agg] w fun e w' => e = .panicked (pan concatS) ∧ Below w.heap.size w w' := by
  obtain ⟨ak, an, sa, al⟩ := a
  obtain ⟨bk, bn, sb, bl⟩ := b
  simp only at h
  simp only [V.agg]
  by_cases hk : ak = 3
  · subst hk
    have hb : (bk == 3) = false := by simpa using fun e => h ⟨rfl, e⟩
    have hb2 : (bk != 3) = true := by simpa using fun e => h ⟨rfl, e⟩
    clear h
    go_enter Try.func28, Try.ntmps28
    go_wp2
    exact ⟨rfl, rfl, alloc3⟩
  · have hb : (ak == 3) = false := by simpa using hk
    have hb2 : (ak != 3) = true := by simpa using hk
    clear h hk
    go_enter Try.func28, Try.ntmps28
    go_wp2
    exact ⟨rfl, rfl, alloc3⟩
set_option maxRecDepth 100000 in
set_option maxHeartbeats 4000000 in
theorem answer_same (a b : V) (w : World) :
    Calls Try.prog 28 #[.int .i64 8, a.agg, b.agg] w fun e w' => e = .returned (flagV (sameB a b)).agg ∧ Below w.heap.size w w' := by
  have HS := fun W => Lib.hid (same_any a b W)
  have HF := fun W => Lib.hid (truth_any (sameB a b) W)
  obtain ⟨⟨fk, fn, fs, fl⟩, hf⟩ : ∃ f, flagV (sameB a b) = f := ⟨_, rfl⟩
  obtain ⟨sm, hsm⟩ : ∃ f, sameB a b = f := ⟨_, rfl⟩
  rw [hf] at HF ⊢
  rw [hsm] at HF HS
  clear hf hsm
  obtain ⟨ak, an, sa, al⟩ := a
  obtain ⟨bk, bn, sb, bl⟩ := b
  simp only [V.agg] at HS HF ⊢
  go_enter Try.func28, Try.ntmps28
  go_wp2_with fail
  with_reducible refine ((HS _).out).mono ?_
  rintro e w1 ⟨rfl, hb1⟩
  obtain ⟨-, -, -, -, -, -, -, -, hz⟩ := res3 hb1
  have hH := (Has.new ((w.alloc (.cells #[.int .i64 ak, .int .i64 an, .string sa, .int .u64 (al : Int)] 25)).alloc (.cells #[.int .i64 bk, .int .i64 bn, .string sb, .int .u64 (bl : Int)] 25)) 25 [.int .i64 0, .int .i64 0, .string ⟨#[]⟩, .int .u64 0]).below hb1 (by simp)
  have hB : Below w.heap.size w w1 := alloc3.trans (hb1.mono (by simp; omega))
  clear hb1
  go_wp2_with fail
  with_reducible refine ((HF _).out).mono ?_
  rintro e w2 ⟨rfl, hb2⟩
  have hH2 := hH.below hb2 hH.lt
  simp only [World.size_alloc] at hH2
  have hB2 := hB.trans (hb2.mono hB.size)
  have c0 := hH2.cell 0
  have c1 := hH2.cell 1
  have c2 := hH2.cell 2
  have c3 := hH2.cell 3
  have f0 := hH2.frozen 0
  have f1 := hH2.frozen 1
  have f2 := hH2.frozen 2
  have f3 := hH2.frozen 3
  have hz2 := hH2.lt
  simp at c0 c1 c2 c3
  clear hb2 hH hH2 hB hz
  go_wp2
  refine bodyPost_ret (v := .agg #[.int .i64 fk, .int .i64 fn, .string fs, .int .u64 (fl : Int)]) (by simp [results, Try.results28, go_sem, c0, c1, c2, c3]) rfl ⟨rfl, ?_⟩
  exact set4 hB2 (by omega) _ _ _ _
theorem answer_any (op : Int) (a b : V) (hs : a.s.size ≤ 1000) (hs2 : b.s.size ≤ 1000) (w : World) :
    Calls Try.prog 28 #[.int .i64 op, a.agg, b.agg] w (Answers op a b w) := by
  rcases way op a b with ⟨h, hk, hk2, hd, e⟩ | ⟨h, hk, hk2, hd, e⟩ | ⟨h, hk, e⟩ | ⟨rfl, hk, hk2, e⟩ | ⟨rfl, hk, e⟩ | ⟨h, hk, hk2, e⟩ | ⟨h, hk, e⟩ | ⟨rfl, e⟩ | ⟨h, e⟩
  all_goals unfold Answers; rw [e]
  · exact answer_arith op a b h hk hk2 hd w
  · exact answer_dies op a b h _ (arith_div op a b hk hk2 hd) w
  · exact answer_dies op a b h _ (arith_bad op a b hk) w
  · exact answer_cat a b hk hk2 hs hs2 w
  · exact answer_catBad a b hk w
  · exact answer_cmp op h a b hk hk2 w
  · exact answer_cmpdies op a b h _ (compare_bad op a b hk) w
  · exact answer_same a b w
  · exact answer_none op a b h w
end ValD
end Go.Proofs.Ytajcglhmononnaa
