/- What an operator comes to where nothing goes wrong. -/
import Derived.Test.YtajcglhmononnaaDoorVal
namespace Go.Proofs.YtajcglhmononnaaDoor
open Go.RowKit ObjM
namespace ValD
open NumM LabelM LabelD NumD

theorem bcell' {W w1 : World} (hb : Below W.heap.size W w1) : (∀ b o, b < W.heap.size → w1.cell? ⟨b, o, none⟩ = W.cell? ⟨b, o, none⟩) ∧ (∀ b o, b < W.heap.size → w1.frozen? ⟨b, o, none⟩ = W.frozen? ⟨b, o, none⟩) :=
  ⟨fun b o h => hb.cell (p := ⟨b, o, none⟩) h, fun b o h => hb.frozen (p := ⟨b, o, none⟩) h⟩
theorem alloc3 {w : World} {o p q : Go.Obj} : Below w.heap.size w (((w.alloc o).alloc p).alloc q) := (((Below.refl _ w).alloc (Nat.le_refl _) _).alloc (by simp) _).alloc (by simp; omega) _
/-- A zero value in the third of three new blocks, behind a call. -/
theorem res3 {w w1 : World} {o p : Go.Obj} (hb : Below (((w.alloc o).alloc p).alloc (.cells #[.int .i64 0, .int .i64 0, .string ⟨#[]⟩, .int .u64 0] 25)).heap.size (((w.alloc o).alloc p).alloc (.cells #[.int .i64 0, .int .i64 0, .string ⟨#[]⟩, .int .u64 0] 25)) w1) :
    w1.cell? ⟨w.heap.size + 1 + 1, 0, none⟩ = some (.int .i64 0) ∧ w1.cell? ⟨w.heap.size + 1 + 1, 1, none⟩ = some (.int .i64 0) ∧ w1.cell? ⟨w.heap.size + 1 + 1, 2, none⟩ = some (.string ⟨#[]⟩) ∧ w1.cell? ⟨w.heap.size + 1 + 1, 3, none⟩ = some (.int .u64 0) ∧
      w1.frozen? ⟨w.heap.size + 1 + 1, 0, none⟩ = false ∧ w1.frozen? ⟨w.heap.size + 1 + 1, 1, none⟩ = false ∧ w1.frozen? ⟨w.heap.size + 1 + 1, 2, none⟩ = false ∧ w1.frozen? ⟨w.heap.size + 1 + 1, 3, none⟩ = false ∧ w.heap.size + 1 + 1 < w1.heap.size := by
  have h := (Has.new ((w.alloc o).alloc p) 25 [.int .i64 0, .int .i64 0, .string ⟨#[]⟩, .int .u64 0]).below hb (by simp)
  simp only [World.size_alloc] at h
  exact ⟨h.cell 0, h.cell 1, h.cell 2, h.cell 3, h.frozen 0, h.frozen 1, h.frozen 2, h.frozen 3, h.lt⟩
theorem set4 {w w1 : World} (h : Below w.heap.size w w1) {b : Nat} (hb : w.heap.size ≤ b) (x y z u : Value) : Below w.heap.size w ((((w1.setCell ⟨b, 0, none⟩ x).setCell ⟨b, 1, none⟩ y).setCell ⟨b, 2, none⟩ z).setCell ⟨b, 3, none⟩ u) :=
  (((h.setCell (p := ⟨b, 0, none⟩) hb _).setCell (p := ⟨b, 1, none⟩) hb _).setCell (p := ⟨b, 2, none⟩) hb _).setCell (p := ⟨b, 3, none⟩) hb _
/-- Two numbers, or two texts, in order. -/
def ltV (op : Int) (a b : V) : Bool := if a.k = 3 then (Op.bytesLess a.s.toList b.s.toList) || ((op == 7) && (a.s.toList == b.s.toList)) else doV op a.n b.n == 1
set_option maxRecDepth 100000 in
set_option maxHeartbeats 2000000 in
theorem compare_ok (op : Int) (a b : V) (hk : a.k = b.k) (hk2 : a.k = 2 ∨ a.k = 3) (w : World) :
    Calls Tryd.prog 21 #[.int .i64 op, a.agg, b.agg] w fun e w' => e = .returned (flagV (ltV op a b)).agg ∧ Below w.heap.size w w' := by
  have HF := fun b W => Lib.hid (truth_any b W)
  have HN := fun W => Lib.hid (do_any op a.n b.n W)
  obtain ⟨ak, an, sa, al⟩ := a
  obtain ⟨bk, bn, sb, bl⟩ := b
  simp only at hk hk2 HN
  subst hk
  rcases hk2 with rfl | rfl
  · obtain ⟨x, hx⟩ : ∃ x, (doV op an bn == 1) = x := ⟨_, rfl⟩
    have hl : ltV op ⟨2, an, sa, al⟩ ⟨2, bn, sb, bl⟩ = x := by unfold ltV; rw [if_neg (show ¬ (2 : Int) = 3 by decide)]; exact hx
    rw [hl]
    clear hl
    obtain ⟨⟨fk, fn, fs, fl⟩, hf⟩ : ∃ f, flagV x = f := ⟨_, rfl⟩
    have HF1 := fun W => HF x W
    rw [hf] at HF1 ⊢
    clear hf HF
    simp only [V.agg] at HF1 ⊢
    go_enter Tryd.func21, Tryd.ntmps21
    go_wp2_with fail
    with_reducible refine ((HN _).out).mono ?_
    rintro e w1 ⟨rfl, hw⟩
    subst hw
    go_wp2_with fail
    with_reducible refine ((HF1 _).out).mono ?_
    rintro e w1 ⟨rfl, hb1⟩
    obtain ⟨c0, c1, c2, c3, f0, f1, f2, f3, hz⟩ := res3 hb1
    have hB : Below w.heap.size w w1 := alloc3.trans (hb1.mono (by simp; omega))
    clear hb1
    go_wp2
    refine bodyPost_ret (v := .agg #[.int .i64 fk, .int .i64 fn, .string fs, .int .u64 (fl : Int)]) (by simp [results, Tryd.results21, go_sem, c0, c1, c2, c3]) rfl ⟨rfl, ?_⟩
    exact set4 hB (by omega) _ _ _ _
  · obtain ⟨x, hx⟩ : ∃ x, ltV op ⟨3, an, sa, al⟩ ⟨3, bn, sb, bl⟩ = x := ⟨_, rfl⟩
    have hl : (Op.bytesLess sa.toList sb.toList || ((op == 7) && (sa.toList == sb.toList))) = x := by rw [← hx]; unfold ltV; rw [if_pos rfl]
    rw [hx]
    clear hx
    obtain ⟨⟨fk, fn, fs, fl⟩, hf⟩ : ∃ f, flagV x = f := ⟨_, rfl⟩
    have HF1 := fun W => HF x W
    rw [hf] at HF1 ⊢
    clear hf HF HN
    simp only [V.agg] at HF1 ⊢
    have HL := Lib.hid hl
    clear hl
    have h3 : (Op.bytesLess sa.toList sb.toList = true ∧ x = true) ∨ (Op.bytesLess sa.toList sb.toList = false ∧ op = 7 ∧ x = (sa.toList == sb.toList)) ∨ (Op.bytesLess sa.toList sb.toList = false ∧ op ≠ 7 ∧ x = false) := by
      have hl := HL.out
      cases hbl : Op.bytesLess sa.toList sb.toList
      · by_cases h7 : op = 7
        · exact .inr (.inl ⟨rfl, h7, by rw [← hl, hbl, h7]; simp⟩)
        · exact .inr (.inr ⟨rfl, h7, by rw [← hl, hbl]; simp [h7]⟩)
      · exact .inl ⟨rfl, by rw [← hl, hbl]; simp⟩
    clear HL
    rcases h3 with ⟨h1, rfl⟩ | ⟨h1, rfl, hx⟩ | ⟨h1, h7, rfl⟩
    all_goals
      try (have h7b : (op == 7) = false := by simpa using h7)
      try (have HX := Lib.hid hx; clear hx)
      go_enter Tryd.func21, Tryd.ntmps21
      go_wp2_with fail
      try (rw [← HX.out])
      with_reducible refine ((HF1 _).out).mono ?_
      rintro e w1 ⟨rfl, hb1⟩
      obtain ⟨c0, c1, c2, c3, f0, f1, f2, f3, hz⟩ := res3 hb1
      have hB : Below w.heap.size w w1 := alloc3.trans (hb1.mono (by simp; omega))
      clear hb1
      go_wp2
      refine bodyPost_ret (v := .agg #[.int .i64 fk, .int .i64 fn, .string fs, .int .u64 (fl : Int)]) (by simp [results, Tryd.results21, go_sem, c0, c1, c2, c3]) rfl ⟨rfl, ?_⟩
      exact set4 hB (by omega) _ _ _ _

set_option maxRecDepth 100000 in
set_option maxHeartbeats 2000000 in
theorem arith_ok (op : Int) (a b : V) (hk : a.k = 2) (hk2 : b.k = 2) (hd : doB op b.n = true) (w : World) :
    Calls Tryd.prog 20 #[.int .i64 op, a.agg, b.agg] w fun e w' => e = .returned (.agg #[.int .i64 2, .int .i64 (doV op a.n b.n), .string ⟨#[]⟩, .int .u64 0]) ∧ Below w.heap.size w w' := by
  have HN := fun W => Lib.hid (do_any op a.n b.n W)
  rw [hd] at HN
  obtain ⟨ak, an, sa, al⟩ := a
  obtain ⟨bk, bn, sb, bl⟩ := b
  simp only at hk hk2 HN ⊢
  subst hk hk2
  simp only [V.agg]
  clear hd
  go_enter Tryd.func20, Tryd.ntmps20
  go_wp2_with fail
  with_reducible refine ((HN _).out).mono ?_
  rintro e w1 ⟨rfl, hw⟩
  subst hw
  go_wp2
  exact bodyPost_ret (v := .agg #[.int .i64 2, .int .i64 (doV op an bn), .string ⟨#[]⟩, .int .u64 0]) (by simp [results, Tryd.results20, go_sem]) rfl ⟨rfl, alloc3⟩

set_option maxRecDepth 100000 in
set_option maxHeartbeats 2000000 in
theorem answer_add (a b : V) (hk : a.k = 2) (hk2 : b.k = 2) (w : World) :
    Calls Tryd.prog 18 #[.int .i64 1, a.agg, b.agg] w fun e w' => e = .returned (.agg #[.int .i64 2, .int .i64 (doV 1 a.n b.n), .string ⟨#[]⟩, .int .u64 0]) ∧ Below w.heap.size w w' := by
  have HA := fun W => Lib.hid (arith_ok 1 a b hk hk2 (doB_true (by decide) (by decide) (by omega)) W)
  obtain ⟨ak, an, sa, al⟩ := a
  obtain ⟨bk, bn, sb, bl⟩ := b
  simp only at hk hk2
  subst hk hk2
  simp only [V.agg] at HA ⊢
  obtain ⟨z, hz⟩ : ∃ z, doV 1 an bn = z := ⟨_, rfl⟩
  rw [hz] at HA ⊢
  clear hz
  go_enter Tryd.func18, Tryd.ntmps18
  go_wp2_with fail
  with_reducible refine ((HA _).out).mono ?_
  rintro e w1 ⟨rfl, hb1⟩
  obtain ⟨c0, c1, c2, c3, f0, f1, f2, f3, hz⟩ := res3 hb1
  have hB : Below w.heap.size w w1 := alloc3.trans (hb1.mono (by simp; omega))
  clear hb1
  go_wp2
  refine bodyPost_ret (v := .agg #[.int .i64 2, .int .i64 z, .string ⟨#[]⟩, .int .u64 0]) (by simp [results, Tryd.results18, go_sem, c0, c1, c2, c3]) rfl ⟨rfl, ?_⟩
  exact set4 hB (by omega) _ _ _ _

set_option maxRecDepth 100000 in
set_option maxHeartbeats 2000000 in
theorem answer_cmp (op : Int) (hop : op = 6 ∨ op = 7) (a b : V) (hk : a.k = b.k) (hk2 : a.k = 2 ∨ a.k = 3) (w : World) :
    Calls Tryd.prog 18 #[.int .i64 op, a.agg, b.agg] w fun e w' => e = .returned (flagV (ltV op a b)).agg ∧ Below w.heap.size w w' := by
  have HA := fun W => Lib.hid (compare_ok op a b hk hk2 W)
  obtain ⟨⟨fk, fn, fs, fl⟩, hf⟩ : ∃ f, flagV (ltV op a b) = f := ⟨_, rfl⟩
  rw [hf] at HA ⊢
  clear hf
  obtain ⟨ak, an, sa, al⟩ := a
  obtain ⟨bk, bn, sb, bl⟩ := b
  simp only [V.agg] at HA ⊢
  clear hk hk2
  rcases hop with rfl | rfl
  all_goals
    go_enter Tryd.func18, Tryd.ntmps18
    go_wp2_with fail
    with_reducible refine ((HA _).out).mono ?_
    rintro e w1 ⟨rfl, hb1⟩
    obtain ⟨c0, c1, c2, c3, f0, f1, f2, f3, hz⟩ := res3 hb1
    have hB : Below w.heap.size w w1 := alloc3.trans (hb1.mono (by simp; omega))
    clear hb1
    go_wp2
    refine bodyPost_ret (v := .agg #[.int .i64 fk, .int .i64 fn, .string fs, .int .u64 (fl : Int)]) (by simp [results, Tryd.results18, go_sem, c0, c1, c2, c3]) rfl ⟨rfl, ?_⟩
    exact set4 hB (by omega) _ _ _ _
end ValD
end Go.Proofs.YtajcglhmononnaaDoor
