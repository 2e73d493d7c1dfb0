/- The walk of ValueOrders. -/
import Derived.Test.YtajcglhmononnaaValLaws
import Derived.Test.YtajcglhmononnaaValOrd
namespace Go.Proofs.Ytajcglhmononnaa
open Go.RowKit ObjM
namespace ValD
open NumM LabelM LabelD NumD

/-- Both boxes, in every world behind a base. -/
theorem both_boxes {w w1 : World} {a b : V} (hb1 : Below ((w.alloc (.cells a.cells 25)).alloc (.cells b.cells 25)).heap.size ((w.alloc (.cells a.cells 25)).alloc (.cells b.cells 25)) w1) :
    ∀ W', Below w1.heap.size w1 W' → (W'.cell? ⟨w.heap.size, 0, none⟩ = some (.int .i64 a.k) ∧ W'.cell? ⟨w.heap.size, 1, none⟩ = some (.int .i64 a.n) ∧ W'.cell? ⟨w.heap.size, 2, none⟩ = some (.string a.s) ∧ W'.cell? ⟨w.heap.size, 3, none⟩ = some (.int .u64 (a.l : Int))) ∧
      (W'.cell? ⟨w.heap.size + 1, 0, none⟩ = some (.int .i64 b.k) ∧ W'.cell? ⟨w.heap.size + 1, 1, none⟩ = some (.int .i64 b.n) ∧ W'.cell? ⟨w.heap.size + 1, 2, none⟩ = some (.string b.s) ∧ W'.cell? ⟨w.heap.size + 1, 3, none⟩ = some (.int .u64 (b.l : Int))) ∧ w.heap.size + 1 < W'.heap.size ∧ w.heap.size < W'.heap.size := by
  intro W' hb
  have hA := ((Has.new w 25 a.cells.toList).keepsT ((KeepsT.refl [] _).alloc (.cells b.cells 25)) (by simp)).below hb1 (by simp; omega)
  have hB := (Has.new (w.alloc (.cells a.cells 25)) 25 b.cells.toList).below hb1 (by simp)
  simp only [World.size_alloc] at hB
  have hA' := hA.below hb hA.lt
  have hB' := hB.below hb hB.lt
  exact ⟨⟨hA'.cell 0, hA'.cell 1, hA'.cell 2, hA'.cell 3⟩, ⟨hB'.cell 0, hB'.cell 1, hB'.cell 2, hB'.cell 3⟩, hB'.lt, hA'.lt⟩

theorem flag_lt (b : Bool) : (flagV b).l < M64 := by cases b <;> exact (by decide : (0 : Nat) < M64)
set_option maxRecDepth 100000 in
set_option maxHeartbeats 2000000 in
theorem valueOrders_any (a b : V) (hal : a.l < M64) (hbl : b.l < M64) (has : a.s.size ≤ 9223372036854775807) (hbs : b.s.size ≤ 9223372036854775807) (w : World) :
    Calls Try.prog 7 #[a.agg, b.agg] w fun e w' => e = .returned (.bool true) ∧ Below w.heap.size w w' := by
  have HA := fun W => Lib.hid (awake_any W)
  have HS := fun W n hA => Lib.hid (small2_any a b has hbs W n hA)
  have HCa := fun W => Lib.hid (check_any a W)
  have HCb := fun W => Lib.hid (check_any b W)
  have HBX := fun w1 hb1 => Lib.hid (both_boxes (w := w) (w1 := w1) (a := a) (b := b) hb1)
  by_cases hgo : (decide (a.s.size ≤ 1000) && decide (b.s.size ≤ 1000)) = true ∧ a.k = b.k ∧ (a.k = 2 ∨ a.k = 3) ∧ checkB a = true ∧ checkB b = true
  · obtain ⟨hsz, hk, hk2, hca, hcb⟩ := hgo
    rw [hsz] at HS
    rw [hca] at HCa
    rw [hcb] at HCb
    have hcond : (a.k = 2 ∧ a.s.toList = [] ∧ b.s.toList = []) ∨ (a.k = 3 ∧ a.n = 0 ∧ b.n = 0) := by
      unfold checkB at hca hcb
      rcases hk2 with h | h
      · have hb2 : b.k = 2 := by omega
        simp [h] at hca
        simp [hb2] at hcb
        exact .inl ⟨h, hca, hcb⟩
      · have hb2 : b.k = 3 := by omega
        simp [h] at hca
        simp [hb2] at hcb
        exact .inr ⟨h, hca, hcb⟩
    obtain ⟨t1, t2⟩ := lt_tri a b hk hcond
    have HT := Lib.hid t1
    have HU := Lib.hid t2
    have hk2b : b.k = 2 ∨ b.k = 3 := by omega
    have H6 : ∀ W, Hid (Calls Try.prog 10 #[.int .i64 6, a.agg, b.agg] W fun e w' => e = .returned (.tuple #[.agg #[.int .i64 1, .int .i64 (if ltV 6 a b then 1 else 0), .string ⟨#[]⟩, .int .u64 ((0 ||| (a.l ||| b.l) : Nat) : Int)], .string ⟨#[]⟩]) ∧ Below W.heap.size W w') :=
      fun W => Lib.hid (do_ok 6 a b (flagV (ltV 6 a b)) hal hbl (flag_lt _) (fun W' => answer_cmp 6 (.inl rfl) a b hk hk2 W') W)
    have H6' : ∀ W, Hid (Calls Try.prog 10 #[.int .i64 6, b.agg, a.agg] W fun e w' => e = .returned (.tuple #[.agg #[.int .i64 1, .int .i64 (if ltV 6 b a then 1 else 0), .string ⟨#[]⟩, .int .u64 ((0 ||| (b.l ||| a.l) : Nat) : Int)], .string ⟨#[]⟩]) ∧ Below W.heap.size W w') :=
      fun W => Lib.hid (do_ok 6 b a (flagV (ltV 6 b a)) hbl hal (flag_lt _) (fun W' => answer_cmp 6 (.inl rfl) b a hk.symm hk2b W') W)
    have H7 : ∀ W, Hid (Calls Try.prog 10 #[.int .i64 7, a.agg, b.agg] W fun e w' => e = .returned (.tuple #[.agg #[.int .i64 1, .int .i64 (if ltV 7 a b then 1 else 0), .string ⟨#[]⟩, .int .u64 ((0 ||| (a.l ||| b.l) : Nat) : Int)], .string ⟨#[]⟩]) ∧ Below W.heap.size W w') :=
      fun W => Lib.hid (do_ok 7 a b (flagV (ltV 7 a b)) hal hbl (flag_lt _) (fun W' => answer_cmp 7 (.inr rfl) a b hk hk2 W') W)
    have HM := fun W => Lib.hid (same_any a b W)
    have n6 : ∃ n6 : Int, (if ltV 6 a b then (1 : Int) else 0) = n6 ∧ 0 ≤ n6 ∧ n6 ≤ 1 := ⟨_, rfl, by split <;> omega, by split <;> omega⟩
    have n6' : ∃ n6 : Int, (if ltV 6 b a then (1 : Int) else 0) = n6 ∧ 0 ≤ n6 ∧ n6 ≤ 1 := ⟨_, rfl, by split <;> omega, by split <;> omega⟩
    obtain ⟨x, hx, hx0, hx1⟩ := n6
    obtain ⟨y, hy, hy0, hy1⟩ := n6'
    obtain ⟨z, hz⟩ : ∃ z : Int, (if ltV 7 a b then (1 : Int) else 0) = z := ⟨_, rfl⟩
    obtain ⟨sm, hsm⟩ : ∃ sm, sameB a b = sm := ⟨_, rfl⟩
    simp only [hx, hy, hz, hsm] at H6 H6' H7 HT HU HM
    clear hx hy hz hsm t1 t2 hcond hsz hca hcb
    generalize (0 ||| (a.l ||| b.l) : Nat) = L1 at H6 H7
    generalize (0 ||| (b.l ||| a.l) : Nat) = L2 at H6'
    obtain ⟨ak, an, sa, al⟩ := a
    obtain ⟨bk, bn, sb, bl⟩ := b
    simp only [V.agg, V.cells] at *
    simp only [List.cons_append, List.nil_append] at HS
    subst hk
    rcases hk2 with rfl | rfl
    all_goals
      clear hk2b
      go_enter Try.func7, Try.ntmps7
      go_wp2_with fail
      with_reducible refine ((HA _).out).mono ?_
      rintro e w1 ⟨rfl, hb1⟩
      have HF := HBX w1 hb1
      have B0 := Lib.hid (alloc2.trans (hb1.mono (by simp; omega)))
      obtain ⟨⟨c0, c1, c2, c3⟩, ⟨d0, d1, d2, d3⟩, hlt, hm⟩ := HF.out w1 (Below.refl _ _)
      have hS := HS _ _ (Has.new w1 25 _)
      clear hb1
      go_wp2_with fail
      with_reducible refine (hS.out).mono ?_
      rintro e w2 ⟨rfl, hb⟩
      have B2 : Hid (Below w1.heap.size w1 w2) := Lib.hid (alloc1.trans (hb.mono (by simp)))
      clear hb hS c0 c1 c2 c3 d0 d1 d2 d3 hlt hm
      obtain ⟨⟨c0, c1, c2, c3⟩, ⟨d0, d1, d2, d3⟩, hlt, hm⟩ := HF.out w2 B2.out
      go_wp2_with fail
      with_reducible refine ((HCa _).out).mono ?_
      rintro e w3 ⟨rfl, hb⟩
      have B3 : Hid (Below w1.heap.size w1 w3) := Lib.hid (B2.out.trans (hb.mono B2.out.size))
      clear hb c0 c1 c2 c3 d0 d1 d2 d3 hlt hm
      obtain ⟨⟨c0, c1, c2, c3⟩, ⟨d0, d1, d2, d3⟩, hlt, hm⟩ := HF.out w3 B3.out
      go_wp2_with fail
      with_reducible refine ((HCb _).out).mono ?_
      rintro e w4 ⟨rfl, hb⟩
      have B4 : Hid (Below w1.heap.size w1 w4) := Lib.hid (B3.out.trans (hb.mono B3.out.size))
      clear hb c0 c1 c2 c3 d0 d1 d2 d3 hlt hm
      obtain ⟨⟨c0, c1, c2, c3⟩, ⟨d0, d1, d2, d3⟩, hlt, hm⟩ := HF.out w4 B4.out
      go_wp2_with fail
      with_reducible refine ((H6 _).out).mono ?_
      rintro e w5 ⟨rfl, hb⟩
      have B5 : Hid (Below w1.heap.size w1 w5) := Lib.hid (B4.out.trans (hb.mono B4.out.size))
      clear hb c0 c1 c2 c3 d0 d1 d2 d3 hlt hm
      obtain ⟨⟨c0, c1, c2, c3⟩, ⟨d0, d1, d2, d3⟩, hlt, hm⟩ := HF.out w5 B5.out
      go_wp2_with fail
      with_reducible refine ((H6' _).out).mono ?_
      rintro e w6 ⟨rfl, hb⟩
      have hX := Lib.hid ((Has.new w5 25 [.int .i64 1, .int .i64 x, .string ⟨#[]⟩, .int .u64 (L1 : Int)]).below hb (by simp))
      have B6 : Hid (Below w1.heap.size w1 w6) := Lib.hid (B5.out.trans ((alloc1.trans (hb.mono (by simp))).mono B5.out.size))
      clear hb c0 c1 c2 c3 d0 d1 d2 d3 hlt hm
      obtain ⟨⟨c0, c1, c2, c3⟩, ⟨d0, d1, d2, d3⟩, hlt, hm⟩ := HF.out w6 B6.out
      go_wp2_with fail
      with_reducible refine ((H7 _).out).mono ?_
      rintro e w7 ⟨rfl, hb⟩
      have hY := Lib.hid ((Has.new w6 25 [.int .i64 1, .int .i64 y, .string ⟨#[]⟩, .int .u64 (L2 : Int)]).below hb (by simp))
      have hX7 := Lib.hid ((hX.out.keepsT ((KeepsT.refl [] _).alloc _) (by simp)).below hb (by have := hX.out.lt; simp; omega))
      have B7 : Hid (Below w1.heap.size w1 w7) := Lib.hid (B6.out.trans ((alloc1.trans (hb.mono (by simp))).mono B6.out.size))
      clear hb c0 c1 c2 c3 d0 d1 d2 d3 hlt hm
      obtain ⟨⟨c0, c1, c2, c3⟩, ⟨d0, d1, d2, d3⟩, hlt, hm⟩ := HF.out w7 B7.out
      have x1 := hX7.out.cell 1
      have y1 := hY.out.cell 1
      have xl := hX7.out.lt
      have yl := hY.out.lt
      simp at x1 y1
      go_wp2_with fail
      with_reducible refine ((HM _).out).mono ?_
      rintro e w8 ⟨rfl, hb⟩
      have hZ8 := (Has.new w7 25 [.int .i64 1, .int .i64 z, .string ⟨#[]⟩, .int .u64 (L1 : Int)]).below hb (by simp)
      have hY8 := (hY.out.keepsT ((KeepsT.refl [] _).alloc _) (by simp)).below hb (by have := hY.out.lt; simp; omega)
      have B8 : Hid (Below w1.heap.size w1 w8) := Lib.hid (B7.out.trans ((alloc1.trans (hb.mono (by simp))).mono B7.out.size))
      clear hb c0 c1 c2 c3 d0 d1 d2 d3 hlt hm x1 y1 xl yl
      have z1 := hZ8.cell 1
      have y1 := hY8.cell 1
      have zl := hZ8.lt
      have yl := hY8.lt
      simp at z1 y1
      clear hZ8 hY8
      have ht := HT.out
      have hu := HU.out
      cases sm
      all_goals
        simp at ht
        go_wp2
        go_ret
        exact ⟨by first | (simp; done) | (simp; omega), B0.out.trans (B8.out.mono B0.out.size)⟩
  · have hcase : (decide (a.s.size ≤ 1000) && decide (b.s.size ≤ 1000)) = false ∨ ((decide (a.s.size ≤ 1000) && decide (b.s.size ≤ 1000)) = true ∧ (¬ a.k = b.k ∨ (a.k = b.k ∧ ¬ a.k = 2 ∧ ¬ a.k = 3) ∨ (a.k = b.k ∧ (a.k = 2 ∨ a.k = 3) ∧ checkB a = false) ∨ (a.k = b.k ∧ (a.k = 2 ∨ a.k = 3) ∧ checkB a = true ∧ checkB b = false))) := by
      cases hs : (decide (a.s.size ≤ 1000) && decide (b.s.size ≤ 1000))
      · exact .inl rfl
      · refine .inr ⟨rfl, ?_⟩
        by_cases h1 : a.k = b.k
        · by_cases h2 : a.k = 2 ∨ a.k = 3
          · cases h3 : checkB a
            · exact .inr (.inr (.inl ⟨h1, h2, rfl⟩))
            · cases h4 : checkB b
              · exact .inr (.inr (.inr ⟨h1, h2, rfl, rfl⟩))
              · exact absurd ⟨hs, h1, h2, h3, h4⟩ hgo
          · exact .inr (.inl ⟨h1, fun h => h2 (.inl h), fun h => h2 (.inr h)⟩)
        · exact .inl h1
    clear hgo
    obtain ⟨ca, hca⟩ : ∃ c, checkB a = c := ⟨_, rfl⟩
    obtain ⟨cb, hcb⟩ : ∃ c, checkB b = c := ⟨_, rfl⟩
    obtain ⟨sz, hsz⟩ : ∃ c, (decide (a.s.size ≤ 1000) && decide (b.s.size ≤ 1000)) = c := ⟨_, rfl⟩
    rw [hca] at HCa hcase
    rw [hcb] at HCb hcase
    rw [hsz] at hcase
    simp only [hsz] at HS
    clear hca hcb hsz
    obtain ⟨ak, an, sa, al⟩ := a
    obtain ⟨bk, bn, sb, bl⟩ := b
    simp only [V.agg, V.cells] at *
    simp only [List.cons_append, List.nil_append] at HS
    rcases hcase with rfl | ⟨rfl, hne | ⟨rfl, h2, h3⟩ | ⟨rfl, h2, rfl⟩ | ⟨rfl, h2, rfl, rfl⟩⟩
    rotate_left 3
    · rcases h2 with rfl | rfl
      all_goals
        go_enter Try.func7, Try.ntmps7
        go_wp2_with fail
        with_reducible refine ((HA _).out).mono ?_
        rintro e w1 ⟨rfl, hb1⟩
        have HF := HBX w1 hb1
        have B0 := Lib.hid (alloc2.trans (hb1.mono (by simp; omega)))
        obtain ⟨⟨c0, c1, c2, c3⟩, ⟨d0, d1, d2, d3⟩, hlt, hm⟩ := HF.out w1 (Below.refl _ _)
        have hS := HS _ _ (Has.new w1 25 _)
        clear hb1
        go_wp2_with fail
        with_reducible refine (hS.out).mono ?_
        rintro e w2 ⟨rfl, hb⟩
        have B2 : Hid (Below w1.heap.size w1 w2) := Lib.hid (alloc1.trans (hb.mono (by simp)))
        clear hb hS c0 c1 c2 c3 d0 d1 d2 d3 hlt hm
        obtain ⟨⟨c0, c1, c2, c3⟩, ⟨d0, d1, d2, d3⟩, hlt, hm⟩ := HF.out w2 B2.out
        go_wp2_with fail
        with_reducible refine ((HCa _).out).mono ?_
        rintro e w3 ⟨rfl, hb⟩
        have B3 : Hid (Below w1.heap.size w1 w3) := Lib.hid (B2.out.trans (hb.mono B2.out.size))
        clear hb c0 c1 c2 c3 d0 d1 d2 d3 hlt hm
        obtain ⟨⟨c0, c1, c2, c3⟩, ⟨d0, d1, d2, d3⟩, hlt, hm⟩ := HF.out w3 B3.out
        go_wp2
        go_ret
        exact ⟨rfl, B0.out.trans (B3.out.mono B0.out.size)⟩

    · rcases h2 with rfl | rfl
      all_goals
        go_enter Try.func7, Try.ntmps7
        go_wp2_with fail
        with_reducible refine ((HA _).out).mono ?_
        rintro e w1 ⟨rfl, hb1⟩
        have HF := HBX w1 hb1
        have B0 := Lib.hid (alloc2.trans (hb1.mono (by simp; omega)))
        obtain ⟨⟨c0, c1, c2, c3⟩, ⟨d0, d1, d2, d3⟩, hlt, hm⟩ := HF.out w1 (Below.refl _ _)
        have hS := HS _ _ (Has.new w1 25 _)
        clear hb1
        go_wp2_with fail
        with_reducible refine (hS.out).mono ?_
        rintro e w2 ⟨rfl, hb⟩
        have B2 : Hid (Below w1.heap.size w1 w2) := Lib.hid (alloc1.trans (hb.mono (by simp)))
        clear hb hS c0 c1 c2 c3 d0 d1 d2 d3 hlt hm
        obtain ⟨⟨c0, c1, c2, c3⟩, ⟨d0, d1, d2, d3⟩, hlt, hm⟩ := HF.out w2 B2.out
        go_wp2_with fail
        with_reducible refine ((HCa _).out).mono ?_
        rintro e w3 ⟨rfl, hb⟩
        have B3 : Hid (Below w1.heap.size w1 w3) := Lib.hid (B2.out.trans (hb.mono B2.out.size))
        clear hb c0 c1 c2 c3 d0 d1 d2 d3 hlt hm
        obtain ⟨⟨c0, c1, c2, c3⟩, ⟨d0, d1, d2, d3⟩, hlt, hm⟩ := HF.out w3 B3.out
        go_wp2_with fail
        with_reducible refine ((HCb _).out).mono ?_
        rintro e w4 ⟨rfl, hb⟩
        have B4 : Hid (Below w1.heap.size w1 w4) := Lib.hid (B3.out.trans (hb.mono B3.out.size))
        clear hb c0 c1 c2 c3 d0 d1 d2 d3 hlt hm
        obtain ⟨⟨c0, c1, c2, c3⟩, ⟨d0, d1, d2, d3⟩, hlt, hm⟩ := HF.out w4 B4.out
        go_wp2
        go_ret
        exact ⟨rfl, B0.out.trans (B4.out.mono B0.out.size)⟩

    · go_enter Try.func7, Try.ntmps7
      go_wp2_with fail
      with_reducible refine ((HA _).out).mono ?_
      rintro e w1 ⟨rfl, hb1⟩
      have HF := HBX w1 hb1
      have B0 := Lib.hid (alloc2.trans (hb1.mono (by simp; omega)))
      obtain ⟨⟨c0, c1, c2, c3⟩, ⟨d0, d1, d2, d3⟩, hlt, hm⟩ := HF.out w1 (Below.refl _ _)
      have hS := HS _ _ (Has.new w1 25 _)
      clear hb1
      go_wp2_with fail
      with_reducible refine (hS.out).mono ?_
      rintro e w2 ⟨rfl, hb⟩
      have B2 : Hid (Below w1.heap.size w1 w2) := Lib.hid (alloc1.trans (hb.mono (by simp)))
      clear hb hS c0 c1 c2 c3 d0 d1 d2 d3 hlt hm
      obtain ⟨⟨c0, c1, c2, c3⟩, ⟨d0, d1, d2, d3⟩, hlt, hm⟩ := HF.out w2 B2.out
      go_wp2
      go_ret
      exact ⟨rfl, B0.out.trans (B2.out.mono B0.out.size)⟩

    · have hnb : (ak == bk) = false := by simpa using hne
      have hnb2 : (ak != bk) = true := by simpa using hne
      clear hne
      go_enter Try.func7, Try.ntmps7
      go_wp2_with fail
      with_reducible refine ((HA _).out).mono ?_
      rintro e w1 ⟨rfl, hb1⟩
      have HF := HBX w1 hb1
      have B0 := Lib.hid (alloc2.trans (hb1.mono (by simp; omega)))
      obtain ⟨⟨c0, c1, c2, c3⟩, ⟨d0, d1, d2, d3⟩, hlt, hm⟩ := HF.out w1 (Below.refl _ _)
      have hS := HS _ _ (Has.new w1 25 _)
      clear hb1
      go_wp2_with fail
      with_reducible refine (hS.out).mono ?_
      rintro e w2 ⟨rfl, hb⟩
      have B2 : Hid (Below w1.heap.size w1 w2) := Lib.hid (alloc1.trans (hb.mono (by simp)))
      clear hb hS c0 c1 c2 c3 d0 d1 d2 d3 hlt hm
      obtain ⟨⟨c0, c1, c2, c3⟩, ⟨d0, d1, d2, d3⟩, hlt, hm⟩ := HF.out w2 B2.out
      go_wp2
      go_ret
      exact ⟨rfl, B0.out.trans (B2.out.mono B0.out.size)⟩

    · have hn2 : (ak == 2) = false := by simpa using h2
      have hn3 : (ak == 3) = false := by simpa using h3
      have hn2' : (ak != 2) = true := by simpa using h2
      have hn3' : (ak != 3) = true := by simpa using h3
      clear h2 h3
      go_enter Try.func7, Try.ntmps7
      go_wp2_with fail
      with_reducible refine ((HA _).out).mono ?_
      rintro e w1 ⟨rfl, hb1⟩
      have HF := HBX w1 hb1
      have B0 := Lib.hid (alloc2.trans (hb1.mono (by simp; omega)))
      obtain ⟨⟨c0, c1, c2, c3⟩, ⟨d0, d1, d2, d3⟩, hlt, hm⟩ := HF.out w1 (Below.refl _ _)
      have hS := HS _ _ (Has.new w1 25 _)
      clear hb1
      go_wp2_with fail
      with_reducible refine (hS.out).mono ?_
      rintro e w2 ⟨rfl, hb⟩
      have B2 : Hid (Below w1.heap.size w1 w2) := Lib.hid (alloc1.trans (hb.mono (by simp)))
      clear hb hS c0 c1 c2 c3 d0 d1 d2 d3 hlt hm
      obtain ⟨⟨c0, c1, c2, c3⟩, ⟨d0, d1, d2, d3⟩, hlt, hm⟩ := HF.out w2 B2.out
      go_wp2
      go_ret
      exact ⟨rfl, B0.out.trans (B2.out.mono B0.out.size)⟩

theorem valueOrders_u {r : Reach} {b0 : Nat} (v1 v2 : Value) (w : World) (h1 : Value.okWide Try.prog w r b0 25 v1) (h2 : Value.okWide Try.prog w r b0 25 v2) :
    Calls Try.prog 7 #[v1, v2] w fun e w' => e = .returned (.bool true) ∧ Below w.heap.size w w' := by
  obtain ⟨a, rfl, hal, has, -⟩ := open_val h1
  obtain ⟨b, rfl, hbl, hbs, -⟩ := open_val h2
  exact valueOrders_any a b hal hbl has hbs w
end ValD
end Go.Proofs.Ytajcglhmononnaa
