/- The walk of ValueTells. -/
import Derived.Test.YtajcglhmononnaaValOrders
import Derived.Test.YtajcglhmononnaaVal5
namespace Go.Proofs.Ytajcglhmononnaa
open Go.RowKit ObjM
namespace ValD
open NumM LabelM LabelD NumD

set_option maxRecDepth 100000 in
set_option maxHeartbeats 4000000 in
theorem valueTells_any (a b : V) (hal : a.l < M64) (has : a.s.size ≤ 9223372036854775807) (hbs : b.s.size ≤ 9223372036854775807) (w : World) :
    Calls Try.prog 4 #[a.agg, b.agg] w fun e w' => e = .returned (.bool true) ∧ Below w.heap.size w w' := by
  have HA := fun W => Lib.hid (awake_any W)
  have HS := fun W n hA => Lib.hid (small2_any a b has hbs W n hA)
  have HBX := fun w1 hb1 => Lib.hid (both_boxes (w := w) (w1 := w1) (a := a) (b := b) hb1)
  have HN := fun W => Lib.hid (neg_any a W)
  have HRN := fun W => Lib.hid (refNeg_any a W)
  have HT := fun W => Lib.hid (vtruth_any a W)
  have HRT := fun W => Lib.hid (refTruth_any a W)
  have HM := fun W => Lib.hid (same_any a b W)
  have HRM := fun W => Lib.hid (refSame_any a b W)
  have HO := fun W => Lib.hid (not_any a hal W)
  have HRO := fun W => Lib.hid (refNot_any a hal W)
  obtain ⟨⟨nk, nn, ns, nl⟩, hnv⟩ : ∃ f, negV a = f := ⟨_, rfl⟩
  obtain ⟨ng, hng⟩ : ∃ f, negS a = f := ⟨_, rfl⟩
  obtain ⟨tb, htb⟩ : ∃ f, truthB a = f := ⟨_, rfl⟩
  obtain ⟨sm, hsm⟩ : ∃ f, sameB a b = f := ⟨_, rfl⟩
  obtain ⟨⟨ok, on, os, ol⟩, hov⟩ : ∃ f, notV a = f := ⟨_, rfl⟩
  obtain ⟨sz, hsz⟩ : ∃ c, (decide (a.s.size ≤ 1000) && decide (b.s.size ≤ 1000)) = c := ⟨_, rfl⟩
  simp only [hnv, hng] at HN HRN
  simp only [htb] at HT HRT
  simp only [hsm] at HM HRM
  simp only [hov] at HO HRO
  simp only [hsz] at HS
  clear hnv hng htb hsm hov hsz has hbs hal
  obtain ⟨ak, an, sa, al⟩ := a
  obtain ⟨bk, bn, sb, bl⟩ := b
  simp only [V.agg, V.cells] at *
  simp only [List.cons_append, List.nil_append] at HS
  cases sz
  · go_enter Try.func4, Try.ntmps4
    go_wp2_with fail
    with_reducible refine ((HA _).out).mono ?_
    rintro e w1 ⟨rfl, hb1⟩
    have HF := HBX w1 hb1
    have B0 := Lib.hid (alloc2.trans (hb1.mono (by simp; omega)))
    obtain ⟨⟨c0, c1, c2, c3⟩, ⟨d0, d1, d2, d3⟩, hlt, hm⟩ := HF.out w1 (Below.refl _ _)
    have hS := HS _ _ (Has.new w1 25 _)
    clear hb1
    go_wp2_with fail
    with_reducible refine (hS.out).mono ?_
    rintro e w2 ⟨rfl, hb⟩
    have B2 : Hid (Below w1.heap.size w1 w2) := Lib.hid (alloc1.trans (hb.mono (by simp)))
    go_wp2
    go_ret
    exact ⟨rfl, B0.out.trans (B2.out.mono B0.out.size)⟩
  · go_enter Try.func4, Try.ntmps4
    go_wp2_with fail
    with_reducible refine ((HA _).out).mono ?_
    rintro e w1 ⟨rfl, hb1⟩
    have HF := HBX w1 hb1
    have B0 := Lib.hid (alloc2.trans (hb1.mono (by simp; omega)))
    obtain ⟨⟨c0, c1, c2, c3⟩, ⟨d0, d1, d2, d3⟩, hlt, hm⟩ := HF.out w1 (Below.refl _ _)
    have hS := HS _ _ (Has.new w1 25 _)
    clear hb1
    go_wp2_with fail
    with_reducible refine (hS.out).mono ?_
    rintro e w2 ⟨rfl, hb⟩
    have B2 : Hid (Below w1.heap.size w1 w2) := Lib.hid (alloc1.trans (hb.mono (by simp)))
    clear hb hS c0 c1 c2 c3 d0 d1 d2 d3 hlt hm
    obtain ⟨⟨c0, c1, c2, c3⟩, ⟨d0, d1, d2, d3⟩, hlt, hm⟩ := HF.out w2 B2.out
    go_wp2_with fail
    with_reducible refine ((HN _).out).mono ?_
    rintro e w3 ⟨rfl, hb⟩
    have B3 : Hid (Below w1.heap.size w1 w3) := Lib.hid (B2.out.trans (hb.mono B2.out.size))
    clear hb c0 c1 c2 c3 d0 d1 d2 d3 hlt hm
    obtain ⟨⟨c0, c1, c2, c3⟩, ⟨d0, d1, d2, d3⟩, hlt, hm⟩ := HF.out w3 B3.out
    go_wp2_with fail
    with_reducible refine ((HRN _).out).mono ?_
    rintro e w4 ⟨rfl, hb⟩
    have hX := (Has.new w3 25 [.int .i64 nk, .int .i64 nn, .string ns, .int .u64 (nl : Int)]).below hb (by simp)
    have B4 : Hid (Below w1.heap.size w1 w4) := Lib.hid (B3.out.trans ((alloc1.trans (hb.mono (by simp))).mono B3.out.size))
    clear hb c0 c1 c2 c3 d0 d1 d2 d3 hlt hm
    obtain ⟨⟨c0, c1, c2, c3⟩, ⟨d0, d1, d2, d3⟩, hlt, hm⟩ := HF.out w4 B4.out
    go_wp2
    have hX5 := hX.keepsT ((KeepsT.refl [] w4).alloc (.cells #[.int .i64 nk, .int .i64 nn, .string ns, .int .u64 (nl : Int)] 25)) (by simp)
    have hY5 := Has.new w4 25 [.int .i64 nk, .int .i64 nn, .string ns, .int .u64 (nl : Int)]
    have B5 : Hid (Below w1.heap.size w1 (w4.alloc (.cells #[.int .i64 nk, .int .i64 nn, .string ns, .int .u64 (nl : Int)] 25))) := Lib.hid (B4.out.alloc B4.out.size _)
    clear c0 c1 c2 c3 d0 d1 d2 d3 hlt hm hX
    generalize hW0 : World.alloc w4 (.cells #[.int .i64 nk, .int .i64 nn, .string ns, .int .u64 (nl : Int)] 25) = W0 at hX5 hY5 B5 ⊢
    clear hW0
    generalize w4.heap.size = Y at hY5 ⊢
    generalize w3.heap.size = X at hX5 ⊢
    have HG : Hid (∀ W', Below W0.heap.size W0 W' → (W'.cell? ⟨w.heap.size, 0, none⟩ = some (.int .i64 ak) ∧ W'.cell? ⟨w.heap.size, 1, none⟩ = some (.int .i64 an) ∧ W'.cell? ⟨w.heap.size, 2, none⟩ = some (.string sa) ∧ W'.cell? ⟨w.heap.size, 3, none⟩ = some (.int .u64 (al : Int))) ∧
      (W'.cell? ⟨w.heap.size + 1, 0, none⟩ = some (.int .i64 bk) ∧ W'.cell? ⟨w.heap.size + 1, 1, none⟩ = some (.int .i64 bn) ∧ W'.cell? ⟨w.heap.size + 1, 2, none⟩ = some (.string sb) ∧ W'.cell? ⟨w.heap.size + 1, 3, none⟩ = some (.int .u64 (bl : Int))) ∧
      (W'.cell? ⟨X, 0, none⟩ = some (.int .i64 nk) ∧ W'.cell? ⟨X, 1, none⟩ = some (.int .i64 nn) ∧ W'.cell? ⟨X, 2, none⟩ = some (.string ns) ∧ W'.cell? ⟨X, 3, none⟩ = some (.int .u64 (nl : Int))) ∧
      (W'.cell? ⟨Y, 0, none⟩ = some (.int .i64 nk) ∧ W'.cell? ⟨Y, 1, none⟩ = some (.int .i64 nn) ∧ W'.cell? ⟨Y, 2, none⟩ = some (.string ns) ∧ W'.cell? ⟨Y, 3, none⟩ = some (.int .u64 (nl : Int)))) := Lib.hid (fun W' hb => by
        obtain ⟨h1, h2, -⟩ := HF.out W' (B5.out.trans (hb.mono B5.out.size))
        have x := hX5.below hb hX5.lt
        have y := hY5.below hb hY5.lt
        exact ⟨h1, h2, ⟨x.cell 0, x.cell 1, x.cell 2, x.cell 3⟩, ⟨y.cell 0, y.cell 1, y.cell 2, y.cell 3⟩⟩)
    have s0 := HG.out W0 (Below.refl _ _)
    obtain ⟨⟨a0, a1, a2, a3⟩, ⟨b0, b1, b2, b3⟩, ⟨x0, x1, x2, x3⟩, ⟨y0, y1, y2, y3⟩⟩ := HG.out W0 (Below.refl _ _)
    have HB5 := B5
    clear HF HBX HA HS HN HRN B2 B3 B4 B5 hX5 hY5
    go_region_held3 (fun W' => (W'.cell? ⟨w.heap.size, 0, none⟩ = some (.int .i64 ak) ∧ W'.cell? ⟨w.heap.size, 1, none⟩ = some (.int .i64 an) ∧ W'.cell? ⟨w.heap.size, 2, none⟩ = some (.string sa) ∧ W'.cell? ⟨w.heap.size, 3, none⟩ = some (.int .u64 (al : Int))) ∧
      (W'.cell? ⟨w.heap.size + 1, 0, none⟩ = some (.int .i64 bk) ∧ W'.cell? ⟨w.heap.size + 1, 1, none⟩ = some (.int .i64 bn) ∧ W'.cell? ⟨w.heap.size + 1, 2, none⟩ = some (.string sb) ∧ W'.cell? ⟨w.heap.size + 1, 3, none⟩ = some (.int .u64 (bl : Int))) ∧
      (W'.cell? ⟨X, 0, none⟩ = some (.int .i64 nk) ∧ W'.cell? ⟨X, 1, none⟩ = some (.int .i64 nn) ∧ W'.cell? ⟨X, 2, none⟩ = some (.string ns) ∧ W'.cell? ⟨X, 3, none⟩ = some (.int .u64 (nl : Int))) ∧
      (W'.cell? ⟨Y, 0, none⟩ = some (.int .i64 nk) ∧ W'.cell? ⟨Y, 1, none⟩ = some (.int .i64 nn) ∧ W'.cell? ⟨Y, 2, none⟩ = some (.string ns) ∧ W'.cell? ⟨Y, 3, none⟩ = some (.int .u64 (nl : Int)))) (first | assumption | go_keep)
      (first
        | (go_at_call 14
           with_reducible refine ((HT _).out).mono ?_
           rintro e v1 ⟨rfl, hb⟩
           have q1 : Below W0.heap.size W0 v1 := ((Below.refl _ _).drew).trans (hb.mono (by simp))
           have s1 := HG.out v1 q1
           clear hb)
        | (go_at_call 15
           with_reducible refine ((HRT _).out).mono ?_
           rintro e v2 ⟨rfl, hb⟩
           have q2 : Below W0.heap.size W0 v2 := q1.trans (hb.mono q1.size)
           have s2 := HG.out v2 q2
           clear hb)
        | (go_at_call 16
           with_reducible refine ((HM _).out).mono ?_
           rintro e v3 ⟨rfl, hb⟩
           have q3 : Below W0.heap.size W0 v3 := q2.trans (hb.mono q2.size)
           have s3 := HG.out v3 q3
           clear hb)
        | (go_at_call 17
           with_reducible refine ((HRM _).out).mono ?_
           rintro e v4 ⟨rfl, hb⟩
           have q4 : Below W0.heap.size W0 v4 := q3.trans (hb.mono q3.size)
           have s4 := HG.out v4 q4
           clear hb)
        | (go_at_call 18
           with_reducible refine ((HO _).out).mono ?_
           rintro e v5 ⟨rfl, hb⟩
           have q5 : Below W0.heap.size W0 v5 := q4.trans (hb.mono q4.size)
           have s5 := HG.out v5 q5
           clear hb)
        | (go_at_call 19
           with_reducible refine ((HRO _).out).mono ?_
           rintro e v6 ⟨rfl, hb⟩
           have q6 : Below W0.heap.size W0 v6 := q5.trans (hb.mono q5.size)
           have s6 := HG.out v6 q6
           clear hb))
    all_goals
      go_wp2
      go_ret
      exact ⟨by first | rfl | (simp; done), B0.out.trans ((HB5.out.trans (q6.mono HB5.out.size)).mono B0.out.size)⟩

theorem valueTells_u {r : Reach} {b0 : Nat} (v1 v2 : Value) (w : World) (h1 : Value.okWide Try.prog w r b0 25 v1) (h2 : Value.okWide Try.prog w r b0 25 v2) :
    Calls Try.prog 4 #[v1, v2] w fun e w' => e = .returned (.bool true) ∧ Below w.heap.size w w' := by
  obtain ⟨a, rfl, hal, has, -⟩ := open_val h1
  obtain ⟨b, rfl, hbl, hbs, -⟩ := open_val h2
  exact valueTells_any a b hal has hbs w
end ValD
end Go.Proofs.Ytajcglhmononnaa
