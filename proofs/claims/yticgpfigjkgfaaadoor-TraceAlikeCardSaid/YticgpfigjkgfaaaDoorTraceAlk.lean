/- The walk of TraceAlike. -/
import Derived.Test.YticgpfigjkgfaaaDoorTraceAl3
import Derived.Test.YticgpfigjkgfaaaDoorTraceIn
import Derived.Test.YticgpfigjkgfaaaDoorTraceLaws
namespace Go.Proofs.YticgpfigjkgfaaaDoor
open Go.RowKit Go.WideShapes Go.ChangeShapes ObjM Shell
namespace TraceD
open LabelM LabelD NumD

theorem alikeFrom_self (ms : List Nat) (see : Nat) (z : Nat → List Int) : alikeFrom ms see z z 0 = true := by
  unfold alikeFrom
  rw [List.all_eq_true]
  intro j _
  simp [alikeF]

set_option maxRecDepth 100000 in
set_option maxHeartbeats 8000000 in
theorem traceAlike_any (m0 m1 m2 m3 m4 m5 m6 m7 see : Nat) (hms : ∀ j, [m0, m1, m2, m3, m4, m5, m6, m7].getD j 0 < M64) (hse : see < M64) (a a' : Nat → Option Addr) (z y : Nat → List Int) (q q' : Nat → Nat) (w : World)
    (hz : ∀ j, j < 8 → IntsAt w .i64 (.slice (a j) (z j).length (q j)) (z j)) (hy : ∀ j, j < 8 → IntsAt w .i64 (.slice (a' j) (y j).length (q' j)) (y j)) (hT : Tab w) :
    Calls Tryd.prog 6 #[.agg (inV a z q).toArray, .agg (inV a' y q').toArray, .agg #[.int .u64 (m0 : Int), .int .u64 (m1 : Int), .int .u64 (m2 : Int), .int .u64 (m3 : Int), .int .u64 (m4 : Int), .int .u64 (m5 : Int), .int .u64 (m6 : Int), .int .u64 (m7 : Int)], .int .u64 (see : Int)] w
      fun e w' => e = .returned (.bool true) ∧ Below w.heap.size w w' := by
  have hBx : ∀ o p r : Go.Obj, Below w.heap.size w (((w.alloc o).alloc p).alloc r) := fun o p r => (((Below.refl _ w).alloc (Nat.le_refl _) _).alloc (by simp) _).alloc (by simp; omega) _
  have HA := fun o p r => Lib.hid (awake_any (((w.alloc o).alloc p).alloc r) (hT.below (hBx o p r)))
  have HZ := fun (W : World) (hb : Below w.heap.size w W) j (hj : j < 8) => (hz j hj).below hb (Nat.le_refl _)
  have HY := fun (W : World) (hb : Below w.heap.size w W) j (hj : j < 8) => (hy j hj).below hb (Nat.le_refl _)
  have H1 := fun (W : World) (hb : Below w.heap.size w W) => Lib.hid (alike_any m0 m1 m2 m3 m4 m5 m6 m7 see hms hse a a' z y q q' W (HZ W hb) (HY W hb))
  have H2 := fun (W : World) (hb : Below w.heap.size w W) => Lib.hid (refAlike_any m0 m1 m2 m3 m4 m5 m6 m7 see hms hse a a' z y q q' W (HZ W hb) (HY W hb))
  have H3 := fun (W : World) (hb : Below w.heap.size w W) => Lib.hid (alike_any m0 m1 m2 m3 m4 m5 m6 m7 see hms hse a a z z q q W (HZ W hb) (HZ W hb))
  rw [alikeFrom_self] at H3
  obtain ⟨R, hR⟩ : ∃ x, alikeFrom [m0, m1, m2, m3, m4, m5, m6, m7] see z y 0 = x := ⟨_, rfl⟩
  simp only [hR] at H1 H2
  clear hR HZ HY hz hy hms hse hT
  have hA := fun r => ((Has.new w 34 (inV a z q)).keepsT ((KeepsT.refl [] _).alloc (.cells (inV a' y q').toArray 34)) (by simp)).keepsT ((KeepsT.refl [] _).alloc r) (by simp)
  have hB := fun r => (Has.new (w.alloc (.cells (inV a z q).toArray 34)) 34 (inV a' y q')).keepsT ((KeepsT.refl [] _).alloc r) (by simp)
  have hM := Has.new ((w.alloc (.cells (inV a z q).toArray 34)).alloc (.cells (inV a' y q').toArray 34)) 25 [.int .u64 (m0 : Int), .int .u64 (m1 : Int), .int .u64 (m2 : Int), .int .u64 (m3 : Int), .int .u64 (m4 : Int), .int .u64 (m5 : Int), .int .u64 (m6 : Int), .int .u64 (m7 : Int)]
  simp only [World.size_alloc] at hB hM
  have hIA := fun j hj => inV_at a z q (j := j) hj
  have hIB := fun j hj => inV_at a' y q' (j := j) hj
  simp only [inV] at H1 H2 H3 hA hB hM hIA hIB ⊢
  go_enter Tryd.func6, Tryd.ntmps6
  go_wp2_with fail
  with_reducible refine ((HA _ _ _).out).mono ?_
  rintro e w1 ⟨rfl, hb1⟩
  have B0 := Lib.hid ((hBx _ _ _).trans (hb1.mono (by simp; try omega)))
  have pA := (hA _).below hb1 (by simp; try omega)
  have pB := (hB _).below hb1 (by simp; try omega)
  have pM := hM.below hb1 (by simp)
  clear hb1 HA hA hB hM hBx
  have HC : Hid (∀ W', Below w1.heap.size w1 W' → w.heap.size < W'.heap.size ∧ w.heap.size + 1 < W'.heap.size ∧ (∀ j, j < 8 → W'.cell? ⟨w.heap.size, j, none⟩ = some (.slice (a j) (z j).length (q j)) ∧ W'.cell? ⟨w.heap.size + 1, j, none⟩ = some (.slice (a' j) (y j).length (q' j)))) := Lib.hid (fun W' hb => by
    have p := pA.below hb pA.lt
    have r := pB.below hb pB.lt
    exact ⟨p.lt, r.lt, fun j hj => ⟨(p.cell j).trans (hIA j hj), (r.cell j).trans (hIB j hj)⟩⟩)
  have HG : Hid (∀ W', Below w1.heap.size w1 W' → (W'.cell? ⟨w.heap.size, 0, none⟩ = some (.slice (a 0) (z 0).length (q 0)) ∧ W'.cell? ⟨w.heap.size, 1, none⟩ = some (.slice (a 1) (z 1).length (q 1)) ∧ W'.cell? ⟨w.heap.size, 2, none⟩ = some (.slice (a 2) (z 2).length (q 2)) ∧ W'.cell? ⟨w.heap.size, 3, none⟩ = some (.slice (a 3) (z 3).length (q 3)) ∧ W'.cell? ⟨w.heap.size, 4, none⟩ = some (.slice (a 4) (z 4).length (q 4)) ∧ W'.cell? ⟨w.heap.size, 5, none⟩ = some (.slice (a 5) (z 5).length (q 5)) ∧ W'.cell? ⟨w.heap.size, 6, none⟩ = some (.slice (a 6) (z 6).length (q 6)) ∧ W'.cell? ⟨w.heap.size, 7, none⟩ = some (.slice (a 7) (z 7).length (q 7))) ∧ (W'.cell? ⟨w.heap.size + 1, 0, none⟩ = some (.slice (a' 0) (y 0).length (q' 0)) ∧ W'.cell? ⟨w.heap.size + 1, 1, none⟩ = some (.slice (a' 1) (y 1).length (q' 1)) ∧ W'.cell? ⟨w.heap.size + 1, 2, none⟩ = some (.slice (a' 2) (y 2).length (q' 2)) ∧ W'.cell? ⟨w.heap.size + 1, 3, none⟩ = some (.slice (a' 3) (y 3).length (q' 3)) ∧ W'.cell? ⟨w.heap.size + 1, 4, none⟩ = some (.slice (a' 4) (y 4).length (q' 4)) ∧ W'.cell? ⟨w.heap.size + 1, 5, none⟩ = some (.slice (a' 5) (y 5).length (q' 5)) ∧ W'.cell? ⟨w.heap.size + 1, 6, none⟩ = some (.slice (a' 6) (y 6).length (q' 6)) ∧ W'.cell? ⟨w.heap.size + 1, 7, none⟩ = some (.slice (a' 7) (y 7).length (q' 7))) ∧ (W'.cell? ⟨w.heap.size + 1 + 1, 0, none⟩ = some (.int .u64 (m0 : Int)) ∧ W'.cell? ⟨w.heap.size + 1 + 1, 1, none⟩ = some (.int .u64 (m1 : Int)) ∧ W'.cell? ⟨w.heap.size + 1 + 1, 2, none⟩ = some (.int .u64 (m2 : Int)) ∧ W'.cell? ⟨w.heap.size + 1 + 1, 3, none⟩ = some (.int .u64 (m3 : Int)) ∧ W'.cell? ⟨w.heap.size + 1 + 1, 4, none⟩ = some (.int .u64 (m4 : Int)) ∧ W'.cell? ⟨w.heap.size + 1 + 1, 5, none⟩ = some (.int .u64 (m5 : Int)) ∧ W'.cell? ⟨w.heap.size + 1 + 1, 6, none⟩ = some (.int .u64 (m6 : Int)) ∧ W'.cell? ⟨w.heap.size + 1 + 1, 7, none⟩ = some (.int .u64 (m7 : Int)))) := Lib.hid (fun W' hb => by
    have p := pA.below hb pA.lt
    have r := pB.below hb pB.lt
    have s := pM.below hb pM.lt
    exact ⟨⟨p.cell 0, p.cell 1, p.cell 2, p.cell 3, p.cell 4, p.cell 5, p.cell 6, p.cell 7⟩, ⟨r.cell 0, r.cell 1, r.cell 2, r.cell 3, r.cell 4, r.cell 5, r.cell 6, r.cell 7⟩, ⟨s.cell 0, s.cell 1, s.cell 2, s.cell 3, s.cell 4, s.cell 5, s.cell 6, s.cell 7⟩⟩)
  clear pA pB pM hIA hIB
  go_wp2
  go_loopw [12] (fun i wr => ∃ k : Nat, i = .int .i64 k ∧ k ≤ 8 ∧ Below w1.heap.size w1 wr) (fun i _ => 8 - (intOf i).toNat)
  case atStart => exact ⟨0, rfl, by omega, Below.refl _ _⟩
  case round =>
    obtain ⟨k, rfl, hk, hBr⟩ := hrel
    have HB := Lib.hid hBr
    by_cases hk8 : k < 8
    · obtain ⟨l0, l1, hcs⟩ := HC.out wr hBr
      obtain ⟨cA, cB⟩ := hcs k hk8
      clear hcs hBr
      have hk8i : (k : Int) < 8 := by omega
      go_wp2
      go_quiet (fail)
      generalize hW : World.drewN wr nq = w6
      have hb6 : Below w1.heap.size w1 w6 := by
        rw [← hW]
        exact below_drewN HB.out _
      clear hW
      have HB6 := Lib.hid hb6
      clear hb6
      go_wp2
      all_goals
        first
          | (go_ret
             exact ⟨rfl, B0.out.trans (HB6.out.mono B0.out.size)⟩)
          | (go_roundw
             case rel => exact ⟨k + 1, by go_num, by omega, HB6.out⟩
             case measure => simp [intOf]; omega)
    · obtain rfl : k = 8 := by omega
      clear hBr
      have BW := Lib.hid (fun (W' : World) (hb : Below w1.heap.size w1 W') => B0.out.trans (hb.mono B0.out.size))
      have s0 := HG.out wr HB.out
      obtain ⟨⟨a0, a1, a2, a3, a4, a5, a6, a7⟩, ⟨b0, b1, b2, b3, b4, b5, b6, b7⟩, ⟨c0, c1, c2, c3, c4, c5, c6, c7⟩⟩ := HG.out wr HB.out
      clear HC
      cases R
      all_goals
        go_wp2
        go_region_held3 (fun W' => (W'.cell? ⟨w.heap.size, 0, none⟩ = some (.slice (a 0) (z 0).length (q 0)) ∧ W'.cell? ⟨w.heap.size, 1, none⟩ = some (.slice (a 1) (z 1).length (q 1)) ∧ W'.cell? ⟨w.heap.size, 2, none⟩ = some (.slice (a 2) (z 2).length (q 2)) ∧ W'.cell? ⟨w.heap.size, 3, none⟩ = some (.slice (a 3) (z 3).length (q 3)) ∧ W'.cell? ⟨w.heap.size, 4, none⟩ = some (.slice (a 4) (z 4).length (q 4)) ∧ W'.cell? ⟨w.heap.size, 5, none⟩ = some (.slice (a 5) (z 5).length (q 5)) ∧ W'.cell? ⟨w.heap.size, 6, none⟩ = some (.slice (a 6) (z 6).length (q 6)) ∧ W'.cell? ⟨w.heap.size, 7, none⟩ = some (.slice (a 7) (z 7).length (q 7))) ∧ (W'.cell? ⟨w.heap.size + 1, 0, none⟩ = some (.slice (a' 0) (y 0).length (q' 0)) ∧ W'.cell? ⟨w.heap.size + 1, 1, none⟩ = some (.slice (a' 1) (y 1).length (q' 1)) ∧ W'.cell? ⟨w.heap.size + 1, 2, none⟩ = some (.slice (a' 2) (y 2).length (q' 2)) ∧ W'.cell? ⟨w.heap.size + 1, 3, none⟩ = some (.slice (a' 3) (y 3).length (q' 3)) ∧ W'.cell? ⟨w.heap.size + 1, 4, none⟩ = some (.slice (a' 4) (y 4).length (q' 4)) ∧ W'.cell? ⟨w.heap.size + 1, 5, none⟩ = some (.slice (a' 5) (y 5).length (q' 5)) ∧ W'.cell? ⟨w.heap.size + 1, 6, none⟩ = some (.slice (a' 6) (y 6).length (q' 6)) ∧ W'.cell? ⟨w.heap.size + 1, 7, none⟩ = some (.slice (a' 7) (y 7).length (q' 7))) ∧ (W'.cell? ⟨w.heap.size + 1 + 1, 0, none⟩ = some (.int .u64 (m0 : Int)) ∧ W'.cell? ⟨w.heap.size + 1 + 1, 1, none⟩ = some (.int .u64 (m1 : Int)) ∧ W'.cell? ⟨w.heap.size + 1 + 1, 2, none⟩ = some (.int .u64 (m2 : Int)) ∧ W'.cell? ⟨w.heap.size + 1 + 1, 3, none⟩ = some (.int .u64 (m3 : Int)) ∧ W'.cell? ⟨w.heap.size + 1 + 1, 4, none⟩ = some (.int .u64 (m4 : Int)) ∧ W'.cell? ⟨w.heap.size + 1 + 1, 5, none⟩ = some (.int .u64 (m5 : Int)) ∧ W'.cell? ⟨w.heap.size + 1 + 1, 6, none⟩ = some (.int .u64 (m6 : Int)) ∧ W'.cell? ⟨w.heap.size + 1 + 1, 7, none⟩ = some (.int .u64 (m7 : Int)))) (first | assumption | go_keep)
          (first
            | (go_at_call 17
               refine ((H3 _ (BW.out _ p2)).out).mono ?_
               rintro e x3 ⟨rfl, hb⟩
               have p3 : Below w1.heap.size w1 x3 := p2.trans (hb.mono p2.size)
               have s3 := HG.out x3 p3
               clear hb)
            | (go_at_call 17
               refine ((H1 _ (BW.out _ HB.out.drew)).out).mono ?_
               rintro e x1 ⟨rfl, hb⟩
               have p1 : Below w1.heap.size w1 x1 := HB.out.drew.trans (hb.mono HB.out.size)
               have s1 := HG.out x1 p1
               clear hb)
            | (go_at_call 18
               refine ((H2 _ (BW.out _ p1)).out).mono ?_
               rintro e x2 ⟨rfl, hb⟩
               have p2 : Below w1.heap.size w1 x2 := p1.trans (hb.mono p1.size)
               have s2 := HG.out x2 p2
               clear hb))
      all_goals
        go_wp2
        go_ret
        exact ⟨by first | rfl | (simp; done) | (simp [Act.put]; done), BW.out _ p3⟩
section
variable {H : Type} {enc : TypeId × Value → H}
theorem traceAlike_u {b0 : Nat} {d d' : DataW H} {ps ps' : List MemPlace} {sp : Nat → Bool} (v u v2 : Value) (x : Int) (w : World) (g0 : Value.okWide Tryd.prog w .any b0 34 v) (h0 : DataW.Trod enc Tryd.prog w 0 sp true 34 v d ps)
    (g1 : Value.okWide Tryd.prog w .any b0 34 u) (h1 : DataW.Trod enc Tryd.prog w 0 sp true 34 u d' ps') (g2 : Value.okWide Tryd.prog w .any b0 25 v2) (hx : 0 ≤ x ∧ x ≤ 18446744073709551615) (hT : Tab w) :
    Calls Tryd.prog 6 #[v, u, v2, .int .u64 x] w fun e w' => e = .returned (.bool true) ∧ Below w.heap.size w w' := by
  obtain ⟨a, z, q, rfl, hz⟩ := open_inputs g0 h0
  obtain ⟨a', y, q', rfl, hy⟩ := open_inputs g1 h1
  obtain ⟨m0, m1, m2, m3, m4, m5, m6, m7, rfl, hms⟩ := open_masks g2
  obtain ⟨n, rfl⟩ : ∃ n : Nat, x = n := ⟨x.toNat, by omega⟩
  exact traceAlike_any m0 m1 m2 m3 m4 m5 m6 m7 n hms (by unfold M64; omega) a a' z y q q' w hz hy hT
end
end TraceD
end Go.Proofs.YticgpfigjkgfaaaDoor
