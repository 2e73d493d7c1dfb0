/- The example of chapter 16: the check. (Written by mk_code4.py.) -/
import Derived.Test.YtmebhdffgpnplaaDoorCode3
import Derived.Recover
import Derived.Deep.RegionWith
import Derived.Laws.EntriesVeiled
import Derived.Deep.DeepCutAuto
namespace Go.Proofs.YtmebhdffgpnplaaDoor
open Go.RowKit ObjM
namespace CodeD
open InstrM InstrD TyD ValD LexD

theorem kCatch_idle (p q r : Addr) (w : World) :
    CallsD Tryd.prog 28 #[.pointer (some p), .pointer (some q), .pointer (some r)] .returning w fun e u' w' => e = .returned (.tuple #[]) ∧ u' = .returning ∧ w' = w := by
  refine callsD_of_wpS Tryd.func28 rfl fun c₀ cs hu => ?_
  apply wpS_seq
  apply wpS_region
  simp [wpOpsS, go_sem, recoverD, hu, Tryd.ntmps28, Exit.thenS]
  apply wpS_seq
  apply wpS_region
  simp [wpOpsS, go_sem, Exit.thenS]
  refine wpS_cond (t := false) (by simp [Act.eval, Array.replicate]) ?_
  simp only [Bool.false_eq_true, if_false]
  refine wpS_of_wp (wp_skip ?_)
  cases c₀
  simp_all [bodyPostS, results, Tryd.results28]
set_option maxRecDepth 100000 in
set_option maxHeartbeats 4000000 in
theorem kCatch_panicking (P : Nat) (a b c fn wd : Int) (w : World) (h0 : Has w P 3 [.int .i64 a]) (h1 : Has w (P + 1) 3 [.int .i64 b]) (h2 : Has w (P + 1 + 1) 47 [.int .i64 c]) :
    CallsD Tryd.prog 28 #[.pointer (some ⟨P, 0, none⟩), .pointer (some ⟨P + 1, 0, none⟩), .pointer (some ⟨P + 1 + 1, 0, none⟩)] (.panicking (panC fn wd)) w fun e u' w' =>
      e = .returned (.tuple #[]) ∧ u' = .panicking [{ v := .iface 78 (.agg #[.int .i64 fn, .int .i64 wd]), recovered := true }] ∧ Keeps [P, P + 1, P + 1 + 1] w w' ∧ Has w' P 3 [.int .i64 fn] ∧ Has w' (P + 1) 3 [.int .i64 wd] ∧ Has w' (P + 1 + 1) 47 [.int .i64 160] := by
  have hta : ∀ W, (Instr.typeAssert (.iface 78 (.agg #[.int .i64 fn, .int .i64 wd])) 20 78 true).run Tryd.prog W = .ok (.tuple #[.agg #[.int .i64 fn, .int .i64 wd], .bool true]) W := by intro W; kernel_rfl
  refine callsD_of_wpS Tryd.func28 rfl fun c₀ cs hu => ?_
  apply wpS_seq
  apply wpS_region
  simp [wpOpsS, go_sem, recoverD, hu, panC, Tryd.ntmps28, Exit.thenS]
  apply wpS_seq
  apply wpS_region
  simp [wpOpsS, go_sem, Exit.thenS]
  refine wpS_cond (t := true) (by simp [Act.eval, Array.replicate]) ?_
  simp only [if_true]
  refine wpS_of_wp ?_
  obtain ⟨W2, hW2⟩ : ∃ W2, w.alloc (.cells #[.int .i64 fn, .int .i64 wd] 78) = W2 := ⟨_, rfl⟩
  have hk : Keeps [] w W2 := by rw [← hW2]; exact Keeps.alloc [] w _
  have hr : Has W2 w.heap.size 78 [.int .i64 fn, .int .i64 wd] := by rw [← hW2]; exact Has.new w 78 _
  have g0 := h0.keeps hk (by simp)
  have g1 := h1.keeps hk (by simp)
  have g2 := h2.keeps hk (by simp)
  obtain ⟨R, hR⟩ : ∃ R, w.heap.size = R := ⟨_, rfl⟩
  have HW2 := Lib.hid hW2
  have HR := Lib.hid hR
  rw [hR] at hr
  have r0 := hr.cell 0
  have r1 := hr.cell 1
  have lr := hr.lt
  have c0 := g0.cell 0
  have c1 := g1.cell 0
  have c2 := g2.cell 0
  have f0 := g0.frozen 0
  have f1 := g1.frozen 0
  have f2 := g2.frozen 0
  have l0 := g0.lt
  have l1 := g1.lt
  have l2 := g2.lt
  simp only [List.getElem?_cons_zero, List.getElem?_cons_succ] at c0 c1 c2 r0 r1
  have HE : Hid (Keeps [P, P + 1, P + 1 + 1] w ((((W2.setCell ⟨P, 0, none⟩ (.int .i64 fn)).setCell ⟨P + 1, 0, none⟩ (.int .i64 wd)).setCell ⟨P + 1 + 1, 0, none⟩ (.int .i64 160)).drew) ∧ Has ((((W2.setCell ⟨P, 0, none⟩ (.int .i64 fn)).setCell ⟨P + 1, 0, none⟩ (.int .i64 wd)).setCell ⟨P + 1 + 1, 0, none⟩ (.int .i64 160)).drew) P 3 [.int .i64 fn] ∧ Has ((((W2.setCell ⟨P, 0, none⟩ (.int .i64 fn)).setCell ⟨P + 1, 0, none⟩ (.int .i64 wd)).setCell ⟨P + 1 + 1, 0, none⟩ (.int .i64 160)).drew) (P + 1) 3 [.int .i64 wd] ∧ Has ((((W2.setCell ⟨P, 0, none⟩ (.int .i64 fn)).setCell ⟨P + 1, 0, none⟩ (.int .i64 wd)).setCell ⟨P + 1 + 1, 0, none⟩ (.int .i64 160)).drew) (P + 1 + 1) 47 [.int .i64 160]) := Lib.hid (by
    have k0 := Keeps.set W2 P 0 (.int .i64 fn)
    have k1 := Keeps.set (W2.setCell ⟨P, 0, none⟩ (.int .i64 fn)) (P + 1) 0 (.int .i64 wd)
    have k2 := Keeps.set ((W2.setCell ⟨P, 0, none⟩ (.int .i64 fn)).setCell ⟨P + 1, 0, none⟩ (.int .i64 wd)) (P + 1 + 1) 0 (.int .i64 160)
    have k3 := Keeps.drew [] (((W2.setCell ⟨P, 0, none⟩ (.int .i64 fn)).setCell ⟨P + 1, 0, none⟩ (.int .i64 wd)).setCell ⟨P + 1 + 1, 0, none⟩ (.int .i64 160))
    refine ⟨((((hk.mono (by simp)).trans k0 (by simp)).trans k1 (by simp)).trans k2 (by simp)).trans k3 (by simp), ?_, ?_, ?_⟩
    · exact (((g0.set 0 _).keeps k1 (by simp)).keeps k2 (by simp; omega)).keeps k3 (by simp)
    · exact (((g1.keeps k0 (by simp)).set 0 _).keeps k2 (by simp)).keeps k3 (by simp)
    · exact (((g2.keeps k0 (by simp; omega)).keeps k1 (by simp)).set 0 _).keeps k3 (by simp))
  clear hk hr g0 g1 g2 hW2 hR h0 h1 h2
  simp only [Array.replicate_succ, Array.replicate_zero, List.push_toArray, List.append_toArray, List.nil_append, List.cons_append, List.setIfInBounds_toArray, List.set_cons_zero, List.set_cons_succ]
  go_upto_region 3 with fail
  rw [HW2.out, HR.out]
  clear HW2 hta
  go_wp2
  go_region
  exact ⟨rfl, _, rfl, _, by simp [results, Tryd.results28], rfl, rfl, HE.out⟩
set_option maxRecDepth 100000 in
set_option maxHeartbeats 16000000 in
theorem check_1 (gT gW gC gP gI : Nat) (w : World) (hT : Tabs w) (hL : WTab w) (h : ExP w gT gW gC gP 1) (hI : Has w gI 38 [.slice (some ⟨gT, 0, none⟩) 1 1, .int .i64 1, .slice (some ⟨gW, 0, none⟩) 2 2, .slice (some ⟨gC, 0, none⟩) 1 1, .slice none 0 0, .slice (some ⟨gP, 0, none⟩) 2 2]) : Calls Tryd.prog 11 #[.agg #[.slice (some ⟨gI, 0, none⟩) 1 1, .slice none 0 0, .slice none 0 0, .int .u64 0, .int .u64 0, .int .u64 0, .int .u64 0, .int .u64 0, .int .u64 0, .int .u64 0, .int .u64 0]] w fun e w' => e = .returned (.tuple #[.int .i64 0, .int .i64 0, .int .i64 0]) ∧ Below w.heap.size w w' := by
  have hmf : ∀ (fn : Fn) (first cap : Array Value) (w : World), (Instr.makeFunc fn first cap).run Tryd.prog w = .ok (.func fn first cap) w := fun _ _ _ _ => rfl
  obtain ⟨k0, k1, k2, k3, kB, kS⟩ := TyD.four_blocks w [.slice (some ⟨gI, 0, none⟩) 1 1, .slice none 0 0, .slice none 0 0, .int .u64 0, .int .u64 0, .int .u64 0, .int .u64 0, .int .u64 0, .int .u64 0, .int .u64 0, .int .u64 0] [.int .i64 0] [.int .i64 0] [.int .i64 0] 29 3 3 47 _ rfl
  obtain ⟨W0, hW0⟩ : ∃ W0, ((((w.alloc (.cells #[.slice (some ⟨gI, 0, none⟩) 1 1, .slice none 0 0, .slice none 0 0, .int .u64 0, .int .u64 0, .int .u64 0, .int .u64 0, .int .u64 0, .int .u64 0, .int .u64 0, .int .u64 0] 29)).alloc (.cells #[.int .i64 0] 3)).alloc (.cells #[.int .i64 0] 3)).alloc (.cells #[.int .i64 0] 47)) = W0 := ⟨_, rfl⟩
  rw [hW0] at k0 k1 k2 k3 kB kS
  have HX : Hid (∀ W, Below W0.heap.size W0 W → (W.cell? ⟨w.heap.size, 0, none⟩ = some (.slice (some ⟨gI, 0, none⟩) 1 1) ∧ W.cell? ⟨w.heap.size, 1, none⟩ = some (.slice none 0 0) ∧ W.cell? ⟨w.heap.size, 2, none⟩ = some (.slice none 0 0) ∧ W.cell? ⟨w.heap.size, 3, none⟩ = some (.int .u64 0) ∧ W.cell? ⟨w.heap.size, 4, none⟩ = some (.int .u64 0) ∧ W.cell? ⟨w.heap.size, 5, none⟩ = some (.int .u64 0) ∧ W.cell? ⟨w.heap.size, 6, none⟩ = some (.int .u64 0) ∧ W.cell? ⟨w.heap.size, 7, none⟩ = some (.int .u64 0) ∧ W.cell? ⟨w.heap.size, 8, none⟩ = some (.int .u64 0) ∧ W.cell? ⟨w.heap.size, 9, none⟩ = some (.int .u64 0) ∧ W.cell? ⟨w.heap.size, 10, none⟩ = some (.int .u64 0)) ∧ w.heap.size < W.heap.size ∧ Has W gI 38 [.slice (some ⟨gT, 0, none⟩) 1 1, .int .i64 1, .slice (some ⟨gW, 0, none⟩) 2 2, .slice (some ⟨gC, 0, none⟩) 1 1, .slice none 0 0, .slice (some ⟨gP, 0, none⟩) 2 2] ∧ ExP W gT gW gC gP 1 ∧ Tabs W ∧ WTab W ∧ Below w.heap.size w W ∧ Has W (w.heap.size + 1) 3 [.int .i64 0] ∧ Has W (w.heap.size + 1 + 1) 3 [.int .i64 0] ∧ Has W (w.heap.size + 1 + 1 + 1) 47 [.int .i64 0]) := Lib.hid fun W hW => by
    have g := k0.below hW k0.lt
    have k := kB.trans (hW.mono kB.size)
    exact ⟨⟨g.cell 0, g.cell 1, g.cell 2, g.cell 3, g.cell 4, g.cell 5, g.cell 6, g.cell 7, g.cell 8, g.cell 9, g.cell 10⟩, g.lt, hI.below k hI.lt, h.below k, hT.below k, hL.below k, k, k1.below hW k1.lt, k2.below hW k2.lt, k3.below hW k3.lt⟩
  have HW0 := Lib.hid hW0
  have HWh := Lib.hid (fun (W : World) (hW : Below W0.heap.size W0 W) => whole_any gT gW gC gP gI W (HX.out W hW).2.2.1)
  have HMy := Lib.hid (fun (fn wd : Int) W => must_yes fn wd W)
  have HPr := Lib.hid (fun (W : World) (hW : Below W0.heap.size W0 W) => proto_any gT gW gC gP 1 W (HX.out W hW).2.2.2.2.2.1 (HX.out W hW).2.2.2.1)
  have HWa := Lib.hid (fun (W : World) (hW : Below W0.heap.size W0 W) => word_1_0 gT gW gC gP gI W (HX.out W hW).2.2.2.2.1 (HX.out W hW).2.2.2.1)
  have HWb := Lib.hid (fun (W : World) (hW : Below W0.heap.size W0 W) => word_1_1 gT gW gC gP gI W (HX.out W hW).2.2.2.2.1 (HX.out W hW).2.2.2.1)
  have HB0 := Lib.hid (Below.refl W0.heap.size W0)
  clear k0 k1 k2 k3 kB kS hW0 hT hL h hI
  go_enter_defers Tryd.func11, Tryd.ntmps11
  go_wp2_with fail
  rw [HW0.out]
  clear HW0
  refine (HWh.out _ HB0.out).mono ?_
  rintro e w1 ⟨rfl, hb⟩
  have HB1 := Lib.hid (HB0.out.trans hb)
  clear hb HWh HB0
  go_wp2_with fail
  refine (HMy.out _ _ _).mono ?_
  rintro e w2 ⟨rfl, hw⟩
  subst hw
  obtain ⟨⟨x0, x1, x2, x3, x4, x5, x6, x7, x8, x9, x10⟩, lx, hI, -⟩ := HX.out _ HB1.out
  have y0 := hI.cell 0
  have y1 := hI.cell 1
  have y2 := hI.cell 2
  have y3 := hI.cell 3
  have y4 := hI.cell 4
  have y5 := hI.cell 5
  have ly := hI.lt
  simp only [List.getElem?_cons_zero, List.getElem?_cons_succ] at y0 y1 y2 y3 y4 y5
  clear hI
  obtain ⟨Z, hZ⟩ : ∃ Z, w1.heap.size = Z := ⟨_, rfl⟩
  obtain ⟨W5, hW5⟩ : ∃ W5, w1.alloc (.cells #[.slice (some ⟨gT, 0, none⟩) 1 1, .int .i64 1, .slice (some ⟨gW, 0, none⟩) 2 2, .slice (some ⟨gC, 0, none⟩) 1 1, .slice none 0 0, .slice (some ⟨gP, 0, none⟩) 2 2] 38) = W5 := ⟨_, rfl⟩
  have hz5 : Has W5 Z 38 [.slice (some ⟨gT, 0, none⟩) 1 1, .int .i64 1, .slice (some ⟨gW, 0, none⟩) 2 2, .slice (some ⟨gC, 0, none⟩) 1 1, .slice none 0 0, .slice (some ⟨gP, 0, none⟩) 2 2] := by rw [← hW5, ← hZ]; exact Has.new w1 38 _
  have hb5 : Below w1.heap.size w1 W5 := by rw [← hW5]; exact (Below.refl _ w1).alloc (Nat.le_refl _) _
  have HB5 := Lib.hid (HB1.out.trans (hb5.mono HB1.out.size))
  have HP5 := Lib.hid (HPr.out _ HB5.out)
  have HF : Hid (∀ W, Below W5.heap.size W5 W → Below W0.heap.size W0 W ∧ Has W Z 38 [.slice (some ⟨gT, 0, none⟩) 1 1, .int .i64 1, .slice (some ⟨gW, 0, none⟩) 2 2, .slice (some ⟨gC, 0, none⟩) 1 1, .slice none 0 0, .slice (some ⟨gP, 0, none⟩) 2 2]) := Lib.hid fun W hW => ⟨HB5.out.trans (hW.mono HB5.out.size), hz5.below hW hz5.lt⟩
  have HW5 := Lib.hid hW5
  have HZe := Lib.hid hZ
  clear hZ hW5 hz5 hb5 HPr
  go_wp2
  refine wp_loop_rounds 2 ?_
  rw [rounds_succ]
  go_wp2_with fail
  rw [HW5.out, HZe.out]
  refine HP5.out.mono ?_
  rintro e w6 ⟨rfl, hb⟩
  have HK6 := Lib.hid hb
  clear hb HP5 HW5 HZe lx ly x0 x1 x2 x3 x4 x5 x6 x7 x8 x9 x10 y0 y1 y2 y3 y4 y5
  go_wp2_with fail
  refine (HMy.out _ _ _).mono ?_
  rintro e w7 ⟨rfl, hw⟩
  subst hw
  obtain ⟨⟨x0, x1, x2, x3, x4, x5, x6, x7, x8, x9, x10⟩, lx, -⟩ := HX.out _ (HF.out _ HK6.out).1
  have hz := (HF.out _ HK6.out).2
  have z0 := hz.cell 0
  have z1 := hz.cell 1
  have z2 := hz.cell 2
  have z3 := hz.cell 3
  have z4 := hz.cell 4
  have z5 := hz.cell 5
  have lz := hz.lt
  simp only [List.getElem?_cons_zero, List.getElem?_cons_succ] at z0 z1 z2 z3 z4 z5
  clear hz
  go_wp2
  refine wp_loop_rounds 3 ?_
  rw [rounds_succ]
  have HA6 := Lib.hid (HWa.out _ (HF.out _ HK6.out).1)
  go_wp2_with fail
  refine HA6.out.mono ?_
  rintro e w8 ⟨rfl, hb⟩
  have HK8 := Lib.hid (HK6.out.trans (hb.mono HK6.out.size))
  clear hb HA6 HWa HK6 lx lz x0 x1 x2 x3 x4 x5 x6 x7 x8 x9 x10 z0 z1 z2 z3 z4 z5
  go_wp2_with fail
  refine (HMy.out _ _ _).mono ?_
  rintro e w9 ⟨rfl, hw⟩
  subst hw
  go_wp2
  rw [rounds_succ]
  obtain ⟨⟨x0, x1, x2, x3, x4, x5, x6, x7, x8, x9, x10⟩, lx, -⟩ := HX.out _ (HF.out _ HK8.out).1
  have hz := (HF.out _ HK8.out).2
  have z0 := hz.cell 0
  have z1 := hz.cell 1
  have z2 := hz.cell 2
  have z3 := hz.cell 3
  have z4 := hz.cell 4
  have z5 := hz.cell 5
  have lz := hz.lt
  simp only [List.getElem?_cons_zero, List.getElem?_cons_succ] at z0 z1 z2 z3 z4 z5
  clear hz
  have HA8 := Lib.hid (HWb.out _ (HF.out _ HK8.out).1)
  go_wp2_with fail
  refine HA8.out.mono ?_
  rintro e w10 ⟨rfl, hb⟩
  have HK10 := Lib.hid (HK8.out.trans (hb.mono HK8.out.size))
  clear hb HA8 HWb HK8 lx lz x0 x1 x2 x3 x4 x5 x6 x7 x8 x9 x10 z0 z1 z2 z3 z4 z5
  go_wp2_with fail
  refine (HMy.out _ _ _).mono ?_
  rintro e w11 ⟨rfl, hw⟩
  subst hw
  go_wp2
  rw [rounds_succ]
  obtain ⟨-, -, -, -, -, -, hBe, q1, q2, q3⟩ := HX.out _ (HF.out _ HK10.out).1
  have c1 := q1.cell 0
  have c2 := q2.cell 0
  have c3 := q3.cell 0
  have f1 := q1.frozen 0
  have f2 := q2.frozen 0
  have f3 := q3.frozen 0
  have l1 := q1.lt
  have l2 := q2.lt
  have l3 := q3.lt
  simp only [List.getElem?_cons_zero] at c1 c2 c3
  have HEnd : Hid (Below w.heap.size w (((w10.setCell ⟨w.heap.size + 1, 0, none⟩ (.int .i64 0)).setCell ⟨w.heap.size + 1 + 1, 0, none⟩ (.int .i64 0)).setCell ⟨w.heap.size + 1 + 1 + 1, 0, none⟩ (.int .i64 0))) := Lib.hid (((hBe.setCell (p := ⟨w.heap.size + 1, 0, none⟩) (by simp) _).setCell (p := ⟨w.heap.size + 1 + 1, 0, none⟩) (by simp; omega) _).setCell (p := ⟨w.heap.size + 1 + 1 + 1, 0, none⟩) (by simp; omega) _)
  clear hBe q1 q2 q3 HF HX HK10
  go_wp2
  rw [rounds_succ]
  go_wp2
  refine leaves_cons (f := 28) (args := #[.pointer (some ⟨w.heap.size + 1, 0, none⟩), .pointer (some ⟨w.heap.size + 1 + 1, 0, none⟩), .pointer (some ⟨w.heap.size + 1 + 1 + 1, 0, none⟩)]) (by simp) (by simp [go_sem]) ?_
  refine (kCatch_idle _ _ _ _).mono ?_
  rintro e u' w'' ⟨rfl, rfl, rfl⟩
  simp [Leaves, settle, results, Tryd.results11, go_sem, c1, c2, c3]
  exact HEnd.out
set_option maxRecDepth 100000 in
set_option maxHeartbeats 16000000 in
theorem check_35 (gT gW gC gP gI : Nat) (w : World) (hT : Tabs w) (hL : WTab w) (h : ExP w gT gW gC gP 35) (hI : Has w gI 38 [.slice (some ⟨gT, 0, none⟩) 1 1, .int .i64 1, .slice (some ⟨gW, 0, none⟩) 2 2, .slice (some ⟨gC, 0, none⟩) 1 1, .slice none 0 0, .slice (some ⟨gP, 0, none⟩) 2 2]) : Calls Tryd.prog 11 #[.agg #[.slice (some ⟨gI, 0, none⟩) 1 1, .slice none 0 0, .slice none 0 0, .int .u64 0, .int .u64 0, .int .u64 0, .int .u64 0, .int .u64 0, .int .u64 0, .int .u64 0, .int .u64 0]] w fun e w' => e = .returned (.tuple #[.int .i64 0, .int .i64 1, .int .i64 160]) ∧ Below w.heap.size w w' := by
  have hmf : ∀ (fn : Fn) (first cap : Array Value) (w : World), (Instr.makeFunc fn first cap).run Tryd.prog w = .ok (.func fn first cap) w := fun _ _ _ _ => rfl
  obtain ⟨k0, k1, k2, k3, kB, kS⟩ := TyD.four_blocks w [.slice (some ⟨gI, 0, none⟩) 1 1, .slice none 0 0, .slice none 0 0, .int .u64 0, .int .u64 0, .int .u64 0, .int .u64 0, .int .u64 0, .int .u64 0, .int .u64 0, .int .u64 0] [.int .i64 0] [.int .i64 0] [.int .i64 0] 29 3 3 47 _ rfl
  obtain ⟨W0, hW0⟩ : ∃ W0, ((((w.alloc (.cells #[.slice (some ⟨gI, 0, none⟩) 1 1, .slice none 0 0, .slice none 0 0, .int .u64 0, .int .u64 0, .int .u64 0, .int .u64 0, .int .u64 0, .int .u64 0, .int .u64 0, .int .u64 0] 29)).alloc (.cells #[.int .i64 0] 3)).alloc (.cells #[.int .i64 0] 3)).alloc (.cells #[.int .i64 0] 47)) = W0 := ⟨_, rfl⟩
  rw [hW0] at k0 k1 k2 k3 kB kS
  have HX : Hid (∀ W, Below W0.heap.size W0 W → (W.cell? ⟨w.heap.size, 0, none⟩ = some (.slice (some ⟨gI, 0, none⟩) 1 1) ∧ W.cell? ⟨w.heap.size, 1, none⟩ = some (.slice none 0 0) ∧ W.cell? ⟨w.heap.size, 2, none⟩ = some (.slice none 0 0) ∧ W.cell? ⟨w.heap.size, 3, none⟩ = some (.int .u64 0) ∧ W.cell? ⟨w.heap.size, 4, none⟩ = some (.int .u64 0) ∧ W.cell? ⟨w.heap.size, 5, none⟩ = some (.int .u64 0) ∧ W.cell? ⟨w.heap.size, 6, none⟩ = some (.int .u64 0) ∧ W.cell? ⟨w.heap.size, 7, none⟩ = some (.int .u64 0) ∧ W.cell? ⟨w.heap.size, 8, none⟩ = some (.int .u64 0) ∧ W.cell? ⟨w.heap.size, 9, none⟩ = some (.int .u64 0) ∧ W.cell? ⟨w.heap.size, 10, none⟩ = some (.int .u64 0)) ∧ w.heap.size < W.heap.size ∧ Has W gI 38 [.slice (some ⟨gT, 0, none⟩) 1 1, .int .i64 1, .slice (some ⟨gW, 0, none⟩) 2 2, .slice (some ⟨gC, 0, none⟩) 1 1, .slice none 0 0, .slice (some ⟨gP, 0, none⟩) 2 2] ∧ ExP W gT gW gC gP 35 ∧ Tabs W ∧ WTab W ∧ Below w.heap.size w W ∧ Has W (w.heap.size + 1) 3 [.int .i64 0] ∧ Has W (w.heap.size + 1 + 1) 3 [.int .i64 0] ∧ Has W (w.heap.size + 1 + 1 + 1) 47 [.int .i64 0]) := Lib.hid fun W hW => by
    have g := k0.below hW k0.lt
    have k := kB.trans (hW.mono kB.size)
    exact ⟨⟨g.cell 0, g.cell 1, g.cell 2, g.cell 3, g.cell 4, g.cell 5, g.cell 6, g.cell 7, g.cell 8, g.cell 9, g.cell 10⟩, g.lt, hI.below k hI.lt, h.below k, hT.below k, hL.below k, k, k1.below hW k1.lt, k2.below hW k2.lt, k3.below hW k3.lt⟩
  have HW0 := Lib.hid hW0
  have HWh := Lib.hid (fun (W : World) (hW : Below W0.heap.size W0 W) => whole_any gT gW gC gP gI W (HX.out W hW).2.2.1)
  have HMy := Lib.hid (fun (fn wd : Int) W => must_yes fn wd W)
  have HPr := Lib.hid (fun (W : World) (hW : Below W0.heap.size W0 W) => proto_any gT gW gC gP 35 W (HX.out W hW).2.2.2.2.2.1 (HX.out W hW).2.2.2.1)
  have HWa := Lib.hid (fun (W : World) (hW : Below W0.heap.size W0 W) => word_35_0 gT gW gC gP gI W (HX.out W hW).2.2.2.2.1 (HX.out W hW).2.2.2.1)
  have HWb := Lib.hid (fun (W : World) (hW : Below W0.heap.size W0 W) => word_35_1 gT gW gC gP gI W (HX.out W hW).2.2.2.2.1 (HX.out W hW).2.2.2.1)
  have HB0 := Lib.hid (Below.refl W0.heap.size W0)
  clear k0 k1 k2 k3 kB kS hW0 hT hL h hI
  go_enter_defers Tryd.func11, Tryd.ntmps11
  go_wp2_with fail
  rw [HW0.out]
  clear HW0
  refine (HWh.out _ HB0.out).mono ?_
  rintro e w1 ⟨rfl, hb⟩
  have HB1 := Lib.hid (HB0.out.trans hb)
  clear hb HWh HB0
  go_wp2_with fail
  refine (HMy.out _ _ _).mono ?_
  rintro e w2 ⟨rfl, hw⟩
  subst hw
  obtain ⟨⟨x0, x1, x2, x3, x4, x5, x6, x7, x8, x9, x10⟩, lx, hI, -⟩ := HX.out _ HB1.out
  have y0 := hI.cell 0
  have y1 := hI.cell 1
  have y2 := hI.cell 2
  have y3 := hI.cell 3
  have y4 := hI.cell 4
  have y5 := hI.cell 5
  have ly := hI.lt
  simp only [List.getElem?_cons_zero, List.getElem?_cons_succ] at y0 y1 y2 y3 y4 y5
  clear hI
  obtain ⟨Z, hZ⟩ : ∃ Z, w1.heap.size = Z := ⟨_, rfl⟩
  obtain ⟨W5, hW5⟩ : ∃ W5, w1.alloc (.cells #[.slice (some ⟨gT, 0, none⟩) 1 1, .int .i64 1, .slice (some ⟨gW, 0, none⟩) 2 2, .slice (some ⟨gC, 0, none⟩) 1 1, .slice none 0 0, .slice (some ⟨gP, 0, none⟩) 2 2] 38) = W5 := ⟨_, rfl⟩
  have hz5 : Has W5 Z 38 [.slice (some ⟨gT, 0, none⟩) 1 1, .int .i64 1, .slice (some ⟨gW, 0, none⟩) 2 2, .slice (some ⟨gC, 0, none⟩) 1 1, .slice none 0 0, .slice (some ⟨gP, 0, none⟩) 2 2] := by rw [← hW5, ← hZ]; exact Has.new w1 38 _
  have hb5 : Below w1.heap.size w1 W5 := by rw [← hW5]; exact (Below.refl _ w1).alloc (Nat.le_refl _) _
  have HB5 := Lib.hid (HB1.out.trans (hb5.mono HB1.out.size))
  have HP5 := Lib.hid (HPr.out _ HB5.out)
  have HF : Hid (∀ W, Below W5.heap.size W5 W → Below W0.heap.size W0 W ∧ Has W Z 38 [.slice (some ⟨gT, 0, none⟩) 1 1, .int .i64 1, .slice (some ⟨gW, 0, none⟩) 2 2, .slice (some ⟨gC, 0, none⟩) 1 1, .slice none 0 0, .slice (some ⟨gP, 0, none⟩) 2 2]) := Lib.hid fun W hW => ⟨HB5.out.trans (hW.mono HB5.out.size), hz5.below hW hz5.lt⟩
  have HW5 := Lib.hid hW5
  have HZe := Lib.hid hZ
  clear hZ hW5 hz5 hb5 HPr
  go_wp2
  refine wp_loop_rounds 2 ?_
  rw [rounds_succ]
  go_wp2_with fail
  rw [HW5.out, HZe.out]
  refine HP5.out.mono ?_
  rintro e w6 ⟨rfl, hb⟩
  have HK6 := Lib.hid hb
  clear hb HP5 HW5 HZe lx ly x0 x1 x2 x3 x4 x5 x6 x7 x8 x9 x10 y0 y1 y2 y3 y4 y5
  go_wp2_with fail
  refine (HMy.out _ _ _).mono ?_
  rintro e w7 ⟨rfl, hw⟩
  subst hw
  obtain ⟨⟨x0, x1, x2, x3, x4, x5, x6, x7, x8, x9, x10⟩, lx, -⟩ := HX.out _ (HF.out _ HK6.out).1
  have hz := (HF.out _ HK6.out).2
  have z0 := hz.cell 0
  have z1 := hz.cell 1
  have z2 := hz.cell 2
  have z3 := hz.cell 3
  have z4 := hz.cell 4
  have z5 := hz.cell 5
  have lz := hz.lt
  simp only [List.getElem?_cons_zero, List.getElem?_cons_succ] at z0 z1 z2 z3 z4 z5
  clear hz
  go_wp2
  refine wp_loop_rounds 3 ?_
  rw [rounds_succ]
  have HA6 := Lib.hid (HWa.out _ (HF.out _ HK6.out).1)
  go_wp2_with fail
  refine HA6.out.mono ?_
  rintro e w8 ⟨rfl, hb⟩
  have HK8 := Lib.hid (HK6.out.trans (hb.mono HK6.out.size))
  clear hb HA6 HWa HK6 lx lz x0 x1 x2 x3 x4 x5 x6 x7 x8 x9 x10 z0 z1 z2 z3 z4 z5
  go_wp2_with fail
  refine (HMy.out _ _ _).mono ?_
  rintro e w9 ⟨rfl, hw⟩
  subst hw
  go_wp2
  rw [rounds_succ]
  obtain ⟨⟨x0, x1, x2, x3, x4, x5, x6, x7, x8, x9, x10⟩, lx, -⟩ := HX.out _ (HF.out _ HK8.out).1
  have hz := (HF.out _ HK8.out).2
  have z0 := hz.cell 0
  have z1 := hz.cell 1
  have z2 := hz.cell 2
  have z3 := hz.cell 3
  have z4 := hz.cell 4
  have z5 := hz.cell 5
  have lz := hz.lt
  simp only [List.getElem?_cons_zero, List.getElem?_cons_succ] at z0 z1 z2 z3 z4 z5
  clear hz
  have HA8 := Lib.hid (HWb.out _ (HF.out _ HK8.out).1)
  go_wp2_with fail
  refine HA8.out.mono ?_
  rintro e w10 ⟨rfl, hb⟩
  have HK10 := Lib.hid (HK8.out.trans (hb.mono HK8.out.size))
  clear hb HA8 HWb HK8 lx lz x0 x1 x2 x3 x4 x5 x6 x7 x8 x9 x10 z0 z1 z2 z3 z4 z5
  go_wp2_with fail
  refine (must_no 0 1 _).mono ?_
  rintro e w11 ⟨rfl, hw⟩
  subst hw
  obtain ⟨-, -, -, -, -, -, hBe, q1, q2, q3⟩ := HX.out _ (HF.out _ HK10.out).1
  have HBe := Lib.hid hBe
  have Q1 := Lib.hid q1
  have Q2 := Lib.hid q2
  have Q3 := Lib.hid q3
  clear hBe q1 q2 q3 HF HX HK10
  go_wp2
  refine leaves_cons (f := 28) (args := #[.pointer (some ⟨w.heap.size + 1, 0, none⟩), .pointer (some ⟨w.heap.size + 1 + 1, 0, none⟩), .pointer (some ⟨w.heap.size + 1 + 1 + 1, 0, none⟩)]) (by simp) (by simp [go_sem]) ?_
  refine (kCatch_panicking (w.heap.size + 1) _ _ _ 0 1 _ Q1.out Q2.out Q3.out).mono ?_
  rintro e u' w'' ⟨rfl, rfl, hk, r1, r2, r3⟩
  have c1 := r1.cell 0
  have c2 := r2.cell 0
  have c3 := r3.cell 0
  simp only [List.getElem?_cons_zero] at c1 c2 c3
  have HEnd : Hid (Below w.heap.size w w'') := Lib.hid (HBe.out.trans (hk.toBelow _ HBe.out.size (by simp; omega)))
  clear hk r1 r2 r3
  simp [Leaves, settle, results, Tryd.results11, go_sem, c1, c2, c3]
  exact HEnd.out
end CodeD
end Go.Proofs.YtmebhdffgpnplaaDoor
