/- Do, where nothing goes wrong. -/
import Derived.Test.YtajcglhmononnaaDoorVal3
namespace Go.Proofs.YtajcglhmononnaaDoor
open Go.RowKit ObjM
namespace ValD
open NumM LabelM LabelD NumD

theorem catch_idle (p q r : Addr) (w : World) :
    CallsD Tryd.prog 15 #[.pointer (some p), .pointer (some q), .pointer (some r)] .returning w fun e u' w' => e = .returned (.tuple #[]) ∧ u' = .returning ∧ w' = w := by
  refine callsD_of_wpS Tryd.func15 rfl fun c₀ cs hu => ?_
  apply wpS_seq
  apply wpS_region
  simp [wpOpsS, go_sem, recoverD, hu, Tryd.ntmps15, Exit.thenS]
  apply wpS_seq
  apply wpS_region
  simp [wpOpsS, go_sem, Exit.thenS]
  refine wpS_cond (t := false) (by simp [Act.eval, Array.replicate]) ?_
  simp only [Bool.false_eq_true, if_false]
  refine wpS_of_wp (wp_skip ?_)
  cases c₀
  simp_all [bodyPostS, results, Tryd.results15]
theorem six_blocks (w : World) (c0 c1 c2 c3 c4 c5 : List Value) (t0 t1 t2 t3 t4 t5 : TypeId) (W : World) (hW : W = (((((w.alloc (.cells c0.toArray t0)).alloc (.cells c1.toArray t1)).alloc (.cells c2.toArray t2)).alloc (.cells c3.toArray t3)).alloc (.cells c4.toArray t4)).alloc (.cells c5.toArray t5)) :
    Has W w.heap.size t0 c0 ∧ Has W (w.heap.size + 1) t1 c1 ∧ Has W (w.heap.size + 1 + 1) t2 c2 ∧ Has W (w.heap.size + 1 + 1 + 1) t3 c3 ∧ Has W (w.heap.size + 1 + 1 + 1 + 1 + 1) t5 c5 ∧ Below w.heap.size w W := by
  subst hW
  have k : ∀ (W : World) (o : Go.Obj), KeepsT [] W (W.alloc o) := fun W o => (KeepsT.refl [] W).alloc o
  refine ⟨?_, ?_, ?_, ?_, ?_, ?_⟩
  · exact (((((Has.new w t0 c0).keepsT (k _ _) (by simp)).keepsT (k _ _) (by simp)).keepsT (k _ _) (by simp)).keepsT (k _ _) (by simp)).keepsT (k _ _) (by simp)
  · have h := ((((Has.new (w.alloc (.cells c0.toArray t0)) t1 c1).keepsT (k _ (.cells c2.toArray t2)) (by simp)).keepsT (k _ (.cells c3.toArray t3)) (by simp)).keepsT (k _ (.cells c4.toArray t4)) (by simp)).keepsT (k _ (.cells c5.toArray t5)) (by simp)
    simpa only [World.size_alloc] using h
  · have h := (((Has.new ((w.alloc (.cells c0.toArray t0)).alloc (.cells c1.toArray t1)) t2 c2).keepsT (k _ (.cells c3.toArray t3)) (by simp)).keepsT (k _ (.cells c4.toArray t4)) (by simp)).keepsT (k _ (.cells c5.toArray t5)) (by simp)
    simpa only [World.size_alloc] using h
  · have h := ((Has.new (((w.alloc (.cells c0.toArray t0)).alloc (.cells c1.toArray t1)).alloc (.cells c2.toArray t2)) t3 c3).keepsT (k _ (.cells c4.toArray t4)) (by simp)).keepsT (k _ (.cells c5.toArray t5)) (by simp)
    simpa only [World.size_alloc] using h
  · have h := Has.new (((((w.alloc (.cells c0.toArray t0)).alloc (.cells c1.toArray t1)).alloc (.cells c2.toArray t2)).alloc (.cells c3.toArray t3)).alloc (.cells c4.toArray t4)) t5 c5
    simpa only [World.size_alloc] using h
  · repeat (first | exact Below.refl _ _ | refine Below.alloc ?_ (by simp; try omega) _)

set_option maxRecDepth 100000 in
set_option maxHeartbeats 4000000 in
theorem do_ok (op : Int) (a b r : V) (ha : a.l < M64) (hb : b.l < M64) (hr : r.l < M64) (hans : ∀ W, Calls Tryd.prog 18 #[.int .i64 op, a.agg, b.agg] W fun e w' => e = .returned r.agg ∧ Below W.heap.size W w') (w : World) :
    Calls Tryd.prog 10 #[.int .i64 op, a.agg, b.agg] w fun e w' => e = .returned (.tuple #[(r.with (a.l ||| b.l)).agg, .string ⟨#[]⟩]) ∧ Below w.heap.size w w' := by
  have HA := fun W => Lib.hid (hans W)
  have hab := or_lt ha hb
  have HJ2 := fun W n c0 c1 => Lib.hid (join2c a.l b.l ha hb W n c0 c1)
  obtain ⟨ak, an, sa, al⟩ := a
  obtain ⟨bk, bn, sb, bl⟩ := b
  simp only at hab HJ2
  obtain ⟨x, hx⟩ : ∃ x, al ||| bl = x := ⟨_, rfl⟩
  simp only [hx] at hab HJ2 ⊢
  clear hx hans
  have HW := fun lv W hj => Lib.hid (with_any r lv x hr hab W hj)
  have HJ := fun (n : Nat) W hc => join1_any x hab W n hc
  obtain ⟨rk, rn, rs, rl⟩ := r
  simp only [V.agg, V.with] at HA HW ⊢
  have hmf : ∀ (fn : Fn) (first cap : Array Value) (w : World), (Instr.makeFunc fn first cap).run Tryd.prog w = .ok (.func fn first cap) w := fun _ _ _ _ => rfl
  go_enter_defers Tryd.func10, Tryd.ntmps10
  go_wp2_with fail
  with_reducible refine ((HJ2 _ _ (by go_simp) (by go_simp)).out).mono ?_
  rintro e w1 ⟨rfl, hw⟩
  subst hw
  go_wp2
  obtain ⟨hb0, hb1, hb2, hb3, hb5, hBW⟩ := six_blocks w [.int .i64 ak, .int .i64 an, .string sa, .int .u64 (al : Int)] [.int .i64 bk, .int .i64 bn, .string sb, .int .u64 (bl : Int)] [.int .i64 0, .int .i64 0, .string ⟨#[]⟩, .int .u64 0] [.string ⟨#[]⟩] [.int .u64 (al : Int), .int .u64 (bl : Int)] [.int .u64 (x : Int)]
    25 25 25 9 23 23 _ rfl
  change Code.wp _ _ _ _ (World.alloc (World.alloc (World.alloc (World.alloc (World.alloc (World.alloc w _) _) _) _) _) _)
  generalize World.alloc (World.alloc (World.alloc (World.alloc (World.alloc (World.alloc w _) _) _) _) _) _ = W0 at hb0 hb1 hb2 hb3 hb5 hBW ⊢
  have hlt := hb5.lt
  have hlt0 := hb0.lt
  have hlt1 := hb1.lt
  have hlt2 := hb2.lt
  have hlt3 := hb3.lt
  have hBW2 := Lib.hid hBW
  clear hBW
  obtain ⟨R0, hR0⟩ : ∃ R0, w.heap.size = R0 := ⟨_, rfl⟩
  have hRle : w.heap.size ≤ R0 := by omega
  rw [hR0] at hb0 hb1 hb2 hb3 hb5 hlt hlt0 hlt1 hlt2 hlt3 ⊢
  clear hR0
  have HF : Hid (∀ W', Below W0.heap.size W0 W' → (W'.cell? ⟨R0 + 1 + 1 + 1 + 1 + 1, 0, none⟩ = some (.int .u64 (x : Int)) ∧ W'.cell? ⟨R0 + 1 + 1, 0, none⟩ = some (.int .i64 0) ∧ W'.cell? ⟨R0 + 1 + 1, 1, none⟩ = some (.int .i64 0) ∧ W'.cell? ⟨R0 + 1 + 1, 2, none⟩ = some (.string ⟨#[]⟩) ∧ W'.cell? ⟨R0 + 1 + 1, 3, none⟩ = some (.int .u64 0) ∧
      W'.frozen? ⟨R0 + 1 + 1, 0, none⟩ = false ∧ W'.frozen? ⟨R0 + 1 + 1, 1, none⟩ = false ∧ W'.frozen? ⟨R0 + 1 + 1, 2, none⟩ = false ∧ W'.frozen? ⟨R0 + 1 + 1, 3, none⟩ = false ∧ W'.cell? ⟨R0 + 1 + 1 + 1, 0, none⟩ = some (.string ⟨#[]⟩) ∧ W'.frozen? ⟨R0 + 1 + 1 + 1, 0, none⟩ = false) ∧ W0.heap.size ≤ W'.heap.size) := Lib.hid (fun W' hb => by
    have p2 := hb2.below hb (by omega)
    have p3 := hb3.below hb (by omega)
    have p5 := hb5.below hb (by omega)
    exact ⟨⟨p5.cell 0, p2.cell 0, p2.cell 1, p2.cell 2, p2.cell 3, p2.frozen 0, p2.frozen 1, p2.frozen 2, p2.frozen 3, p3.cell 0, p3.frozen 0⟩, hb.size⟩)
  obtain ⟨⟨s0, -⟩, -⟩ := HF.out W0 (Below.refl _ _)
  have a0 := hb0.cell 0
  have a1 := hb0.cell 1
  have a2 := hb0.cell 2
  have a3 := hb0.cell 3
  have d0 := hb1.cell 0
  have d1 := hb1.cell 1
  have d2 := hb1.cell 2
  have d3 := hb1.cell 3
  simp at a0 a1 a2 a3 d0 d1 d2 d3
  clear hb0 hb1 hb2 hb3 hb5
  refine wp_region_noPanic ?_
  go_region_with
    (first
      | (go_at_call 18
         with_reducible refine ((HA _).out).mono ?_
         rintro e w1 ⟨rfl, hb1⟩
         have hB1 : Below W0.heap.size W0 w1 := Below.trans (by repeat (first | exact Below.refl _ _ | refine Below.drew ?_ | refine Below.alloc ?_ (by simp; try omega) _)) (hb1.mono (by simp; try omega))
         have HC1 := Lib.hid (fun (p : Addr) (hp : p.block < _) => hb1.cell (p := p) hp)
         have hq1 := hb1.size
         simp at hq1
         clear hb1
         obtain ⟨⟨e0, -⟩, hz1⟩ := HF.out w1 hB1)
      | (go_at_call 17
         with_reducible refine ((HW _ _ (fun W' hb => HJ _ W' ((hb.cell (p := ⟨_, 0, none⟩) (by first | omega | (simp; try omega))).trans (by first | (go_simp; done) | exact (HC1.out ⟨_, 0, none⟩ (by simp; try omega)).trans (by go_simp))))).out).mono ?_
         rintro e w2 ⟨rfl, hb2⟩
         have hB2 : Below W0.heap.size W0 w2 := Below.trans (by repeat (first | assumption | exact Below.refl _ _ | refine Below.drew ?_ | refine Below.alloc ?_ (by first | omega | (simp; try omega)) _)) (hb2.mono (by first | omega | (simp; try omega)))
         clear hb2
         obtain ⟨⟨-, g1, g2, g3, g4, g5, g6, g7, g8, g9, g10⟩, hz2⟩ := HF.out w2 hB2))
  all_goals
    refine NoPanic.normal ?_
    go_wp2
    refine leaves_cons (f := 15) (args := #[.pointer (some ⟨R0 + 1 + 1 + 1 + 1 + 1, 0, none⟩), .pointer (some ⟨R0 + 1 + 1, 0, none⟩), .pointer (some ⟨R0 + 1 + 1 + 1, 0, none⟩)]) (by simp) (by simp [go_sem]) ?_
    refine (catch_idle _ _ _ _).mono ?_
    rintro e u' w'' ⟨rfl, rfl, rfl⟩
    have hE := (((((hBW2.out.trans (hB2.mono hBW2.out.size)).setCell (p := ⟨R0 + 1 + 1, 0, none⟩) (by simp; omega) (.int .i64 rk)).setCell (p := ⟨R0 + 1 + 1, 1, none⟩) (by simp; omega) (.int .i64 rn)).setCell (p := ⟨R0 + 1 + 1, 2, none⟩) (by simp; omega) (.string rs)).setCell (p := ⟨R0 + 1 + 1, 3, none⟩) (by simp; omega) (.int .u64 ((rl ||| x : Nat) : Int))).setCell (p := ⟨R0 + 1 + 1 + 1, 0, none⟩) (by simp; omega) (.string ⟨#[]⟩)
    simp [Leaves, settle, results, Tryd.results10, go_sem, g1, g2, g3, g4, g9]
    exact hE
end ValD
end Go.Proofs.YtajcglhmononnaaDoor
