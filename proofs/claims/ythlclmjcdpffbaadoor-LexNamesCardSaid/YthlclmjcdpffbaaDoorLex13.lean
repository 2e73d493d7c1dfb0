/- Scan. -/
import Derived.Test.YthlclmjcdpffbaaDoorLex12
import Derived.Recover
import Derived.Deep.RegionWith
import Derived.Deep.RegionHeld3
namespace Go.Proofs.YthlclmjcdpffbaaDoor
open Go.RowKit ObjM Go.Maps
namespace LexD

theorem sCatch_idle (p q r : Addr) (w : World) :
    CallsD Tryd.prog 19 #[.pointer (some p), .pointer (some q), .pointer (some r)] .returning w fun e u' w' => e = .returned (.tuple #[]) ∧ u' = .returning ∧ w' = w := by
  refine callsD_of_wpS Tryd.func19 rfl fun c₀ cs hu => ?_
  apply wpS_seq
  apply wpS_region
  simp [wpOpsS, go_sem, recoverD, hu, Tryd.ntmps19, Exit.thenS]
  apply wpS_seq
  apply wpS_region
  simp [wpOpsS, go_sem, Exit.thenS]
  refine wpS_cond (t := false) (by simp [Act.eval, Array.replicate]) ?_
  simp only [Bool.false_eq_true, if_false]
  refine wpS_of_wp (wp_skip ?_)
  cases c₀
  simp_all [bodyPostS, results, Tryd.results19]
set_option maxRecDepth 100000 in
set_option maxHeartbeats 1000000 in
theorem wrongOf_any (at_ er : Int) (w : World) :
    Calls Tryd.prog 20 #[.iface 38 (.agg #[.int .i64 at_, .int .i64 er])] w fun e w' => e = .returned (.agg #[.int .i64 at_, .int .i64 er]) ∧ Below w.heap.size w w' := by
  have hta : ∀ W, (Instr.typeAssert (.iface 38 (.agg #[.int .i64 at_, .int .i64 er])) 20 38 true).run Tryd.prog W = .ok (.tuple #[.agg #[.int .i64 at_, .int .i64 er], .bool true]) W := by intro W; kernel_rfl
  go_enter Tryd.func20, Tryd.ntmps20
  go_wp2
  refine bodyPost_ret (v := .agg #[.int .i64 at_, .int .i64 er]) (by simp [results, Tryd.results20, go_sem]) rfl ⟨rfl, ?_⟩
  repeat (first | exact Below.refl _ _ | refine Below.alloc ?_ (by simp) _ | refine Below.setCell ?_ (by simp) _)
theorem sCatch_end {w w1 : World} {P Q R B : Nat} {p0 q0 r0 : Value} {p er : Int} (hP : Has w P 23 [p0]) (hQ : Has w Q 3 [q0]) (hR : Has w R 24 [r0])
    (hk : KeepsT [] w w1) (hb : Below B w w1) (h1 : B ≤ P) (h2 : B ≤ Q) (h3 : B ≤ R) :
    Below B w (((w1.setCell ⟨P, 0, none⟩ (.slice none 0 0)).setCell ⟨Q, 0, none⟩ (.int .i64 p)).setCell ⟨R, 0, none⟩ (.int .i64 er)) ∧
    Has (((w1.setCell ⟨P, 0, none⟩ (.slice none 0 0)).setCell ⟨Q, 0, none⟩ (.int .i64 p)).setCell ⟨R, 0, none⟩ (.int .i64 er)) P 23 [.slice none 0 0] ∧
    Has (((w1.setCell ⟨P, 0, none⟩ (.slice none 0 0)).setCell ⟨Q, 0, none⟩ (.int .i64 p)).setCell ⟨R, 0, none⟩ (.int .i64 er)) Q 3 [.int .i64 p] ∧
    Has (((w1.setCell ⟨P, 0, none⟩ (.slice none 0 0)).setCell ⟨Q, 0, none⟩ (.int .i64 p)).setCell ⟨R, 0, none⟩ (.int .i64 er)) R 24 [.int .i64 er] := by
  have nPQ : P ≠ Q := hP.ne hQ (by decide +kernel)
  have nPR : P ≠ R := hP.ne hR (by decide +kernel)
  have nQR : Q ≠ R := hQ.ne hR (by decide +kernel)
  have p1 := (hP.keepsT hk (by simp)).set 0 (.slice none 0 0)
  have q1 := hQ.keepsT hk (by simp)
  have r1 := hR.keepsT hk (by simp)
  refine ⟨((hb.setCell h1 _).setCell h2 _).setCell h3 _, ?_, ?_, ?_⟩
  · exact (p1.keeps (Keeps.set _ Q 0 _) (by simpa using nPQ)).keeps (Keeps.set _ R 0 _) (by simpa using nPR)
  · exact ((q1.keeps (Keeps.set _ P 0 _) (by simpa using nPQ.symm)).set 0 _).keeps (Keeps.set _ R 0 _) (by simpa using nQR)
  · exact ((r1.keeps (Keeps.set _ P 0 _) (by simpa using nPR.symm)).keeps (Keeps.set _ Q 0 _) (by simpa using nQR.symm)).set 0 _
set_option maxRecDepth 100000 in
set_option maxHeartbeats 2000000 in
theorem sCatch_panicking (P Q R B : Nat) (p er : Int) (p0 q0 r0 : Value) (w : World)
    (hP : Has w P 23 [p0]) (hQ : Has w Q 3 [q0]) (hR : Has w R 24 [r0]) (hB : B ≤ P ∧ B ≤ Q ∧ B ≤ R) (hBw : B ≤ w.heap.size) :
    CallsD Tryd.prog 19 #[.pointer (some ⟨P, 0, none⟩), .pointer (some ⟨Q, 0, none⟩), .pointer (some ⟨R, 0, none⟩)] (.panicking (panW p er)) w fun e u' w' =>
      e = .returned (.tuple #[]) ∧ u' = .panicking [{ v := .iface 38 (.agg #[.int .i64 p, .int .i64 er]), recovered := true }] ∧ Below B w w' ∧
      Has w' P 23 [.slice none 0 0] ∧ Has w' Q 3 [.int .i64 p] ∧ Has w' R 24 [.int .i64 er] := by
  have HW := fun W => Lib.hid (wrongOf_any p er W)
  have nPQ : P ≠ Q := hP.ne hQ (by decide +kernel)
  have nPR : P ≠ R := hP.ne hR (by decide +kernel)
  have nQR : Q ≠ R := hQ.ne hR (by decide +kernel)
  refine callsD_of_wpS Tryd.func19 rfl fun c₀ cs hu => ?_
  apply wpS_seq
  apply wpS_region
  simp [wpOpsS, go_sem, recoverD, hu, panW, Tryd.ntmps19, Exit.thenS]
  apply wpS_seq
  apply wpS_region
  simp [wpOpsS, go_sem, Exit.thenS]
  refine wpS_cond (t := true) (by simp [Act.eval, Array.replicate]) ?_
  simp only [if_true]
  refine wpS_of_wp ?_
  go_wp2_with fail
  refine ((HW _).out).mono ?_
  rintro e w1 ⟨rfl, hb1⟩
  have hK1 : KeepsT [] w w1 := KeepsT.below hb1 []
  have p1 := hP.keepsT hK1 (by simp)
  have q1 := hQ.keepsT hK1 (by simp)
  have r1 := hR.keepsT hK1 (by simp)
  have HA := Lib.hid (Has.new w1 38 [.int .i64 p, .int .i64 er])
  have pc := p1.cell 0
  have qc := q1.cell 0
  have rc := r1.cell 0
  have pf := p1.frozen 0
  have qf := q1.frozen 0
  have rf := r1.frozen 0
  have pl := p1.lt
  have ql := q1.lt
  have rl := r1.lt
  simp at pc qc rc
  have HK1 := Lib.hid hK1
  have HB1 := Lib.hid (hb1.mono hBw)
  have HEnd := Lib.hid (fun (W : World) (hk : KeepsT [] w W) (hb : Below B w W) => sCatch_end (p := p) (er := er) hP hQ hR hk hb hB.1 hB.2.1 hB.2.2)
  clear hK1 hb1 p1 q1 r1
  go_wp2
  go_region_with (fail)
  all_goals
    refine ⟨rfl, _, rfl, _, by simp [results, Tryd.results19, go_sem], rfl, rfl, ?_⟩
    have hw := HEnd.out w1 HK1.out HB1.out
    have hz := hw.2.1.lt
    refine ⟨(hw.1.alloc (Nat.le_trans hBw hw.1.size) _).drew, ((hw.2.1.keepsT ((KeepsT.refl [] _).alloc _) (by simp)).keeps (Keeps.drewN [] _ 1) (by simp)), ((hw.2.2.1.keepsT ((KeepsT.refl [] _).alloc _) (by simp)).keeps (Keeps.drewN [] _ 1) (by simp)), ((hw.2.2.2.keepsT ((KeepsT.refl [] _).alloc _) (by simp)).keeps (Keeps.drewN [] _ 1) (by simp))⟩
inductive ScanIs (w : World) (s : ByteArray) : Ending → World → Prop
  | long (w' : World) : 100000 < s.size → Below w.heap.size w w' → ScanIs w s (.returned (.tuple #[.slice none 0 0, .int .i64 0, .int .i64 2])) w'
  | ok (ts : List Tok) (tv : Value) (w' : World) : s.size ≤ 100000 → scanV s = .ok ts → ts.length ≤ s.size → w'.ownsRow w.heap.size 36 5 tv (ts.length + 1) (rowT (ts ++ [endTok s])) → Below w.heap.size w w' → ScanIs w s (.returned (.tuple #[tv, .int .i64 0, .int .i64 0])) w'
  | err (p : Nat) (er : Int) (w' : World) : s.size ≤ 100000 → scanV s = .error (p, er) → p < s.size → Below w.heap.size w w' → ScanIs w s (.returned (.tuple #[.slice none 0 0, .int .i64 (p : Int), .int .i64 er])) w'
theorem own_base {w : World} {b b' : Nat} {e : TypeId} {size : Nat} {v : Value} {n : Nat} {xs : List Value} (h : w.ownsRow b e size v n xs) (hb : b' ≤ b) : w.ownsRow b' e size v n xs :=
  ⟨h.1, h.2.imp id (fun ⟨g, cap, cur, e1, e2, r⟩ => ⟨g, cap, cur, e1, Nat.le_trans hb e2, r⟩)⟩
theorem three_blocks (w : World) (c0 c1 c2 : List Value) (t0 t1 t2 : TypeId) (W : World) (hW : W = ((w.alloc (.cells c0.toArray t0)).alloc (.cells c1.toArray t1)).alloc (.cells c2.toArray t2)) :
    Has W w.heap.size t0 c0 ∧ Has W (w.heap.size + 1) t1 c1 ∧ Has W (w.heap.size + 1 + 1) t2 c2 ∧ Below w.heap.size w W ∧ W.heap.size = w.heap.size + 1 + 1 + 1 := by
  subst hW
  have k : ∀ (W : World) (o : Go.Obj), KeepsT [] W (W.alloc o) := fun W o => (KeepsT.refl [] W).alloc o
  refine ⟨?_, ?_, ?_, ?_, by simp⟩
  · exact ((Has.new w t0 c0).keepsT (k _ _) (by simp)).keepsT (k _ _) (by simp)
  · have h := (Has.new (w.alloc (.cells c0.toArray t0)) t1 c1).keepsT (k _ (.cells c2.toArray t2)) (by simp)
    simpa only [World.size_alloc] using h
  · have h := Has.new ((w.alloc (.cells c0.toArray t0)).alloc (.cells c1.toArray t1)) t2 c2
    simpa only [World.size_alloc] using h
  · repeat (first | exact Below.refl _ _ | refine Below.alloc ?_ (by simp; try omega) _)
set_option maxRecDepth 100000 in
set_option maxHeartbeats 4000000 in
theorem scan_any (s : ByteArray) (w : World) (hT : WTab w) : Calls Tryd.prog 10 #[.string s] w (ScanIs w s) := by
  have hmf : ∀ (fn : Fn) (first cap : Array Value) (w : World), (Instr.makeFunc fn first cap).run Tryd.prog w = .ok (.func fn first cap) w := fun _ _ _ _ => rfl
  obtain ⟨hb0, hb1, hb2, hBW, hsz⟩ := three_blocks w [.slice none 0 0] [.int .i64 0] [.int .i64 0] 23 3 24 _ rfl
  by_cases hlong : 100000 < s.size
  · have hl : (100000 : Int) < (s.size : Int) := by omega
    have HBW := Lib.hid hBW
    clear hBW hsz
    go_enter_defers Tryd.func10, Tryd.ntmps10
    have HB2 : Hid (Below w.heap.size w (((w.alloc (.cells #[.slice none 0 0] 23)).alloc (.cells #[.int .i64 0] 3)).alloc (.cells #[.int .i64 2] 24))) := Lib.hid (by
      repeat (first | exact Below.refl _ _ | refine Below.alloc ?_ (by simp; try omega) _))
    go_wp2
    simp [bodyPostD, Leaves, results, Tryd.results10, go_sem]
    exact .long _ hlong HB2.out
  · have hl : ¬ (100000 : Int) < (s.size : Int) := by omega
    have hs : s.size ≤ 100000 := by omega
    have HN := fun W (h : WTab W) => Lib.hid (new_any s W h)
    have hT1 := hT.below hBW
    have HBW := Lib.hid hBW
    have HSz := Lib.hid hsz
    clear hBW hsz
    go_enter_defers Tryd.func10, Tryd.ntmps10
    go_wp2_with fail
    change Calls _ _ _ (World.alloc (World.alloc (World.alloc w _) _) _) _
    generalize World.alloc (World.alloc (World.alloc w _) _) _ = W0 at hb0 hb1 hb2 HBW HSz hT1 ⊢
    refine ((HN _ hT1).out).mono ?_
    rintro e w1 ⟨P, m, rfl, hsc, hb1'⟩
    have HA : Hid (Calls Tryd.prog 22 #[.pointer (some ⟨P, 0, none⟩)] w1 (AllIs w1 W0.heap.size s)) := Lib.hid (all_any W0.heap.size P m s hs w1 hb1'.size _ hsc)
    have HB1 := Lib.hid hb1'
    clear hsc hb1' hT1 HN
    go_wp2_with fail
    refine (HA.out).mono ?_
    intro e w2 hall
    have hlt0 := hb0.lt
    have hlt1 := hb1.lt
    have hlt2 := hb2.lt
    cases hall with
    | ok ts tv _ hv hl hrow hb =>
      have HB2 := Lib.hid (HB1.out.trans hb)
      have p0 := hb0.below HB2.out hlt0
      have p1 := hb1.below HB2.out hlt1
      have p2 := hb2.below HB2.out hlt2
      have x0 := p0.cell 0
      have x1 := p1.cell 0
      have x2 := p2.cell 0
      have f0 := p0.frozen 0
      have f1 := p1.frozen 0
      have f2 := p2.frozen 0
      have l0 := p0.lt
      have l1 := p1.lt
      have l2 := p2.lt
      simp at x0 x1 x2
      have HV := Lib.hid hv
      have HR := Lib.hid hrow
      obtain ⟨g', cap', rfl⟩ := ownsRow_succ hrow
      clear hv hrow hb p0 p1 p2 hb0 hb1 hb2 HA
      have HEnd : Hid (ScanIs w s (.returned (.tuple #[.slice (some ⟨g', 0, none⟩) (ts.length + 1) cap', .int .i64 0, .int .i64 0])) (((w2.setCell ⟨w.heap.size, 0, none⟩ (.slice (some ⟨g', 0, none⟩) (ts.length + 1) cap')).setCell ⟨w.heap.size + 1, 0, none⟩ (.int .i64 0)).setCell ⟨w.heap.size + 1 + 1, 0, none⟩ (.int .i64 0))) := Lib.hid (by
        have hz := HSz.out
        refine .ok ts _ _ hs HV.out hl ?_ ?_
        · have hnb : ∀ (v : Nat), v < W0.heap.size → ∀ g, (Value.slice (some ⟨g', 0, none⟩) (ts.length + 1) cap').ownBlock = some g → g ∉ [v] := by
            intro v hv g hg
            have := (own_lt HR.out g hg).1
            simp
            omega
          exact own_keeps (own_keeps (own_keeps (own_base HR.out (by omega)) (Keeps.set w2 w.heap.size 0 _) (hnb _ (by omega))) (Keeps.set _ (w.heap.size + 1) 0 _) (hnb _ (by omega))) (Keeps.set _ (w.heap.size + 1 + 1) 0 _) (hnb _ (by omega))
        · exact (((HBW.out.trans (HB2.out.mono HBW.out.size)).setCell (p := ⟨w.heap.size, 0, none⟩) (Nat.le_refl _) _).setCell (p := ⟨w.heap.size + 1, 0, none⟩) (by simp) _).setCell (p := ⟨w.heap.size + 1 + 1, 0, none⟩) (by simp; omega) _)
      go_wp2
      refine leaves_cons (f := 19) (args := #[.pointer (some ⟨w.heap.size, 0, none⟩), .pointer (some ⟨w.heap.size + 1, 0, none⟩), .pointer (some ⟨w.heap.size + 1 + 1, 0, none⟩)]) (by simp) (by simp [go_sem]) ?_
      refine (sCatch_idle _ _ _ _).mono ?_
      rintro e u' w'' ⟨rfl, rfl, rfl⟩
      simp [Leaves, settle, results, Tryd.results10, go_sem, x0, x1, x2]
      exact HEnd.out
    | err p er _ hv hp hb =>
      have HB2 := Lib.hid (HB1.out.trans hb)
      have p0 := Lib.hid (hb0.below HB2.out hlt0)
      have p1 := Lib.hid (hb1.below HB2.out hlt1)
      have p2 := Lib.hid (hb2.below HB2.out hlt2)
      have HV := Lib.hid hv
      clear hv hb hb0 hb1 hb2 HA
      go_wp2
      refine leaves_cons (f := 19) (args := #[.pointer (some ⟨w.heap.size, 0, none⟩), .pointer (some ⟨w.heap.size + 1, 0, none⟩), .pointer (some ⟨w.heap.size + 1 + 1, 0, none⟩)]) (by simp) (by simp [go_sem]) ?_
      refine (sCatch_panicking w.heap.size (w.heap.size + 1) (w.heap.size + 1 + 1) w.heap.size p er _ _ _ w2 p0.out p1.out p2.out ⟨Nat.le_refl _, by omega, by omega⟩ (by have := HBW.out.size; have := HB2.out.size; omega)).mono ?_
      rintro e u' w'' ⟨rfl, rfl, hb2, hq, hr, hz⟩
      have q0 := hq.cell 0
      have q1 := hr.cell 0
      have q2 := hz.cell 0
      simp at q0 q1 q2
      have HEnd : Hid (ScanIs w s (.returned (.tuple #[.slice none 0 0, .int .i64 p, .int .i64 er])) w'') := Lib.hid (.err p er _ hs HV.out hp ((HBW.out.trans (HB2.out.mono HBW.out.size)).trans hb2))
      clear hq hr hz hb2
      simp [Leaves, settle, results, Tryd.results10, go_sem, q0, q1, q2]
      exact HEnd.out
end LexD
end Go.Proofs.YthlclmjcdpffbaaDoor
