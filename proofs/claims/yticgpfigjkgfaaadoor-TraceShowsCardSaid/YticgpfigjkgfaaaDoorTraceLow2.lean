/- What one sees of events. -/
import Derived.Test.YticgpfigjkgfaaaDoorTraceLow
import Derived.RangeFuncNested
import Derived.Shelf.Abstract
namespace Go.Proofs.YticgpfigjkgfaaaDoor
open Go.RowKit ObjM
namespace TraceD
open LabelM LabelD
attribute [local go_sem] Oper.semAt_some

theorem infoEv : (Tryd.prog.info? 38).map (fun i => (i.zero, i.size, i.bytes)) = some (some (.agg #[.int .i64 0, .int .i64 0, .int .i64 0, .string ⟨#[]⟩]), 4, 40) := by kernel_rfl
def rowV (l : List Ev) : List Value := l.flatMap Ev.cells
theorem rowV_snoc (l : List Ev) (x : Ev) : rowV (l ++ [x]) = rowV l ++ x.cells := by simp [rowV]
theorem new_cells (W : World) (t : TypeId) (cs : List Value) (j : Nat) (u : Value) (h : cs[j]? = some u) : (W.alloc (.cells cs.toArray t)).cell? ((⟨W.heap.size, 0, none⟩ : Addr).add j) = some u := by
  rw [addr_add, Nat.zero_add]
  exact ((Has.new W t cs).cell j).trans h

theorem seen_stops (n : Nat) (hn : 1 ≤ n) (ms : List Nat) (hm8 : ms.length = 8) (see : Nat) (l : List Ev) (av : Option Addr) (cw P M E n₀ : Nat) (hll : l.length ≤ 9223372036854775807) (hms : ∀ j, ms.getD j 0 < M64) (hse : see < M64) (w : World) (hn0 : n₀ ≤ w.heap.size)
    (hP : Has w P 22 [.slice av l.length cw]) (hM : Has w M 25 (masksV ms)) (hE : Has w E 24 [.int .u64 (see : Int)]) (hev : ∀ W', Below n₀ w W' → EvsAt W' (.slice av l.length cw) l) :
    SeqStopsK Fence.wide n Tryd.prog 29 #[.pointer (some ⟨P, 0, none⟩), .pointer (some ⟨M, 0, none⟩), .pointer (some ⟨E, 0, none⟩)] (fun x : Ev => #[x.agg]) (KpD n₀) (fun ys => ys = visL ms see l) (fun pre => pre <+: visL ms see l) l.length w := fun lb J Jx W hW hJ _ hY h0 => by
  refine seen1_in n hn ms see l av cw P M E n₀ lb hll hms hse J Jx W (Nat.le_trans hn0 hW.size) hJ hY ?_ ?_ h0
  · exact (hP.below hW hP.lt).cell 0
  · intro W' hk
    have m := hk.2 _ _ _ (by decide) (by decide) (hM.below hW hM.lt)
    have e := hk.2 _ _ _ (by decide) (by decide) (hE.below hW hE.lt)
    refine ⟨hev W' ((hW.mono hn0).trans hk.1), m.lt, e.lt, fun j hj => ?_, e.cell 0⟩
    rw [m.cell j]
    unfold masksV
    rw [List.getElem?_map, List.getElem?_eq_getElem (by omega), List.getD_eq_getElem?_getD, List.getElem?_eq_getElem (by omega)]
    rfl

theorem five_blocks (w : World) (c0 c1 c2 c3 c4 : List Value) (t0 t1 t2 t3 t4 : TypeId) (W : World) (hW : W = ((((w.alloc (.cells c0.toArray t0)).alloc (.cells c1.toArray t1)).alloc (.cells c2.toArray t2)).alloc (.cells c3.toArray t3)).alloc (.cells c4.toArray t4)) :
    Has W (w.heap.size + 1) t1 c1 ∧ Has W (w.heap.size + 1 + 1) t2 c2 ∧ Has W (w.heap.size + 1 + 1 + 1) t3 c3 ∧ Has W (w.heap.size + 1 + 1 + 1 + 1) t4 c4 ∧ Below w.heap.size w W := by
  subst hW
  have k : ∀ (W : World) (o : Go.Obj), KeepsT [] W (W.alloc o) := fun W o => (KeepsT.refl [] W).alloc o
  refine ⟨?_, ?_, ?_, ?_, ?_⟩
  · have h := (((Has.new (w.alloc (.cells c0.toArray t0)) t1 c1).keepsT (k _ (.cells c2.toArray t2)) (by simp)).keepsT (k _ (.cells c3.toArray t3)) (by simp)).keepsT (k _ (.cells c4.toArray t4)) (by simp)
    simpa only [World.size_alloc] using h
  · have h := ((Has.new ((w.alloc (.cells c0.toArray t0)).alloc (.cells c1.toArray t1)) t2 c2).keepsT (k _ (.cells c3.toArray t3)) (by simp)).keepsT (k _ (.cells c4.toArray t4)) (by simp)
    simpa only [World.size_alloc] using h
  · have h := (Has.new (((w.alloc (.cells c0.toArray t0)).alloc (.cells c1.toArray t1)).alloc (.cells c2.toArray t2)) t3 c3).keepsT (k _ (.cells c4.toArray t4)) (by simp)
    simpa only [World.size_alloc] using h
  · have h := Has.new ((((w.alloc (.cells c0.toArray t0)).alloc (.cells c1.toArray t1)).alloc (.cells c2.toArray t2)).alloc (.cells c3.toArray t3)) t4 c4
    simpa only [World.size_alloc] using h
  · repeat (first | exact Below.refl _ _ | refine Below.alloc ?_ (by simp; try omega) _)

set_option maxRecDepth 100000 in
set_option maxHeartbeats 4000000 in
theorem low_in (l : List Ev) (v : Value) (m0 m1 m2 m3 m4 m5 m6 m7 see : Nat) (hms : ∀ j, [m0, m1, m2, m3, m4, m5, m6, m7].getD j 0 < M64) (hse : see < M64) (hlb : l.length * 40 ≤ 140737488355328) (w : World) (hv : EvsAt w v l) :
    CallsIn Fence.wide 3 Tryd.prog 11 #[v, .agg #[.int .u64 (m0 : Int), .int .u64 (m1 : Int), .int .u64 (m2 : Int), .int .u64 (m3 : Int), .int .u64 (m4 : Int), .int .u64 (m5 : Int), .int .u64 (m6 : Int), .int .u64 (m7 : Int)], .int .u64 (see : Int)] w
      fun e W' => ∃ u, e = .returned u ∧ W'.ownsRow w.heap.size 38 4 u (visL [m0, m1, m2, m3, m4, m5, m6, m7] see l).length (rowV (visL [m0, m1, m2, m3, m4, m5, m6, m7] see l)) ∧ Below w.heap.size w W' := by
  obtain ⟨i0, hi, hz0, hz1, hz2⟩ := info_parts infoEv
  obtain ⟨av, cw, rfl⟩ := hv.shape
  have hll := hv.len
  have HV := Lib.hid (fun (W : World) (hb : Below w.heap.size w W) => hv.below hb)
  clear hv
  have HSe := fun (n : Nat) (W : World) => seen_in n av l.length cw [m0, m1, m2, m3, m4, m5, m6, m7] see W
  simp only [masksV, List.map_cons, List.map_nil] at HSe
  refine callsIn_of_wp_marks Tryd.func11 rfl trivial ?_ rfl
  simp only [Tryd.ntmps11, List.size_toArray, List.length_cons, List.length_nil, Nat.reduceAdd, Nat.reduceSub, Array.replicate_succ, Array.replicate_zero, List.push_toArray, List.append_toArray, List.nil_append, List.cons_append]
  gi_wp2_with (refine ⟨trivial, ?_⟩; gi_at_call 19; refine (HSe _ _).mono ?_; rintro e w' ⟨rfl, rfl⟩)
  obtain ⟨hL, hP, hM, hE, hB5⟩ := five_blocks w [.int .u64 (m0 : Int), .int .u64 (m1 : Int), .int .u64 (m2 : Int), .int .u64 (m3 : Int), .int .u64 (m4 : Int), .int .u64 (m5 : Int), .int .u64 (m6 : Int), .int .u64 (m7 : Int)] [.slice none 0 0] [.slice av l.length cw] [.int .u64 (m0 : Int), .int .u64 (m1 : Int), .int .u64 (m2 : Int), .int .u64 (m3 : Int), .int .u64 (m4 : Int), .int .u64 (m5 : Int), .int .u64 (m6 : Int), .int .u64 (m7 : Int)] [.int .u64 (see : Int)]
    25 22 22 25 24 _ rfl
  change Code.wpIn _ _ _ _ _ _ (World.alloc (World.alloc (World.alloc (World.alloc (World.alloc w _) _) _) _) _)
  generalize World.alloc (World.alloc (World.alloc (World.alloc (World.alloc w _) _) _) _) _ = W5 at hL hP hM hE hB5 ⊢
  have hN5 := hE.lt
  have hsz5 : w.heap.size ≤ W5.heap.size := hB5.size
  refine wpIn_rangeFunc_ownH rfl (by omega) (gf := 29) (lb := #[.pointer (some ⟨w.heap.size + 1 + 1, 0, none⟩), .pointer (some ⟨w.heap.size + 1 + 1 + 1, 0, none⟩), .pointer (some ⟨w.heap.size + 1 + 1 + 1 + 1, 0, none⟩)]) rfl trivial (enters_of Tryd.func29 (by kernel_rfl) rfl)
    (seen_stops 2 (by omega) [m0, m1, m2, m3, m4, m5, m6, m7] rfl see l av cw _ _ _ w.heap.size hll hms hse W5 hsz5 hP hM hE (fun W' hb => HV.out W' (hB5.trans hb))) (fun h k => h.trans k) (fun W lo o o' h1 h2 h3 h4 => KpD.put W lo o o' (belowK_b hsz5 W lo o o' h1 h2 h3 h4) h2 h3) (Below.refl _ _) (fun _ => rfl)
    (fun pre W => (∃ v, Boxed W (w.heap.size + 1) 22 v ∧ W.ownsRow w.heap.size 38 4 v pre.length (rowV pre) ∧ True) ∧ Below w.heap.size w W)
    (fun _ _ _ => False)
    (OwnFrom.and (Own.from (holdsRow_own w.heap.size (w.heap.size + 1) 22 38 4 (fun pre => pre.length) (fun pre => rowV pre) (fun _ _ => True)) _) (ownFrom_below (Nat.le_refl _) hsz5))
    (fun _ _ _ _ _ hs _ _ => hs)
    ⟨⟨_, hL, World.ownsRow_nil _ _ _ _, trivial⟩, hB5⟩
    (fun x a' W => ∃ g, Has W g 38 x.cells ∧ a' = { tmps := #[.slice av l.length cw, .agg #[.int .u64 (m0 : Int), .int .u64 (m1 : Int), .int .u64 (m2 : Int), .int .u64 (m3 : Int), .int .u64 (m4 : Int), .int .u64 (m5 : Int), .int .u64 (m6 : Int), .int .u64 (m7 : Int)], .int .u64 (see : Int), undef, .pointer (some ⟨w.heap.size, 0, none⟩), undef,
      .slice none 0 0, .pointer (some ⟨w.heap.size + 1, 0, none⟩), .pointer (some ⟨g, 0, none⟩), .slice av l.length cw, .agg #[.int .u64 (m0 : Int), .int .u64 (m1 : Int), .int .u64 (m2 : Int), .int .u64 (m3 : Int), .int .u64 (m4 : Int), .int .u64 (m5 : Int), .int .u64 (m6 : Int), .int .u64 (m7 : Int)], .int .u64 (see : Int),
      .func (.func 29) #[] #[.pointer (some ⟨w.heap.size + 1 + 1, 0, none⟩), .pointer (some ⟨w.heap.size + 1 + 1 + 1, 0, none⟩), .pointer (some ⟨w.heap.size + 1 + 1 + 1 + 1, 0, none⟩)], x.agg, undef, undef, undef, undef, undef], defers := [] }) ?hAx ?assign ?body ?done ?stop
  case hAx =>
    intro x a'
    refine Own.from ?_ _
    rintro s X Y row ⟨g, hg, e⟩ hgr hrow
    refine ⟨g, (hgr.block g hg.lt fun e' => ?_).trans hg, e⟩
    obtain ⟨o, ho, hc⟩ := hrow g e'.symm
    rw [show X.heap[g]? = _ from hg] at ho
    cases ho
    cases hc
  case assign =>
    rintro lo pre ⟨x0, x1, x2, x3⟩ W K ⟨⟨v, hv, hrow, -⟩, hB⟩ hK
    simp only [Ev.agg, Ev.cells] at hK ⊢
    gi_wp2
    exact hK _ _ ((KeepsOthers.alloc W _).from _) ((KpD.refl _ _).alloc hB.size _) ⟨⟨v, hv.alloc _, hrow.alloc _, trivial⟩, hB.alloc hB.size _⟩ ⟨_, Has.new W _ [.int .i64 x0, .int .i64 x1, .int .i64 x2, .string x3], rfl⟩
  case body =>
    rintro lo pre ⟨x0, x1, x2, x3⟩ a' W hlo hloop ⟨⟨v, hv, hrow, -⟩, hB⟩ ⟨g, hg, rfl⟩ hlt
    simp only [Ev.agg, Ev.cells] at hg ⊢
    have hc := hv.cell
    have g0 := hg.cell 0
    have g1 := hg.cell 1
    have g2 := hg.cell 2
    have g3 := hg.cell 3
    have hgl := hg.lt
    simp at g0 g1 g2 g3
    have hHv : Has W (w.heap.size + 1) 22 [v] := hv
    have hrw := own_row hrow
    gi_wp2_with (gi_at_builtin; refine wpListIn_append_own _ rfl _ _ 22 rfl w.heap.size 38 i0 (.agg #[.int .i64 0, .int .i64 0, .int .i64 0, .string ⟨#[]⟩]) 4 40 Tryd.underlying22 hi hz0 hz1 hz2 rfl (by decide) _ _ _ rfl (hrow.alloc _) ⟨W.heap.size, 0, none⟩ 1 1 [.int .i64 x0, .int .i64 x1, .int .i64 x2, .string x3] rfl rfl (fun j u h => new_cells W 38 _ j u h) (by simp [Value.oneCell']) (by unfold maxLen; omega) (by omega) (by have := hB.size; simp; omega) ?_; intro v' w1 hown' hgrow _; obtain ⟨g', cap', rfl⟩ := ownsRow_succ hown'; obtain ⟨hv1, hv2, hr2, hk2, hb2⟩ := hv.appended (by decide) hrow hB.size (by omega) hown' hgrow; have hc1 := hv1.cell; have hf1 := hv1.frozen)
    have hKT := ((KeepsT.refl [22, 38] W).alloc _).grown hgrow (fun g hg => .inr (by
      obtain ⟨cs, h⟩ := hrw g hg
      exact ⟨_, cs, h.keepsT ((KeepsT.refl [] W).alloc _) (by simp), by simp⟩))
    have hKT2 := hKT.set (show Has w1 (w.heap.size + 1) 22 [v] from hv1) (.inl (by simp)) 0 (.slice (some ⟨g', 0, none⟩) (pre.length + 1) cap')
    exact ⟨hk2.from _, KpD.ofT hb2 hKT2, ⟨_, hv2, by simpa [rowV_snoc, Ev.cells] using hr2, trivial⟩, hB.trans hb2⟩
  case done =>
    rintro D ys W hD rfl ⟨⟨v, hv, hrow, -⟩, hB⟩ hK
    have hc := hv.cell
    gi_wp2
    refine ⟨by simp, .inl ⟨_, _, rfl, run_takeDeferred hK, ?_⟩⟩
    exact ⟨_, results_tmp rfl _ _ _, v, rfl, ownsRow_putObj hrow _ hK rfl, hB.trans (belowK_b (w := w) (Nat.le_refl _) W D _ _ (Nat.le_trans hsz5 hD) hK rfl rfl)⟩
  case stop =>
    rintro D c pre W _ _ h _
    exact h.elim
end TraceD
end Go.Proofs.YticgpfigjkgfaaaDoor
