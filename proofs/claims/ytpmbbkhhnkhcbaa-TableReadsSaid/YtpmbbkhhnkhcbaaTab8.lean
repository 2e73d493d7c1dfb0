/- A table that is not there. -/
import Derived.Test.YtpmbbkhhnkhcbaaTab7
import Derived.RangeFuncBox
import Derived.RangeFuncLeaves
import Derived.RangeFuncCalls
import Derived.OwnWalkIn
import Derived.TacticsInMore
import Derived.LoopNIn
import Derived.LoopIn
import Derived.Maps.AppendAt
import Derived.Stop.RegionWithIn
import Derived.RangeFuncNested
import Derived.Shelf.Abstract
namespace Go.Proofs.Ytpmbbkhhnkhcbaa
open Go.RowKit ObjM Go.Maps
namespace TabD
open LabelM LabelD ValD
attribute [local go_sem] Oper.semAt_some

set_option maxHeartbeats 1000000 in
theorem each_in (n : Nat) (q : Option Addr) (w : World) :
    CallsIn Fence.wide n Try.prog 25 #[.pointer q] w fun e w' => e = .returned (.func (.func 43) #[] #[.pointer (some ⟨w.heap.size, 0, none⟩)]) ∧ w' = w.alloc (.cells #[.pointer q] 27) := by
  refine callsIn_of_wp Try.func25 rfl trivial ?_ rfl
  simp only [Try.ntmps25, List.size_toArray, List.length_cons, List.length_nil, Nat.reduceAdd, Nat.reduceSub, Array.replicate_succ, Array.replicate_zero, List.push_toArray, List.append_toArray, List.nil_append, List.cons_append]
  gi_wp2
  go_ret
  exact ⟨rfl, rfl⟩

set_option maxRecDepth 100000 in
set_option maxHeartbeats 2000000 in
theorem each1_nil (n : Nat) (hn : 1 ≤ n) (P : Nat) (lb : Nat) (J Jx : List Fd → World → Prop) (W : World) (p0 : W.cell? ⟨P, 0, none⟩ = some (.pointer none)) (hlt : P < W.heap.size) (h0 : J [] W) :
    CallsIn Fence.wide n Try.prog 43 #[.func (.yield lb) #[] #[], .pointer (some ⟨P, 0, none⟩)] W fun e W' => (∃ v, e = .returned v) ∧
      ((∃ ys, ys = [] ∧ J ys W') ∨ (∃ pre, pre <+: [] ∧ Jx pre W')) := by
  have HL := fun W => Lib.hid (tlen_nil W)
  have hlw := id hlt
  clear hlt
  refine callsIn_of_wp Try.func43 rfl trivial ?_ rfl
  simp only [Try.ntmps43, List.size_toArray, List.length_cons, List.length_nil, Nat.reduceAdd, Nat.reduceSub, Array.replicate_succ, Array.replicate_zero, List.push_toArray, List.append_toArray, List.nil_append, List.cons_append]
  gi_wp2_with (refine ⟨trivial, ?_⟩; refine (callsIn_wide.2 (HL _).out).mono ?_; rintro e w5 ⟨rfl, hw⟩; subst hw)
  gi_loopw [6] (fun i wr => i = .int .i64 0 ∧ J [] wr) (fun _ _ => 0)
  case atStart => exact ⟨rfl, h0⟩
  case round =>
    obtain ⟨rfl, hJ⟩ := hrel
    gi_wp2
    go_end0
    first
      | exact ⟨⟨_, rfl⟩, .inl ⟨_, rfl, hJ⟩⟩
      | exact ⟨⟨_, rfl⟩, .inl hJ⟩

theorem each_stops_nil (n : Nat) (hn : 1 ≤ n) (P n₀ : Nat) (w : World) (hP : Has w P 27 [.pointer none]) :
    SeqStopsK Fence.wide n Try.prog 43 #[.pointer (some ⟨P, 0, none⟩)] (fun x : Fd => #[.agg (fcells x.1 x.2).toArray]) (Below n₀) (fun ys => ys = []) (fun pre => pre <+: []) 0 w := fun lb J Jx W hW hJ _ hY h0 => by
  exact each1_nil n hn P lb J Jx W ((hP.below hW hP.lt).cell 0) (hP.below hW hP.lt).lt h0

theorem two_blocks (w : World) (c0 c1 : List Value) (t0 t1 : TypeId) (W : World) (hW : W = ((w.alloc (.cells c0.toArray t0)).alloc (.cells c1.toArray t1))) :
    Has W w.heap.size t0 c0 ∧ Has W (w.heap.size + 1) t1 c1 ∧ Below w.heap.size w W := by
  subst hW
  refine ⟨(Has.new w t0 c0).keepsT ((KeepsT.refl [] _).alloc _) (by simp), ?_, ((Below.refl _ w).alloc (Nat.le_refl _) _).alloc (by simp) _⟩
  have h := Has.new (w.alloc (.cells c0.toArray t0)) t1 c1
  simpa only [World.size_alloc] using h

set_option maxRecDepth 100000 in
set_option maxHeartbeats 4000000 in
theorem fields_nil_in (w : World) :
    CallsIn Fence.wide 3 Try.prog 11 #[.pointer none] w
      fun e W' => ∃ av cap, e = .returned (.slice av 0 cap) ∧ Below w.heap.size w W' := by
  have HE := fun (n : Nat) (W : World) => each_in n none W
  refine callsIn_of_wp_marks Try.func11 rfl trivial ?_ rfl
  simp only [Try.ntmps11, List.size_toArray, List.length_cons, List.length_nil, Nat.reduceAdd, Nat.reduceSub, Array.replicate_succ, Array.replicate_zero, List.push_toArray, List.append_toArray, List.nil_append, List.cons_append]
  gi_wp2_with (refine ⟨trivial, ?_⟩; gi_at_call 25; refine (HE _ _).mono ?_; rintro e w' ⟨rfl, rfl⟩)
  obtain ⟨hL, hP, hB5⟩ := two_blocks w [.slice none 0 0] [.pointer none] 30 27 _ rfl
  change Code.wpIn _ _ _ _ _ _ (World.alloc (World.alloc w _) _)
  generalize World.alloc (World.alloc w _) _ = W5 at hL hP hB5 ⊢
  have hN5 := hP.lt
  have hsz5 : w.heap.size ≤ W5.heap.size := hB5.size
  refine wpIn_rangeFunc_ownH rfl (by omega) (gf := 43) (lb := #[.pointer (some ⟨w.heap.size + 1, 0, none⟩)]) rfl trivial (enters_of Try.func43 (by kernel_rfl) rfl)
    (each_stops_nil 2 (by omega) _ w.heap.size W5 hP) (fun h k => h.trans k) (fun W lo o o' h1 h2 h3 h4 => (belowK_b hsz5 W lo o o' h1 h2 h3 h4)) (Below.refl _ _) (fun _ => rfl)
    (fun pre W => (∃ v, Boxed W w.heap.size 30 v ∧ W.ownsRow w.heap.size 42 8 v 0 [] ∧ True) ∧ Below w.heap.size w W)
    (fun _ _ _ => False)
    (OwnFrom.and (Own.from (holdsRow_own w.heap.size w.heap.size 30 42 8 (fun _ => 0) (fun _ => []) (fun _ _ => True)) _) (ownFrom_below (Nat.le_refl _) hsz5))
    (fun _ _ _ _ _ hs _ _ => hs)
    ⟨⟨_, hL, World.ownsRow_nil _ _ _ _, trivial⟩, hB5⟩
    (fun x a' W => True) ?hAx ?assign ?body ?done ?stop
  case hAx =>
    intro x a'
    refine Own.from ?_ _
    rintro s X Y row _ hgr hrow
    trivial
  case assign =>
    rintro lo pre ⟨⟨x0, x1, x2, x3⟩, ⟨x4, x5, x6, x7⟩⟩ W K ⟨⟨v, hv, hrow, -⟩, hB⟩ hK
    simp only [fcells, V.cells] at hK ⊢
    gi_wp2
    exact hK _ _ ((KeepsOthers.alloc W _).from _) ((Below.refl _ _).alloc hB.size _) ⟨⟨v, hv.alloc _, hrow.alloc _, trivial⟩, hB.alloc hB.size _⟩ trivial
  case body =>
    rintro lo pre x a' W hlo hloop h1 h2 hlt
    exact absurd hlt (by simp)
  case done =>
    rintro D ys W hD rfl ⟨⟨v, hv, hrow, -⟩, hB⟩ hK
    have hc := hv.cell
    obtain ⟨av, cap, rfl⟩ := own_slice hrow
    gi_wp2
    refine ⟨by simp, .inl ⟨_, _, rfl, run_takeDeferred hK, ?_⟩⟩
    exact ⟨_, results_tmp rfl _ _ _, av, cap, rfl, hB.trans (belowK_b (w := w) (Nat.le_refl _) W D _ _ (Nat.le_trans hsz5 hD) hK rfl rfl)⟩
  case stop =>
    rintro D c pre W _ _ h _
    exact h.elim
theorem fields_nil (w : World) : Calls Try.prog 11 #[.pointer none] w fun e W' => ∃ av cap, e = .returned (.slice av 0 cap) ∧ Below w.heap.size w W' :=
  callsIn_wide.1 (fields_nil_in w)

set_option maxRecDepth 100000 in
set_option maxHeartbeats 1000000 in
theorem stamps_nil (w : World) : Calls Try.prog 12 #[.pointer none] w fun e w' => e = .returned (.slice none 0 0) ∧ w = w' := by
  go_enter Try.func12, Try.ntmps12
  go_wp2
  exact bodyPost_ret (v := .slice none 0 0) (by simp [results, Try.results12, go_sem]) rfl ⟨rfl, rfl⟩
set_option maxRecDepth 100000 in
set_option maxHeartbeats 1000000 in
theorem stamp_nil (v : Value) (hv : ∃ av n cap, v = .slice av n cap) (w : World) : Calls Try.prog 20 #[.pointer none, v] w fun e w' => e = .returned (.bool false) ∧ w = w' := by
  obtain ⟨av, n, cap, rfl⟩ := hv
  go_enter Try.func20, Try.ntmps20
  go_wp2
  exact bodyPost_ret (v := .bool false) (by simp [results, Try.results20, go_sem]) rfl ⟨rfl, rfl⟩
def KeyNo (w : World) (e : Ending) (w' : World) : Prop := e = .returned (.tuple #[.agg #[.int .i64 0, .int .i64 0, .string ⟨#[]⟩, .int .u64 0], .bool false]) ∧ Below w.heap.size w w'
set_option maxRecDepth 100000 in
set_option maxHeartbeats 1000000 in
theorem key_nil (n : Int) (w : World) : Calls Try.prog 19 #[.pointer none, .int .i64 n] w (KeyNo w) := by
  have HL := fun W => Lib.hid (tlen_nil W)
  have hA := (Below.refl w.heap.size w).alloc (Nat.le_refl _) (.cells #[.int .i64 0, .int .i64 0, .string ⟨#[]⟩, .int .u64 0] 35)
  have HA := Lib.hid hA
  clear hA
  by_cases h1 : n < 1
  · go_enter Try.func19, Try.ntmps19
    go_wp2
    exact bodyPost_ret (v := .tuple #[.agg #[.int .i64 0, .int .i64 0, .string ⟨#[]⟩, .int .u64 0], .bool false]) (by simp [results, Try.results19, go_sem]) rfl ⟨rfl, HA.out⟩
  · have h2 : (0 : Int) < n := by omega
    go_enter Try.func19, Try.ntmps19
    go_wp2_with fail
    refine ((HL _).out).mono ?_
    rintro e w1 ⟨rfl, hw⟩
    subst hw
    go_wp2
    exact bodyPost_ret (v := .tuple #[.agg #[.int .i64 0, .int .i64 0, .string ⟨#[]⟩, .int .u64 0], .bool false]) (by simp [results, Try.results19, go_sem]) rfl ⟨rfl, HA.out⟩

def SomeB (w : World) (e : Ending) (w' : World) : Prop := (∃ b, e = .returned (.bool b)) ∧ Below w.heap.size w w'
set_option maxRecDepth 100000 in
set_option maxHeartbeats 2000000 in
theorem few_one (P : Nat) (d nn : Int) (c : Int) (k x : V) (av : Option Addr) (n cap : Nat) (w : World) (h : Has w P 37 [.int .i64 d, .int .u64 c, .int .i64 k.k, .int .i64 k.n, .string k.s, .int .u64 (k.l : Int), .int .i64 x.k, .int .i64 x.n, .string x.s, .int .u64 (x.l : Int), .int .i64 nn, .slice av n cap]) :
    Calls Try.prog 9 #[.slice (some ⟨P, 0, none⟩) 1 1] w (SomeB w) := by
  have H := Lib.hid (fun (W : World) (hb : Below w.heap.size w W) => h.below hb h.lt)
  clear h
  obtain ⟨kk, kn, ks, kl⟩ := k
  obtain ⟨xk, xn, xs, xl⟩ := x
  simp only at H
  obtain ⟨m, hm, hm0, hm1⟩ : ∃ m, IntKind.i64.wrap (10 + (n : Int)) = m ∧ -9223372036854775808 ≤ m ∧ m ≤ 9223372036854775807 := by
    refine ⟨_, rfl, ?_, ?_⟩ <;> simp [IntKind.wrap, IntKind.bits, IntKind.signed] <;> omega
  go_enter Try.func9, Try.ntmps9
  go_wp2
  go_loopw [3, 8] (fun nv i wr => ((nv = .int .i64 0 ∧ i = .int .i64 0) ∨ (i = .int .i64 1 ∧ ∃ m, nv = .int .i64 m)) ∧ Hid (Below w.heap.size w wr)) (fun _ i _ => 1 - (intOf i).toNat)
  case atStart => exact ⟨.inl ⟨rfl, rfl⟩, Lib.hid (Below.refl _ _)⟩
  case round =>
    obtain ⟨⟨rfl, rfl⟩ | ⟨rfl, m2, rfl⟩, HB⟩ := hrel
    · have hh := H.out _ HB.out
      have c0 := hh.cell 0
      have c1 := hh.cell 1
      have c2 := hh.cell 2
      have c3 := hh.cell 3
      have c4 := hh.cell 4
      have c5 := hh.cell 5
      have c6 := hh.cell 6
      have c7 := hh.cell 7
      have c8 := hh.cell 8
      have c9 := hh.cell 9
      have c10 := hh.cell 10
      have c11 := hh.cell 11
      have hl := hh.lt
      simp at c0 c1 c2 c3 c4 c5 c6 c7 c8 c9 c10 c11
      have HB2 := Lib.hid (HB.out.alloc HB.out.size (.cells #[.int .i64 d, .int .u64 c, .int .i64 kk, .int .i64 kn, .string ks, .int .u64 (kl : Int), .int .i64 xk, .int .i64 xn, .string xs, .int .u64 (xl : Int), .int .i64 nn, .slice av n cap] 37))
      clear hh H HB
      by_cases h1 : (200 : Int) < ks.size
      · go_wp2
        refine bodyPost_ret (v := .bool false) (by simp [results, Try.results9, go_sem]) rfl ⟨⟨_, rfl⟩, HB2.out⟩
      · by_cases h2 : (200 : Int) < xs.size
        · go_wp2
          refine bodyPost_ret (v := .bool false) (by simp [results, Try.results9, go_sem]) rfl ⟨⟨_, rfl⟩, HB2.out⟩
        · by_cases h3 : (2000 : Int) < m
          · go_wp2
            refine bodyPost_ret (v := .bool false) (by simp [results, Try.results9, go_sem]) rfl ⟨⟨_, rfl⟩, HB2.out⟩
          · go_wp2
            go_roundw
            case rel => exact ⟨.inr ⟨by go_num, _, rfl⟩, HB2⟩
            case measure => simp [intOf]
    · go_wp2
      refine bodyPost_ret (v := .bool true) (by simp [results, Try.results9, go_sem]) rfl ⟨⟨_, rfl⟩, HB.out⟩
end TabD
end Go.Proofs.Ytpmbbkhhnkhcbaa
