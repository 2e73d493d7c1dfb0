/- The walk of ValueDoes. -/
import Derived.Test.YtajcglhmononnaaValOrders
import Derived.Test.YtajcglhmononnaaVal13
namespace Go.Proofs.Ytajcglhmononnaa
open Go.RowKit ObjM
namespace ValD
open NumM LabelM LabelD NumD

set_option maxRecDepth 100000 in
set_option maxHeartbeats 4000000 in
theorem valueDoes_any (op : Int) (a b : V) (hal : a.l < M64) (hbl : b.l < M64) (has : a.s.size ≤ 9223372036854775807) (hbs : b.s.size ≤ 9223372036854775807) (w : World) :
    Calls Try.prog 3 #[.int .i64 op, a.agg, b.agg] w fun e w' => e = .returned (.bool true) ∧ Below w.heap.size w w' := by
  have HA := fun W => Lib.hid (awake_any W)
  have HS := fun W n hA => Lib.hid (small2_any a b has hbs W n hA)
  have HBX := fun w1 hb1 => Lib.hid (both_boxes (w := w) (w1 := w1) (a := a) (b := b) hb1)
  cases hsz : (decide (a.s.size ≤ 1000) && decide (b.s.size ≤ 1000))
  · simp only [hsz] at HS
    clear hsz has hbs hal hbl
    obtain ⟨ak, an, sa, al⟩ := a
    obtain ⟨bk, bn, sb, bl⟩ := b
    simp only [V.agg, V.cells] at *
    simp only [List.cons_append, List.nil_append] at HS
    go_enter Try.func3, Try.ntmps3
    go_wp2_with fail
    with_reducible refine ((HA _).out).mono ?_
    rintro e w1 ⟨rfl, hb1⟩
    have HF := HBX w1 hb1
    have B0 := Lib.hid (alloc2.trans (hb1.mono (by simp; omega)))
    obtain ⟨⟨c0, c1, c2, c3⟩, ⟨d0, d1, d2, d3⟩, hlt, hm⟩ := HF.out w1 (Below.refl _ _)
    have hS := HS _ _ (Has.new w1 25 _)
    clear hb1
    go_wp2_with fail
    with_reducible refine (hS.out).mono ?_
    rintro e w2 ⟨rfl, hb⟩
    have B2 : Hid (Below w1.heap.size w1 w2) := Lib.hid (alloc1.trans (hb.mono (by simp)))
    go_wp2
    go_ret
    exact ⟨rfl, B0.out.trans (B2.out.mono B0.out.size)⟩
  · have hs1 : a.s.size ≤ 1000 := by
      simp only [Bool.and_eq_true, decide_eq_true_eq] at hsz
      exact hsz.1
    have hs2 : b.s.size ≤ 1000 := by
      simp only [Bool.and_eq_true, decide_eq_true_eq] at hsz
      exact hsz.2
    have HD := fun W => Lib.hid (vdo_any op a b hal hbl hs1 hs2 W)
    have HR := fun W => Lib.hid (refvDo_any op a b hal hbl hs1 hs2 W)
    simp only [hsz] at HS
    clear hsz has hbs hal hbl hs1 hs2
    obtain ⟨⟨rk, rn, rs, rl⟩, hr⟩ : ∃ r, doA op a b = r := ⟨_, rfl⟩
    obtain ⟨why, hy⟩ : ∃ r, doW op a b = r := ⟨_, rfl⟩
    simp only [hr, hy] at HR HD
    clear hr hy
    obtain ⟨ak, an, sa, al⟩ := a
    obtain ⟨bk, bn, sb, bl⟩ := b
    simp only [V.agg, V.cells] at *
    simp only [List.cons_append, List.nil_append] at HS
    go_enter Try.func3, Try.ntmps3
    go_wp2_with fail
    with_reducible refine ((HA _).out).mono ?_
    rintro e w1 ⟨rfl, hb1⟩
    have HF := HBX w1 hb1
    have B0 := Lib.hid (alloc2.trans (hb1.mono (by simp; omega)))
    obtain ⟨⟨c0, c1, c2, c3⟩, ⟨d0, d1, d2, d3⟩, hlt, hm⟩ := HF.out w1 (Below.refl _ _)
    have hS := HS _ _ (Has.new w1 25 _)
    clear hb1
    go_wp2_with fail
    with_reducible refine (hS.out).mono ?_
    rintro e w2 ⟨rfl, hb⟩
    have B2 : Hid (Below w1.heap.size w1 w2) := Lib.hid (alloc1.trans (hb.mono (by simp)))
    clear hb hS c0 c1 c2 c3 d0 d1 d2 d3 hlt hm
    obtain ⟨⟨c0, c1, c2, c3⟩, ⟨d0, d1, d2, d3⟩, hlt, hm⟩ := HF.out w2 B2.out
    go_wp2_with fail
    with_reducible refine ((HD _).out).mono ?_
    rintro e w3 ⟨rfl, hb⟩
    have B3 : Hid (Below w1.heap.size w1 w3) := Lib.hid (B2.out.trans (hb.mono B2.out.size))
    clear hb c0 c1 c2 c3 d0 d1 d2 d3 hlt hm
    obtain ⟨⟨c0, c1, c2, c3⟩, ⟨d0, d1, d2, d3⟩, hlt, hm⟩ := HF.out w3 B3.out
    go_wp2_with fail
    with_reducible refine ((HR _).out).mono ?_
    rintro e w4 ⟨rfl, hb⟩
    have hX := (Has.new w3 25 [.int .i64 rk, .int .i64 rn, .string rs, .int .u64 (rl : Int)]).below hb (by simp)
    have B4 : Hid (Below w1.heap.size w1 w4) := Lib.hid (B3.out.trans ((alloc1.trans (hb.mono (by simp))).mono B3.out.size))
    have x0 := hX.cell 0
    have x1 := hX.cell 1
    have x2 := hX.cell 2
    have x3 := hX.cell 3
    have xl := hX.lt
    simp at x0 x1 x2 x3
    clear hb c0 c1 c2 c3 d0 d1 d2 d3 hlt hm hX
    go_wp2
    go_ret
    exact ⟨by first | rfl | (simp; done), B0.out.trans ((B4.out.alloc B4.out.size _).mono B0.out.size)⟩

theorem valueDoes_u {r : Reach} {b0 : Nat} (op : Int) (v1 v2 : Value) (w : World) (h1 : Value.okWide Try.prog w r b0 25 v1) (h2 : Value.okWide Try.prog w r b0 25 v2) :
    Calls Try.prog 3 #[.int .i64 op, v1, v2] w fun e w' => e = .returned (.bool true) ∧ Below w.heap.size w w' := by
  obtain ⟨a, rfl, hal, has, -⟩ := open_val h1
  obtain ⟨b, rfl, hbl, hbs, -⟩ := open_val h2
  exact valueDoes_any op a b hal hbl has hbs w
end ValD
end Go.Proofs.Ytajcglhmononnaa
