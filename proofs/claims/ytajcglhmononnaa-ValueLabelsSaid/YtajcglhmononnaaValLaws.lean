/- The walk of ValueChecks. -/
import Derived.Test.YtajcglhmononnaaValAwake
import Derived.Test.YtajcglhmononnaaValSmall
namespace Go.Proofs.Ytajcglhmononnaa
open Go.RowKit ObjM
namespace ValD
open NumM LabelM LabelD NumD

set_option maxRecDepth 100000 in
set_option maxHeartbeats 2000000 in
theorem valueChecks_any (a : V) (hs : a.s.size ≤ 9223372036854775807) (w : World) :
    Calls Try.prog 5 #[a.agg] w fun e w' => e = .returned (.bool true) ∧ Below w.heap.size w w' := by
  have HA := fun W => Lib.hid (awake_any W)
  have HS := fun W n hA => Lib.hid (small1_any a hs W n hA)
  have HC := fun W => Lib.hid (check_any a W)
  have HR := fun W => Lib.hid (refCheck_any a W)
  obtain ⟨cb, hcb⟩ : ∃ cb, checkB a = cb := ⟨_, rfl⟩
  rw [hcb] at HC HR
  clear hcb
  obtain ⟨ak, an, sa, al⟩ := a
  simp only [V.agg, V.cells] at HS HC HR ⊢
  obtain ⟨sb, hsb⟩ : ∃ sb, decide (sa.size ≤ 1000) = sb := ⟨_, rfl⟩
  simp only [hsb] at HS
  clear hsb hs
  cases sb
  all_goals
    go_enter Try.func5, Try.ntmps5
    go_wp2_with fail
    with_reducible refine ((HA _).out).mono ?_
    rintro e w1 ⟨rfl, hb1⟩
    have hX := (Has.new w 25 [.int .i64 ak, .int .i64 an, .string sa, .int .u64 (al : Int)]).below hb1 (by simp)
    have hB0 := alloc1.trans (hb1.mono (by simp))
    clear hb1
    have HF : Hid (∀ W', Below w1.heap.size w1 W' → (W'.cell? ⟨w.heap.size, 0, none⟩ = some (.int .i64 ak) ∧ W'.cell? ⟨w.heap.size, 1, none⟩ = some (.int .i64 an) ∧ W'.cell? ⟨w.heap.size, 2, none⟩ = some (.string sa) ∧ W'.cell? ⟨w.heap.size, 3, none⟩ = some (.int .u64 (al : Int))) ∧ w1.heap.size ≤ W'.heap.size) := Lib.hid (fun W' hb => by
      have p := hX.below hb hX.lt
      exact ⟨⟨p.cell 0, p.cell 1, p.cell 2, p.cell 3⟩, hb.size⟩)
    obtain ⟨⟨c0, c1, c2, c3⟩, -⟩ := HF.out w1 (Below.refl _ _)
    have hlt := hX.lt
    have HB0 := Lib.hid hB0
    clear hX hB0
    go_wp2
    go_region_with
      (first
        | (go_at_call 9
           with_reducible refine ((HS _ _ ((Has.new w1 _ [.int .i64 ak, .int .i64 an, .string sa, .int .u64 (al : Int)]).drew)).out).mono ?_
           rintro e w2 ⟨rfl, hb2⟩
           have hB2 : Below w1.heap.size w1 w2 := (alloc1.drew).trans (hb2.mono (by simp))
           clear hb2
           obtain ⟨⟨d0, d1, d2, d3⟩, hz2⟩ := HF.out w2 hB2)
        | (go_at_call 20
           with_reducible refine ((HC _).out).mono ?_
           rintro e w3 ⟨rfl, hb3⟩
           have hB3 : Below w1.heap.size w1 w3 := hB2.trans (hb3.mono hB2.size)
           clear hb3
           obtain ⟨⟨g0, g1, g2, g3⟩, hz3⟩ := HF.out w3 hB3)
        | (go_at_call 21
           with_reducible refine ((HR _).out).mono ?_
           rintro e w4 ⟨rfl, hb4⟩
           have hB4 : Below w1.heap.size w1 w4 := hB3.trans (hb4.mono hB3.size)
           clear hb4))
    all_goals
      go_wp2
      go_ret
      first
        | exact ⟨by first | rfl | (simp; done) | (simp [Act.put]; done), HB0.out.trans (hB4.mono (HB0.out.size))⟩
        | exact ⟨by first | rfl | (simp; done) | (simp [Act.put]; done), HB0.out.trans (hB2.mono (HB0.out.size))⟩
theorem valueChecks_u {r : Reach} {b0 : Nat} (v : Value) (w : World) (h : Value.okWide Try.prog w r b0 25 v) :
    Calls Try.prog 5 #[v] w fun e w' => e = .returned (.bool true) ∧ Below w.heap.size w w' := by
  obtain ⟨a, rfl, -, hs, -⟩ := open_val h
  exact valueChecks_any a hs w
end ValD
end Go.Proofs.Ytajcglhmononnaa
