/- The walk of ValueLabels. -/
import Derived.Test.YtajcglhmononnaaValOrders
import Derived.Test.YtajcglhmononnaaVal13
import Derived.Test.YtajcglhmononnaaValJoin
namespace Go.Proofs.Ytajcglhmononnaa
open Go.RowKit ObjM Shell
namespace ValD
open NumM LabelM LabelD NumD

theorem take_join {ns : List Nat} {k : Nat} (h : k < ns.length) : joinL (ns.take (k + 1)) = joinL (ns.take k) ||| ns[k] := by rw [List.take_succ_eq_append_getElem h, joinL_snoc]

set_option maxRecDepth 100000 in
set_option maxHeartbeats 8000000 in
theorem valueLabels_any (op : Int) (a b : V) (ns : List Nat) (hn : ∀ x ∈ ns, x < M64) (hal : a.l < M64) (hbl : b.l < M64) (has : a.s.size ≤ 9223372036854775807) (hbs : b.s.size ≤ 9223372036854775807) (v : Value) (w : World) (hv : IntsAt w .u64 v (natsI ns)) :
    Calls Try.prog 6 #[.int .i64 op, a.agg, b.agg, v] w fun e w' => e = .returned (.bool true) ∧ Below w.heap.size w w' := by
  have HA := fun W => Lib.hid (awake_any W)
  have HS := fun W n hA => Lib.hid (small2_any a b has hbs W n hA)
  have HBX := fun w1 hb1 => Lib.hid (both_boxes (w := w) (w1 := w1) (a := a) (b := b) hb1)
  have hl := hv.len
  rw [natsI_len] at hl
  obtain ⟨av, cw, rfl⟩ := slice_of hv
  have HV := Lib.hid (fun (W : World) (hb : Below w.heap.size w W) => hv.below hb (Nat.le_refl _))
  have HN := Lib.hid hn
  clear hv hn
  by_cases hgo : (decide (a.s.size ≤ 1000) && decide (b.s.size ≤ 1000)) = true ∧ ns.length ≤ 100
  · obtain ⟨hsz, hlen⟩ := hgo
    have hs1 : a.s.size ≤ 1000 := by
      simp only [Bool.and_eq_true, decide_eq_true_eq] at hsz
      exact hsz.1
    have hs2 : b.s.size ≤ 1000 := by
      simp only [Bool.and_eq_true, decide_eq_true_eq] at hsz
      exact hsz.2
    have HD := fun W => Lib.hid (vdo_any op a b hal hbl hs1 hs2 W)
    have HJ := fun W => Lib.hid (refJoin_any a.l b.l hal hbl W)
    have HW := fun (W : World) (hb : Below w.heap.size w W) => Lib.hid (with_any a (.slice av ns.length cw) (joinL ns) hal (joinL_lt _ HN.out) W (fun W' hb' => join_at HN.out W' (HV.out W' (hb.trans (hb'.mono hb.size)))))
    have HL1 := fun (A : Nat) (hA : A < M64) (x : Nat) (hx : x < M64) (W : World) => Lib.hid (refWith_any ⟨a.k, a.n, a.s, A⟩ x hA hx W)
    have HK := Lib.hid (fun k => (or_lt hal (joinL_lt (ns.take k) fun x hx => HN.out x (List.mem_of_mem_take hx)) : (a.l ||| joinL (ns.take k)) < M64))
    have HCell := Lib.hid (fun (W : World) (hb : Below w.heap.size w W) k hk => cell_of (HV.out W hb) k hk)
    have hll := doA_l op a b
    simp only [hsz] at HS
    clear hsz has hbs hs1 hs2 HV
    obtain ⟨⟨rk, rn, rs, rl⟩, hr⟩ : ∃ r, doA op a b = r := ⟨_, rfl⟩
    obtain ⟨why, hy⟩ : ∃ r, doW op a b = r := ⟨_, rfl⟩
    simp only [hr, hy] at HD hll
    clear hr hy
    subst hll
    obtain ⟨ak, an, sa, al⟩ := a
    obtain ⟨bk, bn, sb, bl⟩ := b
    simp only [V.agg, V.cells, V.with] at *
    simp only [List.cons_append, List.nil_append] at HS
    clear hal hbl
    go_enter Try.func6, Try.ntmps6
    go_wp2_with fail
    with_reducible refine ((HA _).out).mono ?_
    rintro e w1 ⟨rfl, hb1⟩
    have HF := HBX w1 hb1
    have B0 := Lib.hid (alloc2.trans (hb1.mono (by simp; omega)))
    obtain ⟨⟨c0, c1, c2, c3⟩, ⟨d0, d1, d2, d3⟩, hlt, hm⟩ := HF.out w1 (Below.refl _ _)
    have hS := HS _ _ (Has.new w1 25 _)
    clear hb1
    go_wp2_with fail
    with_reducible refine (hS.out).mono ?_
    rintro e w2 ⟨rfl, hb⟩
    have B2 : Hid (Below w1.heap.size w1 w2) := Lib.hid (alloc1.trans (hb.mono (by simp)))
    clear hb hS c0 c1 c2 c3 d0 d1 d2 d3 hlt hm HA HS HBX
    obtain ⟨⟨c0, c1, c2, c3⟩, ⟨d0, d1, d2, d3⟩, hlt, hm⟩ := HF.out w2 B2.out
    have hlen2 : ¬ (100 : Int) < (ns.length : Int) := by omega
    go_wp2
    have hG := Has.new w2 25 [.int .i64 ak, .int .i64 an, .string sa, .int .u64 (al : Int)]
    have hG2 := Lib.hid hG
    have hB0 : Below w2.heap.size w2 (w2.alloc (.cells #[.int .i64 ak, .int .i64 an, .string sa, .int .u64 (al : Int)] 25)) := alloc1
    have hBG := Lib.hid hB0
    clear hG hB0 c0 c1 c2 c3 d0 d1 d2 d3 hlt hm
    go_loopw [29] (fun i wr => ∃ k : Nat, i = .int .i64 k ∧ k ≤ ns.length ∧ Has wr w2.heap.size 25 [.int .i64 ak, .int .i64 an, .string sa, .int .u64 ((al ||| joinL (ns.take k) : Nat) : Int)] ∧ Below w2.heap.size w2 wr) (fun i _ => ns.length - (intOf i).toNat)
    case atStart => exact ⟨0, rfl, by omega, by simpa [joinL] using hG2.out, hBG.out⟩
    case round =>
      obtain ⟨k, rfl, hk, hH, hB⟩ := hrel
      have hBw1 : Below w1.heap.size w1 wr := B2.out.trans (hB.mono B2.out.size)
      have hBw : Below w.heap.size w wr := B0.out.trans (hBw1.mono B0.out.size)
      have hGlt := hH.lt
      have g0 := hH.cell 0
      have g1 := hH.cell 1
      have g2 := hH.cell 2
      have g3 := hH.cell 3
      simp at g0 g1 g2 g3
      by_cases hlt : k < ns.length
      · obtain ⟨b, o, rfl, hcell⟩ := HCell.out wr hBw k hlt
        have hx64 := HN.out ns[k] (List.getElem_mem hlt)
        have HSn : Hid (al ||| joinL (ns.take (k + 1)) = (al ||| joinL (ns.take k)) ||| ns[k]) := Lib.hid (by rw [take_join hlt, Nat.or_assoc])
        have hA := HK.out k
        obtain ⟨A, hAe⟩ : ∃ A, al ||| joinL (ns.take k) = A := ⟨_, rfl⟩
        obtain ⟨x, hx⟩ : ∃ x, ns[k] = x := ⟨_, rfl⟩
        rw [hAe] at HSn hA hH g3
        rw [hx] at HSn hx64 hcell
        clear hAe hx
        have H1 := fun W => HL1 A hA x hx64 W
        have HH := Lib.hid hH
        have HB := Lib.hid hB
        have f0 := hH.frozen 0
        have f1 := hH.frozen 1
        have f2 := hH.frozen 2
        have f3 := hH.frozen 3
        clear hH hB hBw hBw1
        go_wp2_with fail
        with_reducible refine ((H1 _).out).mono ?_
        rintro e w5 ⟨rfl, hb5⟩
        have hH5 := HH.out.below hb5 hGlt
        have hB5 := Lib.hid (HB.out.trans (hb5.mono HB.out.size))
        have hG5 := hH5.lt
        clear g0 g1 g2 g3 f0 f1 f2 f3
        have g0 := hH5.cell 0
        have g1 := hH5.cell 1
        have g2 := hH5.cell 2
        have g3 := hH5.cell 3
        have f0 := hH5.frozen 0
        have f1 := hH5.frozen 1
        have f2 := hH5.frozen 2
        have f3 := hH5.frozen 3
        simp at g0 g1 g2 g3
        have HH5 := Lib.hid hH5
        clear hb5 hH5
        go_wp2
        go_roundw
        case rel =>
          refine ⟨k + 1, by go_num, by omega, ?_, ?_⟩
          · rw [HSn.out]
            exact (((HH5.out.set 0 _).set 1 _).set 2 _).set 3 _
          · exact (((hB5.out.setCell (Nat.le_refl _) _).setCell (Nat.le_refl _) _).setCell (Nat.le_refl _) _).setCell (Nat.le_refl _) _
        case measure => simp [intOf]; omega
      · obtain rfl : k = ns.length := by omega
        rw [List.take_length] at hH g3
        obtain ⟨J, hJ⟩ : ∃ J, al ||| joinL ns = J := ⟨_, rfl⟩
        simp only [hJ] at hH g3 HW
        clear hJ HL1 HCell
        have hBh := Lib.hid hBw
        have hBh1 := Lib.hid hBw1
        have HH := Lib.hid hH
        clear hB hBw hBw1 hH g0 g1 g2 g3
        obtain ⟨⟨c0, c1, c2, c3⟩, ⟨d0, d1, d2, d3⟩, hlt, hm⟩ := HF.out wr hBh1.out
        go_wp2_with fail
        with_reducible refine ((HD _).out).mono ?_
        rintro e w5 ⟨rfl, hb⟩
        have hX5 := (HH.out.below hb hGlt).keepsT ((KeepsT.refl [] w5).alloc (.cells #[.int .i64 rk, .int .i64 rn, .string rs, .int .u64 ((al ||| bl : Nat) : Int)] 25)) (by simp)
        have hY5 := Has.new w5 25 [.int .i64 rk, .int .i64 rn, .string rs, .int .u64 ((al ||| bl : Nat) : Int)]
        have B5 : Hid (Below w1.heap.size w1 (w5.alloc (.cells #[.int .i64 rk, .int .i64 rn, .string rs, .int .u64 ((al ||| bl : Nat) : Int)] 25))) := Lib.hid ((hBh1.out.trans (hb.mono hBh1.out.size)).alloc (hBh1.out.trans (hb.mono hBh1.out.size)).size _)
        clear hb c0 c1 c2 c3 d0 d1 d2 d3 hlt hm HH hGlt hBh hBh1 hG2 hBG B2
        go_wp2
        generalize World.alloc w5 (.cells #[.int .i64 rk, .int .i64 rn, .string rs, .int .u64 ((al ||| bl : Nat) : Int)] 25) = W0 at hX5 hY5 B5 ⊢
        generalize w5.heap.size = Y at hY5 ⊢
        generalize w2.heap.size = X at hX5 ⊢
        obtain ⟨ab, hab⟩ : ∃ ab, al ||| bl = ab := ⟨_, rfl⟩
        simp only [hab] at hY5 HJ ⊢
        clear hab
        have HG : Hid (∀ W', Below W0.heap.size W0 W' → (W'.cell? ⟨w.heap.size, 0, none⟩ = some (.int .i64 ak) ∧ W'.cell? ⟨w.heap.size, 1, none⟩ = some (.int .i64 an) ∧ W'.cell? ⟨w.heap.size, 2, none⟩ = some (.string sa) ∧ W'.cell? ⟨w.heap.size, 3, none⟩ = some (.int .u64 (al : Int))) ∧
          (W'.cell? ⟨w.heap.size + 1, 0, none⟩ = some (.int .i64 bk) ∧ W'.cell? ⟨w.heap.size + 1, 1, none⟩ = some (.int .i64 bn) ∧ W'.cell? ⟨w.heap.size + 1, 2, none⟩ = some (.string sb) ∧ W'.cell? ⟨w.heap.size + 1, 3, none⟩ = some (.int .u64 (bl : Int))) ∧
          (W'.cell? ⟨X, 0, none⟩ = some (.int .i64 ak) ∧ W'.cell? ⟨X, 1, none⟩ = some (.int .i64 an) ∧ W'.cell? ⟨X, 2, none⟩ = some (.string sa) ∧ W'.cell? ⟨X, 3, none⟩ = some (.int .u64 (J : Int))) ∧
          (W'.cell? ⟨Y, 0, none⟩ = some (.int .i64 rk) ∧ W'.cell? ⟨Y, 1, none⟩ = some (.int .i64 rn) ∧ W'.cell? ⟨Y, 2, none⟩ = some (.string rs) ∧ W'.cell? ⟨Y, 3, none⟩ = some (.int .u64 (ab : Int)))) := Lib.hid (fun W' hb => by
            obtain ⟨h1, h2, -⟩ := HF.out W' (B5.out.trans (hb.mono B5.out.size))
            have x := hX5.below hb hX5.lt
            have y := hY5.below hb hY5.lt
            exact ⟨h1, h2, ⟨x.cell 0, x.cell 1, x.cell 2, x.cell 3⟩, ⟨y.cell 0, y.cell 1, y.cell 2, y.cell 3⟩⟩)
        have s0 := HG.out W0 (Below.refl _ _)
        obtain ⟨⟨a0, a1, a2, a3⟩, ⟨b0, b1, b2, b3⟩, ⟨x0, x1, x2, x3⟩, ⟨y0, y1, y2, y3⟩⟩ := HG.out W0 (Below.refl _ _)
        have HB5 := B5
        have HW0 := fun (W : World) (hb : Below W0.heap.size W0 W) => HW W (B0.out.trans ((B5.out.trans (hb.mono B5.out.size)).mono B0.out.size))
        clear HF HD HW B5 hX5 hY5
        go_region_held3 (fun W' => (W'.cell? ⟨w.heap.size, 0, none⟩ = some (.int .i64 ak) ∧ W'.cell? ⟨w.heap.size, 1, none⟩ = some (.int .i64 an) ∧ W'.cell? ⟨w.heap.size, 2, none⟩ = some (.string sa) ∧ W'.cell? ⟨w.heap.size, 3, none⟩ = some (.int .u64 (al : Int))) ∧
          (W'.cell? ⟨w.heap.size + 1, 0, none⟩ = some (.int .i64 bk) ∧ W'.cell? ⟨w.heap.size + 1, 1, none⟩ = some (.int .i64 bn) ∧ W'.cell? ⟨w.heap.size + 1, 2, none⟩ = some (.string sb) ∧ W'.cell? ⟨w.heap.size + 1, 3, none⟩ = some (.int .u64 (bl : Int))) ∧
          (W'.cell? ⟨X, 0, none⟩ = some (.int .i64 ak) ∧ W'.cell? ⟨X, 1, none⟩ = some (.int .i64 an) ∧ W'.cell? ⟨X, 2, none⟩ = some (.string sa) ∧ W'.cell? ⟨X, 3, none⟩ = some (.int .u64 (J : Int))) ∧
          (W'.cell? ⟨Y, 0, none⟩ = some (.int .i64 rk) ∧ W'.cell? ⟨Y, 1, none⟩ = some (.int .i64 rn) ∧ W'.cell? ⟨Y, 2, none⟩ = some (.string rs) ∧ W'.cell? ⟨Y, 3, none⟩ = some (.int .u64 (ab : Int)))) (first | assumption | go_keep)
          (first
            | (go_at_call 23
               with_reducible refine ((HW0 _ ((Below.refl _ _).drew)).out).mono ?_
               rintro e v1 ⟨rfl, hb⟩
               have q1 : Below W0.heap.size W0 v1 := ((Below.refl _ _).drew).trans (hb.mono (by simp))
               have s1 := HG.out v1 q1
               clear hb)
            | (go_at_call 24
               with_reducible refine ((HJ _).out).mono ?_
               rintro e v2 ⟨rfl, hw⟩
               subst hw))
        all_goals
          go_wp2
          go_ret
          exact ⟨by first | rfl | (simp; done), B0.out.trans ((HB5.out.trans (q1.mono HB5.out.size)).mono B0.out.size)⟩
  · cases hsz : (decide (a.s.size ≤ 1000) && decide (b.s.size ≤ 1000))
    · simp only [hsz] at HS
      clear hsz hgo has hbs hal hbl HV HN
      obtain ⟨ak, an, sa, al⟩ := a
      obtain ⟨bk, bn, sb, bl⟩ := b
      simp only [V.agg, V.cells] at *
      simp only [List.cons_append, List.nil_append] at HS
      go_enter Try.func6, Try.ntmps6
      go_wp2_with fail
      with_reducible refine ((HA _).out).mono ?_
      rintro e w1 ⟨rfl, hb1⟩
      have HF := HBX w1 hb1
      have B0 := Lib.hid (alloc2.trans (hb1.mono (by simp; omega)))
      obtain ⟨⟨c0, c1, c2, c3⟩, ⟨d0, d1, d2, d3⟩, hlt, hm⟩ := HF.out w1 (Below.refl _ _)
      have hS := HS _ _ (Has.new w1 25 _)
      clear hb1
      go_wp2_with fail
      with_reducible refine (hS.out).mono ?_
      rintro e w2 ⟨rfl, hb⟩
      have B2 : Hid (Below w1.heap.size w1 w2) := Lib.hid (alloc1.trans (hb.mono (by simp)))
      go_wp2
      go_ret
      exact ⟨rfl, B0.out.trans (B2.out.mono B0.out.size)⟩
    · have hlen : ¬ ns.length ≤ 100 := fun h => hgo ⟨hsz, h⟩
      have hlen2 : (100 : Int) < (ns.length : Int) := by omega
      simp only [hsz] at HS
      clear hsz hgo has hbs hal hbl HV HN hlen
      obtain ⟨ak, an, sa, al⟩ := a
      obtain ⟨bk, bn, sb, bl⟩ := b
      simp only [V.agg, V.cells] at *
      simp only [List.cons_append, List.nil_append] at HS
      go_enter Try.func6, Try.ntmps6
      go_wp2_with fail
      with_reducible refine ((HA _).out).mono ?_
      rintro e w1 ⟨rfl, hb1⟩
      have HF := HBX w1 hb1
      have B0 := Lib.hid (alloc2.trans (hb1.mono (by simp; omega)))
      obtain ⟨⟨c0, c1, c2, c3⟩, ⟨d0, d1, d2, d3⟩, hlt, hm⟩ := HF.out w1 (Below.refl _ _)
      have hS := HS _ _ (Has.new w1 25 _)
      clear hb1
      go_wp2_with fail
      with_reducible refine (hS.out).mono ?_
      rintro e w2 ⟨rfl, hb⟩
      have B2 : Hid (Below w1.heap.size w1 w2) := Lib.hid (alloc1.trans (hb.mono (by simp)))
      go_wp2
      go_ret
      exact ⟨rfl, B0.out.trans (B2.out.mono B0.out.size)⟩

theorem valueLabels_u {r : Reach} {b0 : Nat} (op : Int) (v1 v2 v3 : Value) (zs : List Int) (w : World) (h1 : Value.okWide Try.prog w r b0 25 v1) (h2 : Value.okWide Try.prog w r b0 25 v2)
    (hv : IntsAt w .u64 v3 zs) (hz : ∀ n ∈ zs, (Lit.int .u64 n).wf = true) :
    Calls Try.prog 6 #[.int .i64 op, v1, v2, v3] w fun e w' => e = .returned (.bool true) ∧ Below w.heap.size w w' := by
  obtain ⟨a, rfl, hal, has, -⟩ := open_val h1
  obtain ⟨b, rfl, hbl, hbs, -⟩ := open_val h2
  obtain ⟨ns, rfl, hn⟩ := nats_of hz
  exact valueLabels_any op a b ns hn hal hbl has hbs v3 w hv
end ValD
end Go.Proofs.Ytajcglhmononnaa
