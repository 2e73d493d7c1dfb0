/- The walk of TraceBegins. -/
import Derived.Test.YticgpfigjkgfaaaDoorTraceLaws
import Derived.Deep.Upon
namespace Go.Proofs.YticgpfigjkgfaaaDoor
open Go.RowKit Go.WideShapes Go.ChangeShapes Go.Deep ObjM
namespace TraceD
open LabelM LabelD NumD

theorem wpList_append_run {P : Program} {ops : Array Oper} {o : Oper} {rest : List Oper} {a : Act} {w : World} {Q : Exit → Act → World → Prop} (hw : Region.wanted o (yielded ops a.tmps) = true)
    (s x : Operand) (t : TypeId) (hop : o.op = Op.call { callee := Callee.builtin Builtin.append, args := #[s, x], argTypes := #[t, t] }) (v' : Value) (w' : World) (v u : Value) (hs : a.eval s = v) (hx : a.eval x = u)
    (hrun : (Builtin.append_ #[t, t] o.type #[v, u]).run P w = .ok v' w') (hK : wpList P ops Q rest (a.put o.dst v') w') : wpList P ops Q (o :: rest) a w := by
  unfold wpList
  rw [if_pos hw]
  refine .inl ?_
  subst hs hx
  unfold Oper.wp
  simp [execOp, hop, resolve, invoke, builtin, hrun, Result.andThen]
  exact hK
theorem evs_cells {W : World} {b o cap : Nat} {l : List Ev} (h : EvsAt W (.slice (some ⟨b, o, none⟩) l.length cap) l) : ∀ j u, (rowV l)[j]? = some u → W.cell? ((⟨b, o, none⟩ : Addr).add j) = some u := by
  intro j u hj
  have hlt : j < l.length * 4 := by
    have := (List.getElem?_eq_some_iff.1 hj).1
    rwa [rowV_len] at this
  have hi : j / 4 < l.length := by omega
  obtain ⟨b', o', e, -, c0, c1, c2, c3⟩ := h.at (j / 4) hi
  injection e with e
  injection e with e1 e2 e3
  subst e1 e2
  have hr := rowV_at l (j / 4) l[j / 4] (List.getElem?_eq_getElem hi) (j % 4) (by omega)
  rw [show j / 4 * 4 + j % 4 = j by omega, hj] at hr
  rw [addr_add]
  have hm : j % 4 = 0 ∨ j % 4 = 1 ∨ j % 4 = 2 ∨ j % 4 = 3 := by omega
  rcases hm with hm | hm | hm | hm <;> rw [hm] at hr <;> simp [Ev.cells] at hr <;> subst hr
  · rw [show o + j = o + j / 4 * 4 by omega]; exact c0
  · rw [show o + j = o + j / 4 * 4 + 1 by omega]; exact c1
  · rw [show o + j = o + j / 4 * 4 + 2 by omega]; exact c2
  · rw [show o + j = o + j / 4 * 4 + 3 by omega]; exact c3
theorem rowV_one (l : List Ev) : ∀ u ∈ rowV l, u.oneCell' = true := by
  intro u hu
  obtain ⟨e, -, h⟩ := List.mem_flatMap.1 hu
  simp [Ev.cells] at h
  rcases h with rfl | rfl | rfl | rfl <;> simp [Value.oneCell']
theorem rowV_app (l m : List Ev) : rowV (l ++ m) = rowV l ++ rowV m := by simp [rowV]
theorem append_evs (W : World) (base : Nat) (hbase : base ≤ W.heap.size) (v : Value) (l : List Ev) (hown : W.ownsRow base 38 4 v l.length (rowV l)) (u : Value) (m : List Ev) (hu : EvsAt W u m) (hn : (l.length + m.length) * 40 ≤ 140737488355328) :
    ∃ v' W', (Builtin.append_ #[22, 22] 22 #[v, u]).run Tryd.prog W = .ok v' W' ∧ W'.ownsRow base 38 4 v' (l ++ m).length (rowV (l ++ m)) ∧ Below base W W' := by
  obtain ⟨i0, hi, hz0, hz1, hz2⟩ := info_parts infoEv
  have hlt := own_lt hown
  rcases hu with ⟨rfl, rfl⟩ | ⟨b, o, cap, rfl, h1, h2, h3, h4⟩
  · rw [List.append_nil]
    refine ⟨v, W, ?_, hown, Below.refl _ _⟩
    rcases own_shape hown with ⟨rfl, hn, -⟩ | ⟨g, cap, cs, rfl, -, hg, hc, hm, -, -⟩
    · simp [Builtin.append_, run_underlying Tryd.underlying22, sizeOf, typeInfo, hi, Builtin.lenOf, Builtin.firstCells]
    · simp [Builtin.append_, run_underlying Tryd.underlying22, sizeOf, typeInfo, hi, Builtin.lenOf, Builtin.firstCells, storeCells, hc]
  · have hE : EvsAt W (.slice (some ⟨b, o, none⟩) m.length cap) m := .inr ⟨b, o, cap, rfl, h1, h2, h3, h4⟩
    obtain ⟨v', W', hr, ho, hg, -⟩ := run_append_own W base 22 22 38 i0 (.agg #[.int .i64 0, .int .i64 0, .int .i64 0, .string ⟨#[]⟩]) 4 40 Tryd.underlying22 hi hz0 hz1 hz2 rfl (by decide) v l.length (rowV l) hown ⟨b, o, none⟩ m.length cap (rowV m)
      (rowV_len m) (evs_cells hE) (rowV_one m) (by unfold maxLen; omega) hn hbase
    refine ⟨v', W', hr, ?_, (Below.refl base W).grown hg hbase (fun g h => (hlt g h).1)⟩
    rw [rowV_app, List.length_append]
    exact ho

set_option maxRecDepth 100000 in
set_option maxHeartbeats 4000000 in
theorem traceBegins_any (l m : List Ev) (v u : Value) (hs : ∀ e ∈ l, e.s.size ≤ 140737488355328) (ht : ∀ e ∈ m, e.s.size ≤ 140737488355328) (w : World) (hv : EvsAt w v l) (hu : EvsAt w u m) (hT : Tab w) :
    Calls Tryd.prog 4 #[v, u] w fun e w' => e = .returned (.bool true) ∧ Below w.heap.size w w' := by
  have HA := Lib.hid (awake_any w hT)
  have HFa := fun (W : World) (hb : Below w.heap.size w W) => Lib.hid (few_any l v hs W (hv.below hb))
  have HFb := fun (W : World) (hb : Below w.heap.size w W) => Lib.hid (few_any m u ht W (hu.below hb))
  have HB := fun (W : World) (hb : Below w.heap.size w W) => Lib.hid (begins_any l m v u W (hv.below hb) (hu.below hb))
  have HR := fun (W : World) (hb : Below w.heap.size w W) => Lib.hid (refBegins_any l m v u W (hv.below hb) (hu.below hb))
  have HL := fun (W : World) (q : Value) (hb : Below w.heap.size w W) (hq : EvsAt W q (l ++ m)) => Lib.hid (begins_any l (l ++ m) v q W (hv.below hb) hq)
  rw [beginsB_append] at HL
  have HV := Lib.hid (fun (W : World) (hb : Below w.heap.size w W) => hv.below hb)
  have HU := Lib.hid (fun (W : World) (hb : Below w.heap.size w W) => hu.below hb)
  have hfa := fewFrom_len l 0 (by omega)
  have hfb := fewFrom_len m 0 (by omega)
  obtain ⟨av, cv, rfl⟩ := hv.shape
  obtain ⟨au, cu, rfl⟩ := hu.shape
  clear hs ht hT hv hu
  obtain ⟨R, hR⟩ : ∃ R, beginsB l m = R := ⟨_, rfl⟩
  rw [hR] at HB HR
  clear hR
  cases hf : fewFrom 0 l
  · rw [hf] at HFa
    clear hf hfa hfb
    go_enter Tryd.func4, Tryd.ntmps4
    go_wp2_with fail
    refine (HA.out).mono ?_
    rintro e w1 ⟨rfl, hb1⟩
    go_wp2_with fail
    refine ((HFa _ hb1).out).mono ?_
    rintro e w2 ⟨rfl, hb2⟩
    have q2 := hb1.trans (hb2.mono hb1.size)
    go_wp2
    go_ret
    exact ⟨rfl, q2⟩
  · have hla := hfa hf
    rw [hf] at HFa
    clear hf hfa
    cases hf : fewFrom 0 m
    · rw [hf] at HFb
      clear hf hfb
      go_enter Tryd.func4, Tryd.ntmps4
      go_wp2_with fail
      refine (HA.out).mono ?_
      rintro e w1 ⟨rfl, hb1⟩
      go_wp2_with fail
      refine ((HFa _ hb1).out).mono ?_
      rintro e w2 ⟨rfl, hb2⟩
      have q2 := hb1.trans (hb2.mono hb1.size)
      clear hb2
      go_wp2_with fail
      refine ((HFb _ q2).out).mono ?_
      rintro e w3 ⟨rfl, hb3⟩
      have q3 := q2.trans (hb3.mono q2.size)
      go_wp2
      go_ret
      exact ⟨rfl, q3⟩
    · have hlb := hfb hf
      rw [hf] at HFb
      clear hf hfb
      go_enter Tryd.func4, Tryd.ntmps4
      go_wp2_with fail
      refine (HA.out).mono ?_
      rintro e w1 ⟨rfl, hb1⟩
      go_wp2_with fail
      refine ((HFa _ hb1).out).mono ?_
      rintro e w2 ⟨rfl, hb2⟩
      have q2 := hb1.trans (hb2.mono hb1.size)
      clear hb2 hb1
      go_wp2_with fail
      refine ((HFb _ q2).out).mono ?_
      rintro e w3 ⟨rfl, hb3⟩
      have q3 := q2.trans (hb3.mono q2.size)
      clear hb3 q2
      go_wp2_with fail
      refine ((HB _ q3).out).mono ?_
      rintro e w4 ⟨rfl, hb4⟩
      have q4 := q3.trans (hb4.mono q3.size)
      clear hb4 q3
      go_wp2_with fail
      refine ((HR _ q4).out).mono ?_
      rintro e w5 ⟨rfl, hb5⟩
      have q5 := Lib.hid (q4.trans (hb5.mono q4.size))
      clear hb5 q4
      obtain ⟨t1, w6, hr1, ho1, hb6⟩ := append_evs w5 w.heap.size q5.out.size (.slice none 0 0) [] (World.ownsRow_nil _ _ _ _) _ l (HV.out _ q5.out) (by simp; omega)
      rw [List.nil_append] at ho1
      have q6 := Lib.hid (q5.out.trans hb6)
      obtain ⟨t2, w7, hr2, ho2, hb7⟩ := append_evs w6 w.heap.size q6.out.size t1 l ho1 _ m (HU.out _ q6.out) (by omega)
      have q7 := Lib.hid (q6.out.trans hb7)
      have HL2 := HL w7 t2 q7.out (evs_of_own ho2)
      have HR1 := Lib.hid hr1
      have HR2 := Lib.hid hr2
      clear hr1 ho1 hb6 hr2 ho2 hb7
      go_wp2_with (first
        | (at_builtin; refine wpList_append_run (by rfl) (.const (.slice none 0 0)) (.tmp 24) 22 rfl _ _ _ _ rfl rfl HR1.out ?_)
        | (at_builtin; refine wpList_append_run (by rfl) (.tmp 25) (.tmp 26) 22 rfl _ _ _ _ rfl rfl HR2.out ?_))
      refine (HL2.out).mono ?_
      rintro e w8 ⟨rfl, hb8⟩
      go_wp2
      go_ret
      exact ⟨by first | rfl | (simp; done), q7.out.trans (hb8.mono q7.out.size)⟩
section
variable {H : Type} {enc : TypeId × Value → H}
theorem traceBegins_u {r : Reach} {b0 : Nat} {d d' : DataW H} {ps ps' : List MemPlace} {sp : Nat → Bool} (v u : Value) (w : World) (g0 : Value.okWide Tryd.prog w r b0 22 v) (h0 : DataW.Trod enc Tryd.prog w 0 sp true 22 v d ps)
    (hw : ∀ n ∈ d.weights Tryd.prog 22, n ≤ reachBytes) (g1 : Value.okWide Tryd.prog w r b0 22 u) (h1 : DataW.Trod enc Tryd.prog w 0 sp true 22 u d' ps')
    (hw1 : ∀ n ∈ d'.weights Tryd.prog 22, n ≤ reachBytes) (hT : Tab w) :
    Calls Tryd.prog 4 #[v, u] w fun e w' => e = .returned (.bool true) ∧ Below w.heap.size w w' := by
  obtain ⟨l, hv, -, hs⟩ := open_evs g0 h0 hw
  obtain ⟨m, hu, -, ht⟩ := open_evs g1 h1 hw1
  exact traceBegins_any l m v u (fun e he => (hs e he).1) (fun e he => (ht e he).1) w hv hu hT
end
end TraceD
end Go.Proofs.YticgpfigjkgfaaaDoor
