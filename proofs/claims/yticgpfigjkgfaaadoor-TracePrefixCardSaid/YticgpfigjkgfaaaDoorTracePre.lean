/- The walk of TracePrefix. -/
import Derived.Test.YticgpfigjkgfaaaDoorTraceBeg
namespace Go.Proofs.YticgpfigjkgfaaaDoor
open Go.RowKit Go.WideShapes Go.ChangeShapes Go.Deep ObjM
namespace TraceD
open LabelM LabelD NumD

theorem flows_more {a b : Nat} (c : Nat) (h : flowsB a b = true) : flowsB a (b ||| c) = true := by
  rw [flows_iff] at h ⊢
  intro i hi
  rw [Nat.testBit_or, h i hi]
  rfl
theorem visL_app (ms : List Nat) (see : Nat) (l m : List Ev) : visL ms see (l ++ m) = visL ms see l ++ visL ms see m := by simp [visL]
theorem visL_le (ms : List Nat) (see : Nat) (l : List Ev) : (visL ms see l).length ≤ l.length := List.length_filter_le _ _
theorem visL_more (ms : List Nat) (see more : Nat) (l : List Ev) : visL ms see (visL ms (see ||| more) l) = visL ms see l := by
  unfold visL
  rw [List.filter_filter]
  congr 1
  funext e
  cases h : visB ms see e
  · simp
  · unfold visB at h ⊢
    simp only [Bool.and_eq_true] at h
    obtain ⟨⟨h0, h8⟩, hf⟩ := h
    rw [h0, h8, flows_more more hf]
    rfl

set_option maxRecDepth 100000 in
set_option maxHeartbeats 4000000 in
theorem tracePrefix_any (l m : List Ev) (v u : Value) (m0 m1 m2 m3 m4 m5 m6 m7 see more : Nat) (hms : ∀ j, [m0, m1, m2, m3, m4, m5, m6, m7].getD j 0 < M64) (hse : see < M64) (hmo : more < M64) (hs : ∀ e ∈ l, e.s.size ≤ 140737488355328) (ht : ∀ e ∈ m, e.s.size ≤ 140737488355328) (w : World) (hv : EvsAt w v l) (hu : EvsAt w u m) (hT : Tab w) :
    Calls Tryd.prog 7 #[v, u, .agg #[.int .u64 (m0 : Int), .int .u64 (m1 : Int), .int .u64 (m2 : Int), .int .u64 (m3 : Int), .int .u64 (m4 : Int), .int .u64 (m5 : Int), .int .u64 (m6 : Int), .int .u64 (m7 : Int)], .int .u64 (see : Int), .int .u64 (more : Int)] w
      fun e w' => e = .returned (.bool true) ∧ Below w.heap.size w w' := by
  have hor := u64_or_nat see more hse hmo
  have hsm : see ||| more < M64 := or_lt hse hmo
  have hA1 : ∀ o : Go.Obj, Below w.heap.size w (w.alloc o) := fun o => (Below.refl _ w).alloc (Nat.le_refl _) o
  have HA := fun o => Lib.hid (awake_any (w.alloc o) (hT.below (hA1 o)))
  have HFa := fun (W : World) (hb : Below w.heap.size w W) => Lib.hid (few_any l v hs W (hv.below hb))
  have HFb := fun (W : World) (hb : Below w.heap.size w W) => Lib.hid (few_any m u ht W (hu.below hb))
  have HL := fun (l' : List Ev) (q : Value) (s' : Nat) (hs' : s' < M64) (hl' : l'.length * 40 ≤ 140737488355328) (W : World) (hq : EvsAt W q l') => Lib.hid (low_any l' q m0 m1 m2 m3 m4 m5 m6 m7 s' hms hs' hl' W hq)
  have HV := Lib.hid (fun (W : World) (hb : Below w.heap.size w W) => hv.below hb)
  have HU := Lib.hid (fun (W : World) (hb : Below w.heap.size w W) => hu.below hb)
  have hfa := fewFrom_len l 0 (by omega)
  have hfb := fewFrom_len m 0 (by omega)
  obtain ⟨av, cv, rfl⟩ := hv.shape
  obtain ⟨au, cu, rfl⟩ := hu.shape
  clear hs ht hT hv hu hms hmo
  cases hf : fewFrom 0 l
  · rw [hf] at HFa
    clear hf hfa hfb hor
    go_enter Tryd.func7, Tryd.ntmps7
    go_wp2_with fail
    with_reducible refine ((HA _).out).mono ?_
    rintro e w1 ⟨rfl, hb1⟩
    have q1 := (hA1 _).trans (hb1.mono (by simp))
    clear hb1
    go_wp2_with fail
    refine ((HFa _ q1).out).mono ?_
    rintro e w2 ⟨rfl, hb2⟩
    have q2 := q1.trans (hb2.mono q1.size)
    go_wp2
    go_ret
    exact ⟨rfl, q2⟩
  · have hla := hfa hf
    rw [hf] at HFa
    clear hf hfa
    cases hf : fewFrom 0 m
    · rw [hf] at HFb
      clear hf hfb hor
      go_enter Tryd.func7, Tryd.ntmps7
      go_wp2_with fail
      with_reducible refine ((HA _).out).mono ?_
      rintro e w1 ⟨rfl, hb1⟩
      have q1 := (hA1 _).trans (hb1.mono (by simp))
      clear hb1
      go_wp2_with fail
      refine ((HFa _ q1).out).mono ?_
      rintro e w2 ⟨rfl, hb2⟩
      have q2 := q1.trans (hb2.mono q1.size)
      clear hb2
      go_wp2_with fail
      refine ((HFb _ q2).out).mono ?_
      rintro e w3 ⟨rfl, hb3⟩
      have q3 := q2.trans (hb3.mono q2.size)
      go_wp2
      go_ret
      exact ⟨rfl, q3⟩
    · have hlb := hfb hf
      rw [hf] at HFb
      clear hf hfb
      have hlen : (l ++ m).length * 40 ≤ 140737488355328 := by rw [List.length_append]; omega
      obtain ⟨sm, hsmE⟩ : ∃ sm, see ||| more = sm := ⟨_, rfl⟩
      have HX := fun (q : Value) (W : World) hq => HL l q see hse (by omega) W hq
      have HY := fun (q : Value) (W : World) hq => HL (l ++ m) q see hse hlen W hq
      have HZ := fun (q : Value) (W : World) hq => HL (l ++ m) q sm (hsmE ▸ hsm) hlen W hq
      have HZ2 := fun (q : Value) (W : World) hq => HL (visL [m0, m1, m2, m3, m4, m5, m6, m7] sm (l ++ m)) q see hse (Nat.le_trans (Nat.mul_le_mul_right 40 (visL_le _ _ _)) hlen) W hq
      rw [← hsmE, visL_more, hsmE] at HZ2
      rw [hsmE] at hor
      have HBg := fun (q1 q2 : Value) (W : World) h1 h2 => Lib.hid (begins_any (visL [m0, m1, m2, m3, m4, m5, m6, m7] see l) (visL [m0, m1, m2, m3, m4, m5, m6, m7] see (l ++ m)) q1 q2 W h1 h2)
      rw [visL_app, beginsB_append, ← visL_app] at HBg
      have HSm := fun (q1 q2 : Value) (W : World) h1 h2 => Lib.hid (same_self (visL [m0, m1, m2, m3, m4, m5, m6, m7] see (l ++ m)) q1 q2 W h1 h2 (beginsB_self _))
      clear HL hse hsm hsmE
      obtain ⟨X, hX⟩ : ∃ x, visL [m0, m1, m2, m3, m4, m5, m6, m7] see l = x := ⟨_, rfl⟩
      obtain ⟨Y, hY⟩ : ∃ x, visL [m0, m1, m2, m3, m4, m5, m6, m7] see (l ++ m) = x := ⟨_, rfl⟩
      obtain ⟨Z, hZ⟩ : ∃ x, visL [m0, m1, m2, m3, m4, m5, m6, m7] sm (l ++ m) = x := ⟨_, rfl⟩
      simp only [hX, hY, hZ] at HX HY HZ HZ2 HBg HSm
      clear hX hY hZ
      go_enter Tryd.func7, Tryd.ntmps7
      go_wp2_with fail
      with_reducible refine ((HA _).out).mono ?_
      rintro e w1 ⟨rfl, hb1⟩
      have hbx := (Has.new w 25 [.int .u64 (m0 : Int), .int .u64 (m1 : Int), .int .u64 (m2 : Int), .int .u64 (m3 : Int), .int .u64 (m4 : Int), .int .u64 (m5 : Int), .int .u64 (m6 : Int), .int .u64 (m7 : Int)]).below hb1 (by simp)
      have q1 := (hA1 _).trans (hb1.mono (by simp))
      clear hb1 HA hA1
      go_wp2_with fail
      refine ((HFa _ q1).out).mono ?_
      rintro e w2 ⟨rfl, hb2⟩
      have hbx2 := hbx.below hb2 hbx.lt
      have q2 := q1.trans (hb2.mono q1.size)
      clear hb2 q1 hbx
      go_wp2_with fail
      refine ((HFb _ q2).out).mono ?_
      rintro e w5 ⟨rfl, hb3⟩
      have hbx5 := hbx2.below hb3 hbx2.lt
      have q5 := Lib.hid (q2.trans (hb3.mono q2.size))
      clear hb3 q2 hbx2 HFa HFb
      obtain ⟨t1, w6, hr1, ho1, hb6⟩ := append_evs w5 w5.heap.size (Nat.le_refl _) (.slice none 0 0) [] (World.ownsRow_nil _ _ _ _) _ l (HV.out _ q5.out) (by simp; omega)
      rw [List.nil_append] at ho1
      have q6 := Lib.hid (q5.out.trans (hb6.mono q5.out.size))
      obtain ⟨t2, w7, hr2, ho2, hb7⟩ := append_evs w6 w5.heap.size hb6.size t1 l ho1 _ m (HU.out _ q6.out) (by rw [List.length_append] at hlen; exact hlen)
      have q7 := Lib.hid (q6.out.trans (hb7.mono q5.out.size))
      have hbx7 := (hbx5.below hb6 hbx5.lt).below hb7 hbx5.lt
      have E7 := Lib.hid (evs_of_own ho2)
      have V7 := Lib.hid (HV.out _ q7.out)
      have HR1 := Lib.hid hr1
      have HR2 := Lib.hid hr2
      clear hr1 ho1 hb6 hr2 ho2 hb7 hbx5 q6 HV HU
      go_wp2_with (first
        | (at_builtin; refine wpList_append_run (by rfl) (.const (.slice none 0 0)) (.tmp 25) 22 rfl _ _ _ _ rfl rfl HR1.out ?_)
        | (at_builtin; refine wpList_append_run (by rfl) (.tmp 26) (.tmp 27) 22 rfl _ _ _ _ rfl rfl HR2.out ?_))
      have HG : Hid (∀ W', Below w7.heap.size w7 W' → W'.cell? ⟨w.heap.size, 0, none⟩ = some (.int .u64 (m0 : Int)) ∧ W'.cell? ⟨w.heap.size, 1, none⟩ = some (.int .u64 (m1 : Int)) ∧ W'.cell? ⟨w.heap.size, 2, none⟩ = some (.int .u64 (m2 : Int)) ∧ W'.cell? ⟨w.heap.size, 3, none⟩ = some (.int .u64 (m3 : Int)) ∧ W'.cell? ⟨w.heap.size, 4, none⟩ = some (.int .u64 (m4 : Int)) ∧ W'.cell? ⟨w.heap.size, 5, none⟩ = some (.int .u64 (m5 : Int)) ∧ W'.cell? ⟨w.heap.size, 6, none⟩ = some (.int .u64 (m6 : Int)) ∧ W'.cell? ⟨w.heap.size, 7, none⟩ = some (.int .u64 (m7 : Int))) := Lib.hid (fun W' hb => by
        have p := hbx7.below hb hbx7.lt
        exact ⟨p.cell 0, p.cell 1, p.cell 2, p.cell 3, p.cell 4, p.cell 5, p.cell 6, p.cell 7⟩)
      have s0 := HG.out w7 (Below.refl _ _)
      obtain ⟨a0, a1, a2, a3, a4, a5, a6, a7⟩ := HG.out w7 (Below.refl _ _)
      clear hbx7 HR1 HR2 q5
      go_region_held3 (fun W' => W'.cell? ⟨w.heap.size, 0, none⟩ = some (.int .u64 (m0 : Int)) ∧ W'.cell? ⟨w.heap.size, 1, none⟩ = some (.int .u64 (m1 : Int)) ∧ W'.cell? ⟨w.heap.size, 2, none⟩ = some (.int .u64 (m2 : Int)) ∧ W'.cell? ⟨w.heap.size, 3, none⟩ = some (.int .u64 (m3 : Int)) ∧ W'.cell? ⟨w.heap.size, 4, none⟩ = some (.int .u64 (m4 : Int)) ∧ W'.cell? ⟨w.heap.size, 5, none⟩ = some (.int .u64 (m5 : Int)) ∧ W'.cell? ⟨w.heap.size, 6, none⟩ = some (.int .u64 (m6 : Int)) ∧ W'.cell? ⟨w.heap.size, 7, none⟩ = some (.int .u64 (m7 : Int))) (first | assumption | go_keep)
        (first
          | (go_at_call_of 11 t2
             go_at_call_of 11 sm
             refine ((HZ _ _ (E7.out.below p2)).out).mono ?_
             rintro e x3 ⟨u3, rfl, hu3, hb⟩
             have p3 : Below w7.heap.size w7 x3 := p2.trans (hb.mono p2.size)
             have s3 := HG.out x3 p3
             have Z3 := Lib.hid (evs_of_own hu3)
             have Y3 := Lib.hid (Y2.out.below hb)
             have X3 := Lib.hid (X2.out.below hb)
             clear hb hu3)
          | (go_at_call_of 11 t2
             refine ((HY _ _ (E7.out.below p1)).out).mono ?_
             rintro e x2 ⟨u2, rfl, hu2, hb⟩
             have p2 : Below w7.heap.size w7 x2 := p1.trans (hb.mono p1.size)
             have s2 := HG.out x2 p2
             have Y2 := Lib.hid (evs_of_own hu2)
             have X2 := Lib.hid (X1.out.below hb)
             clear hb hu2)
          | (go_at_call 11
             refine ((HX _ _ (V7.out.below ((Below.refl _ _).drew))).out).mono ?_
             rintro e x1 ⟨u1, rfl, hu1, hb⟩
             have p1 : Below w7.heap.size w7 x1 := ((Below.refl _ _).drew).trans (hb.mono (by simp))
             have s1 := HG.out x1 p1
             have X1 := Lib.hid (evs_of_own hu1)
             clear hb hu1))
      all_goals
        have BW := Lib.hid (fun (W' : World) (hb : Below w7.heap.size w7 W') => q7.out.trans (hb.mono q7.out.size))
        clear a0 a1 a2 a3 a4 a5 a6 a7 s0
        obtain ⟨b0, b1, b2, b3, b4, b5, b6, b7⟩ := HG.out x3 p3
        go_wp2_with fail
        refine ((HBg _ _ _ X3.out Y3.out).out).mono ?_
        rintro e x4 ⟨rfl, hb⟩
        have p4 : Below w7.heap.size w7 x4 := p3.trans (hb.mono p3.size)
        have Z4 := Lib.hid (Z3.out.below hb)
        have Y4 := Lib.hid (Y3.out.below hb)
        clear b0 b1 b2 b3 b4 b5 b6 b7 hb
        obtain ⟨b0, b1, b2, b3, b4, b5, b6, b7⟩ := HG.out x4 p4
        go_wp2_with fail
        refine ((HZ2 _ _ Z4.out).out).mono ?_
        rintro e x5 ⟨u4, rfl, hu4, hb⟩
        have p5 : Below w7.heap.size w7 x5 := p4.trans (hb.mono p4.size)
        have Y5 := Lib.hid (Y4.out.below hb)
        have U5 := Lib.hid (evs_of_own hu4)
        clear hb hu4
        go_wp2_with fail
        refine ((HSm _ _ _ U5.out Y5.out).out).mono ?_
        rintro e x6 ⟨rfl, hb⟩
        have p6 : Below w7.heap.size w7 x6 := p5.trans (hb.mono p5.size)
        go_wp2
        go_ret
        exact ⟨by first | rfl | (simp; done), BW.out _ p6⟩
section
variable {H : Type} {enc : TypeId × Value → H}
theorem tracePrefix_u {r : Reach} {b0 : Nat} {d d' : DataW H} {ps ps' : List MemPlace} {sp : Nat → Bool} (v u v2 : Value) (x y : Int) (w : World) (g0 : Value.okWide Tryd.prog w r b0 22 v) (h0 : DataW.Trod enc Tryd.prog w 0 sp true 22 v d ps)
    (hw : ∀ n ∈ d.weights Tryd.prog 22, n ≤ reachBytes) (g1 : Value.okWide Tryd.prog w r b0 22 u) (h1 : DataW.Trod enc Tryd.prog w 0 sp true 22 u d' ps')
    (hw1 : ∀ n ∈ d'.weights Tryd.prog 22, n ≤ reachBytes) (g2 : Value.okWide Tryd.prog w r b0 25 v2) (hx : 0 ≤ x ∧ x ≤ 18446744073709551615) (hy : 0 ≤ y ∧ y ≤ 18446744073709551615) (hT : Tab w) :
    Calls Tryd.prog 7 #[v, u, v2, .int .u64 x, .int .u64 y] w fun e w' => e = .returned (.bool true) ∧ Below w.heap.size w w' := by
  obtain ⟨l, hv, -, hs⟩ := open_evs g0 h0 hw
  obtain ⟨m, hu, -, ht⟩ := open_evs g1 h1 hw1
  obtain ⟨m0, m1, m2, m3, m4, m5, m6, m7, rfl, hms⟩ := open_masks g2
  obtain ⟨n, rfl⟩ : ∃ n : Nat, x = n := ⟨x.toNat, by omega⟩
  obtain ⟨k, rfl⟩ : ∃ n : Nat, y = n := ⟨y.toNat, by omega⟩
  exact tracePrefix_any l m v u m0 m1 m2 m3 m4 m5 m6 m7 n k hms (by unfold M64; omega) (by unfold M64; omega) (fun e he => (hs e he).1) (fun e he => (ht e he).1) w hv hu hT
end
end TraceD
end Go.Proofs.YticgpfigjkgfaaaDoor
