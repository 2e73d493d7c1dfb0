/- TreeDeep and TreeSame. -/
import Derived.Test.YtakdmlaecidjaaaGreatDoorTreeTabs
namespace Go.Proofs.YtakdmlaecidjaaaGreatDoor
open Go.RowKit ObjM
namespace TreeD

theorem deep_tabs {W : World} (h : laidMetH Tryz.prog Rows.treeDeepRow.laid W) (hs : W.ShapedOpen Tryz.prog) : Tb W := tb_of h hs
theorem same_tabs {W : World} (h : laidMetH Tryz.prog Rows.treeSameRow.laid W) (hs : W.ShapedOpen Tryz.prog) : Tb W := tb_of h hs
theorem few_len : ∀ (l : List Nd), 4 * l.length ≤ fewN l
  | [] => Nat.le_refl _
  | n :: r => by
    have := few_len r
    simp only [fewN, List.map_cons, List.sum_cons, List.length_cons, ndN] at *
    omega
theorem few_short {l : List Nd} (h : fewB l = true) : l.length ≤ 100000 := by
  have h1 := few_len l
  have h2 : fewN l ≤ 20000 := of_decide_eq_true h
  omega
set_option maxRecDepth 100000 in
set_option maxHeartbeats 4000000 in
theorem treeDeep_u (l : List Nd) (v : Value) (w : World) (hv : NdsAt w v l) (hok : ∀ n ∈ l, NdOk n) (hlen : l.length ≤ 9223372036854775807) (hT : Tb w) :
    Calls Tryz.prog 3 #[v] w fun e w' => e = .returned (.bool true) ∧ Below w.heap.size w w' := by
  have HA := Lib.hid (awake_any w hT)
  have HV := Lib.hid (fun (W : World) (hb : Below w.heap.size w W) => hv.below (Nat.le_refl _) hb)
  have HK := Lib.hid hok
  obtain ⟨av, cv, rfl⟩ := hv.shape
  clear hv hok hT
  go_enter Tryz.func3, Tryz.ntmps3
  go_wp2_with fail
  refine (HA.out).mono ?_
  rintro e w1 ⟨rfl, hb1⟩
  have HB1 := Lib.hid hb1
  have HF := Lib.hid (few_any l _ w1 (HV.out _ hb1) HK.out hlen)
  clear hb1 HA
  go_wp2_with fail
  refine (HF.out).mono ?_
  rintro e w2 ⟨rfl, hb2⟩
  have HB2 := Lib.hid (HB1.out.trans (hb2.mono HB1.out.size))
  clear hb2 HF
  cases hf : fewB l with
  | false =>
    go_wp2
    go_ret
    exact ⟨rfl, HB2.out⟩
  | true =>
    have hl := few_short hf
    have HD := Lib.hid (deep_any l _ w2 (HV.out _ HB2.out) HK.out hl)
    go_wp2_with fail
    refine (HD.out).mono ?_
    rintro e w3 ⟨rfl, hb3⟩
    have HB3 := Lib.hid (HB2.out.trans (hb3.mono HB2.out.size))
    have HR := Lib.hid (refDeep_any l _ w3 (HV.out _ HB3.out) HK.out hl)
    clear hb3 HD
    generalize deepV l = d at HR ⊢
    go_wp2_with fail
    refine (HR.out).mono ?_
    rintro e w4 ⟨rfl, hb4⟩
    have HB4 := Lib.hid (HB3.out.trans (hb4.mono HB3.out.size))
    clear hb4 HR
    go_wp2
    go_ret
    exact ⟨rfl, HB4.out⟩
set_option maxRecDepth 100000 in
set_option maxHeartbeats 4000000 in
theorem treeSame_u (a b : List Nd) (va vb : Value) (w : World) (ha : NdsAt w va a) (oka : ∀ n ∈ a, NdOk n) (hla : a.length ≤ 9223372036854775807) (hb : NdsAt w vb b) (okb : ∀ n ∈ b, NdOk n) (hlb : b.length ≤ 9223372036854775807) (hT : Tb w) :
    Calls Tryz.prog 4 #[va, vb] w fun e w' => e = .returned (.bool true) ∧ Below w.heap.size w w' := by
  have HA := Lib.hid (awake_any w hT)
  have HVa := Lib.hid (fun (W : World) (hb : Below w.heap.size w W) => ha.below (Nat.le_refl _) hb)
  have HVb := Lib.hid (fun (W : World) (h : Below w.heap.size w W) => hb.below (Nat.le_refl _) h)
  have HKa := Lib.hid oka
  have HKb := Lib.hid okb
  obtain ⟨av, ca, rfl⟩ := ha.shape
  obtain ⟨bv, cb, rfl⟩ := hb.shape
  clear ha hb oka okb hT
  go_enter Tryz.func4, Tryz.ntmps4
  go_wp2_with fail
  refine (HA.out).mono ?_
  rintro e w1 ⟨rfl, hb1⟩
  have HB1 := Lib.hid hb1
  have HF := Lib.hid (few_any a _ w1 (HVa.out _ hb1) HKa.out hla)
  clear hb1 HA
  go_wp2_with fail
  refine (HF.out).mono ?_
  rintro e w2 ⟨rfl, hb2⟩
  have HB2 := Lib.hid (HB1.out.trans (hb2.mono HB1.out.size))
  have HF2 := Lib.hid (few_any b _ w2 (HVb.out _ HB2.out) HKb.out hlb)
  clear hb2 HF
  cases hf : fewB a with
  | false =>
    go_wp2
    go_ret
    exact ⟨rfl, HB2.out⟩
  | true =>
    go_wp2_with fail
    refine (HF2.out).mono ?_
    rintro e w3 ⟨rfl, hb3⟩
    have HB3 := Lib.hid (HB2.out.trans (hb3.mono HB2.out.size))
    clear hb3 HF2
    cases hf2 : fewB b with
    | false =>
      go_wp2
      go_ret
      exact ⟨rfl, HB3.out⟩
    | true =>
      have h1 := few_short hf
      have h2 := few_short hf2
      have HD := Lib.hid (same_any a b _ _ w3 (HVa.out _ HB3.out) (HVb.out _ HB3.out) HKa.out HKb.out h1 h2)
      go_wp2_with fail
      refine (HD.out).mono ?_
      rintro e w4 ⟨rfl, hb4⟩
      have HB4 := Lib.hid (HB3.out.trans (hb4.mono HB3.out.size))
      have HR := Lib.hid (refSame_any a b _ _ w4 (HVa.out _ HB4.out) (HVb.out _ HB4.out) HKa.out HKb.out h1 h2)
      clear hb4 HD
      generalize sameV a b = d at HR ⊢
      go_wp2_with fail
      refine (HR.out).mono ?_
      rintro e w5 ⟨rfl, hb5⟩
      have HB5 := Lib.hid (HB4.out.trans (hb5.mono HB4.out.size))
      have HS := Lib.hid (same_any a a _ _ w5 (HVa.out _ HB5.out) (HVa.out _ HB5.out) HKa.out HKa.out h1 h1)
      rw [sameV_self] at HS
      clear hb5 HR
      cases d
      all_goals
        go_wp2_with fail
        refine (HS.out).mono ?_
        rintro e w6 ⟨rfl, hb6⟩
        have HB6 := Lib.hid (HB5.out.trans (hb6.mono HB5.out.size))
        clear hb6 HS
        go_wp2
        go_ret
        exact ⟨rfl, HB6.out⟩
section
variable {H : Type} {enc : TypeId × Value → H}
set_option maxRecDepth 100000 in
theorem treeDeep_w {r : Reach} {b0 : Nat} {d : DataW H} {ps : List MemPlace} {sp : Nat → Bool} (v : Value) (W : World) (hval : Value.okWide Tryz.prog W r b0 22 v) (hd : DataW.Trod enc Tryz.prog W 0 sp true 22 v d ps)
    (hw : ∀ n ∈ d.weights Tryz.prog 22, n ≤ reachBytes) (hT : Tb W) :
    Calls Tryz.prog 3 #[v] W fun e w' => e = .returned (.bool true) ∧ Below W.heap.size W w' := by
  obtain ⟨l, h1, h2, h3⟩ := open_nodes hval hd hw
  exact treeDeep_u l v W h1 h2 h3 hT
set_option maxRecDepth 100000 in
theorem treeSame_w {r r2 : Reach} {b0 b2 : Nat} {d d2 : DataW H} {ps ps2 : List MemPlace} {sp sp2 : Nat → Bool} (v v2 : Value) (W : World) (hval : Value.okWide Tryz.prog W r b0 22 v) (hd : DataW.Trod enc Tryz.prog W 0 sp true 22 v d ps)
    (hw : ∀ n ∈ d.weights Tryz.prog 22, n ≤ reachBytes) (hval2 : Value.okWide Tryz.prog W r2 b2 22 v2) (hd2 : DataW.Trod enc Tryz.prog W 0 sp2 true 22 v2 d2 ps2)
    (hw2 : ∀ n ∈ d2.weights Tryz.prog 22, n ≤ reachBytes) (hT : Tb W) :
    Calls Tryz.prog 4 #[v, v2] W fun e w' => e = .returned (.bool true) ∧ Below W.heap.size W w' := by
  obtain ⟨l, h1, h2, h3⟩ := open_nodes hval hd hw
  obtain ⟨l2, h4, h5, h6⟩ := open_nodes hval2 hd2 hw2
  exact treeSame_u l l2 v v2 W h1 h2 h3 h4 h5 h6 hT
end
end TreeD
end Go.Proofs.YtakdmlaecidjaaaGreatDoor
