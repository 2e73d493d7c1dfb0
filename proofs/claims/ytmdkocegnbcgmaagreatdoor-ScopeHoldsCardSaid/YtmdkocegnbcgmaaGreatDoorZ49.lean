/- Stage 11's laws, walked. (mk_sc28.py) -/
import Derived.Test.YtmdkocegnbcgmaaGreatDoorZ27
import Derived.Test.YtmdkocegnbcgmaaGreatDoorZ45
import Derived.Test.YtmdkocegnbcgmaaGreatDoorZ48
namespace Go.Proofs.YtmdkocegnbcgmaaGreatDoor
open Go.RowKit Go.WideShapes Go.ChangeShapes Go.Deep ObjM
namespace ScD
open TreeD (Nd NdsAt KidsAt ndAt kindAt Tb Tt Tk)
theorem holds_tabs {W : World} (h : laidMetH Tryz.prog Rows.scopeHoldsRow.laid W) (hs : W.ShapedOpen Tryz.prog) : Tb W ∧ Tt W ∧ Tk W := TreeD.stills_of h hs
theorem ends_tabs {W : World} (h : laidMetH Tryz.prog Rows.scopeEndsRow.laid W) (hs : W.ShapedOpen Tryz.prog) : Tb W ∧ Tt W ∧ Tk W := TreeD.stills_of h hs
theorem fine_of {l : List Nd} {v : Value} {W : World} (hn : NdsAt W v l) (hcap : TreeD.CapOk W v l) (hok : ∀ n ∈ l, TreeD.NdOk n) (hT : Tb W ∧ Tt W ∧ Tk W) (hf : fewSB l = true) : Fine W v l :=
  ⟨by have := (fewS_size hf).1; omega, hok, (fewS_size hf).2, ⟨hT.2.1, hT.2.2, hn, hcap⟩⟩
theorem end_in {l : List Nd} {n : Int} (h : atEndV l n = true) : inV l 10 true n = true := by
  unfold atEndV at h
  rw [Bool.and_eq_true] at h
  obtain ⟨hf, he⟩ := h
  obtain ⟨m, rfl, hm, hc⟩ := fits_in hf
  have hD := (TreeD.tree_of hc).done
  rw [Int.toNat_natCast] at he
  have h1 := ends_holds (three_of hD) _ _ he
  rw [holdsV_enough (kids_of hD) m (2 * (m + 1)) (by omega)] at h1
  unfold inV
  rw [hf, Int.toNat_natCast, h1]
  rfl
theorem bad_none {l : List Nd} (h : (TreeD.checkV l).2 ≠ 0) (n : Int) : atEndV l n = false ∧ inV l 10 true n = false ∧ inV l 11 false n = false := by
  have : fitsB l n = false := by
    unfold fitsB
    rw [decide_eq_false h, Bool.and_false, Bool.and_false]
  refine ⟨?_, ?_, ?_⟩
  · unfold atEndV; rw [this]; rfl
  · unfold inV; rw [this]; rfl
  · unfold inV; rw [this]; rfl
set_option maxRecDepth 100000 in
set_option maxHeartbeats 8000000 in
theorem scopeHolds_u (l : List Nd) (v : Value) (n : Int) (W : World) (hb : -9223372036854775808 ≤ n ∧ n ≤ 9223372036854775807) (hn : NdsAt W v l) (hcap : TreeD.CapOk W v l) (hok : ∀ n ∈ l, TreeD.NdOk n) (hlen : l.length ≤ 9223372036854775807) (hT : Tb W ∧ Tt W ∧ Tk W) :
    Calls Tryz.prog 3 #[v, .int .i64 n] W fun e w' => e = .returned (.bool true) ∧ Below W.heap.size W w' := by
  have HA := Lib.hid (awake_any W hT.2.1.tm.tab hT.2.1 hT.2.2)
  have HFe := Lib.hid (fun W' (hb : Below W.heap.size W W') => fewS_any l v W' (hn.below (Nat.le_refl _) hb) hok (by omega))
  have HFi : Hid (fewSB l = true → ∀ W', Below W.heap.size W W' → Fine W' v l) := Lib.hid fun hf W' hb => (fine_of hn hcap hok hT hf).below hb
  obtain ⟨av, cv, rfl⟩ := hn.shape
  clear hn hcap hok hlen hT
  go_enter Tryz.func3, Tryz.ntmps3
  go_wp2_with fail
  refine HA.out.mono ?_
  rintro e w1 ⟨rfl, hb1⟩
  have HB1 := Lib.hid hb1
  clear HA hb1
  go_wp2_with fail
  refine (HFe.out _ HB1.out).mono ?_
  rintro e w2 ⟨rfl, hb2⟩
  have HB2 := Lib.hid (HB1.out.trans (hb2.mono HB1.out.size))
  clear HFe hb2
  cases hf : fewSB l
  · clear HFi hf
    go_wp2_with fail
    go_ret
    exact ⟨rfl, HB2.out⟩
  · have HF := Lib.hid (HFi.out hf)
    have hts := few_texts hf
    have H1 := Lib.hid (fun W' (h : Below W.heap.size W W') => progReturns_any W' _ l n hb.1 hb.2 (HF.out W' h))
    have H2 := Lib.hid (fun W' (h : Below W.heap.size W W') => progBreaks_any W' _ l n hb.1 hb.2 (HF.out W' h))
    have H3 := Lib.hid (fun W' (h : Below W.heap.size W W') => progEnds_any W' _ l n hb.1 hb.2 (HF.out W' h))
    have H4 := Lib.hid (fun W' (h : Below W.heap.size W W') => refReturns_any W' _ l n hts (HF.out W' h))
    have H5 := Lib.hid (fun W' (h : Below W.heap.size W W') => refBreaks_any W' _ l n hts (HF.out W' h))
    have H6 := Lib.hid (fun W' (h : Below W.heap.size W W') => refEnds_any W' _ l n hts (HF.out W' h))
    clear HFi HF hf hts hb
    generalize inV l 10 true n = r1 at H1 H4
    generalize inV l 11 false n = r2 at H2 H5
    generalize atEndV l n = r3 at H3 H6
    have e1 : (r1 == r1) = true := by simp
    have e2 : (r2 == r2) = true := by simp
    have e3 : (r3 == r3) = true := by simp
    go_wp2_with fail
    refine (H1.out _ HB2.out).mono ?_
    rintro e w3 ⟨rfl, hb3⟩
    have HB3 := Lib.hid (HB2.out.trans (hb3.mono HB2.out.size))
    clear hb3
    go_wp2_with fail
    refine (H4.out _ HB3.out).mono ?_
    rintro e w4 ⟨rfl, hb4⟩
    have HB4 := Lib.hid (HB3.out.trans (hb4.mono HB3.out.size))
    clear hb4
    go_wp2_with fail
    refine (H2.out _ HB4.out).mono ?_
    rintro e w5 ⟨rfl, hb5⟩
    have HB5 := Lib.hid (HB4.out.trans (hb5.mono HB4.out.size))
    clear hb5
    go_wp2_with fail
    refine (H5.out _ HB5.out).mono ?_
    rintro e w6 ⟨rfl, hb6⟩
    have HB6 := Lib.hid (HB5.out.trans (hb6.mono HB5.out.size))
    clear hb6
    go_wp2_with fail
    refine (H3.out _ HB6.out).mono ?_
    rintro e w7 ⟨rfl, hb7⟩
    have HB7 := Lib.hid (HB6.out.trans (hb7.mono HB6.out.size))
    clear hb7
    go_wp2_with fail
    refine (H6.out _ HB7.out).mono ?_
    rintro e w8 ⟨rfl, hb8⟩
    have HB8 := Lib.hid (HB7.out.trans (hb8.mono HB7.out.size))
    clear hb8
    go_wp2_with fail
    go_ret
    exact ⟨by simp, HB8.out⟩
set_option maxRecDepth 100000 in
set_option maxHeartbeats 8000000 in
theorem scopeEnds_u (l : List Nd) (v : Value) (n : Int) (W : World) (hb : -9223372036854775808 ≤ n ∧ n ≤ 9223372036854775807) (hn : NdsAt W v l) (hcap : TreeD.CapOk W v l) (hok : ∀ n ∈ l, TreeD.NdOk n) (hlen : l.length ≤ 9223372036854775807) (hT : Tb W ∧ Tt W ∧ Tk W) :
    Calls Tryz.prog 4 #[v, .int .i64 n] W fun e w' => e = .returned (.bool true) ∧ Below W.heap.size W w' := by
  have HA := Lib.hid (awake_any W hT.2.1.tm.tab hT.2.1 hT.2.2)
  have HFe := Lib.hid (fun W' (hb : Below W.heap.size W W') => fewS_any l v W' (hn.below (Nat.le_refl _) hb) hok (by omega))
  have HFi : Hid (fewSB l = true → ∀ W', Below W.heap.size W W' → Fine W' v l) := Lib.hid fun hf W' hb => (fine_of hn hcap hok hT hf).below hb
  obtain ⟨av, cv, rfl⟩ := hn.shape
  clear hn hcap hok hlen hT
  go_enter Tryz.func4, Tryz.ntmps4
  go_wp2_with fail
  refine HA.out.mono ?_
  rintro e w1 ⟨rfl, hb1⟩
  have HB1 := Lib.hid hb1
  clear HA hb1
  go_wp2_with fail
  refine (HFe.out _ HB1.out).mono ?_
  rintro e w2 ⟨rfl, hb2⟩
  have HB2 := Lib.hid (HB1.out.trans (hb2.mono HB1.out.size))
  clear HFe hb2
  cases hf : fewSB l
  · clear HFi hf
    go_wp2_with fail
    go_ret
    exact ⟨rfl, HB2.out⟩
  · have HF := Lib.hid (HFi.out hf)
    have hts := few_texts hf
    have H1 := Lib.hid (fun W' (h : Below W.heap.size W W') => progReturns_any W' _ l n hb.1 hb.2 (HF.out W' h))
    have H2 := Lib.hid (fun W' (h : Below W.heap.size W W') => progBreaks_any W' _ l n hb.1 hb.2 (HF.out W' h))
    have H3 := Lib.hid (fun W' (h : Below W.heap.size W W') => progEnds_any W' _ l n hb.1 hb.2 (HF.out W' h))
    have H7 := Lib.hid (fun W' (h : Below W.heap.size W W') => TreeD.rcheck_any l _ W' (HF.out W' h).len (HF.out W' h).ok (HF.out W' h).kids hts (HF.out W' h).still)
    unfold TreeD.CheckIs at H7
    have HIn : Hid (atEndV l n = true → inV l 10 true n = true) := Lib.hid end_in
    have HBad := Lib.hid (fun h => bad_none (l := l) h n)
    clear HFi HF hf hts hb
    generalize inV l 10 true n = r1 at H1 HIn HBad
    generalize inV l 11 false n = r2 at H2 HBad
    generalize atEndV l n = r3 at H3 HIn HBad
    generalize TreeD.checkV l = cv at H7 HBad
    obtain ⟨c1, c2⟩ := cv
    go_wp2_with fail
    refine (H7.out _ HB2.out).mono ?_
    rintro e w3 ⟨rfl, hb3⟩
    have HB3 := Lib.hid (HB2.out.trans (hb3.mono HB2.out.size))
    clear hb3
    by_cases hc : c2 = 0
    · subst hc
      cases r3
      · clear HIn HBad
        go_wp2_with fail
        refine (H3.out _ HB3.out).mono ?_
        rintro e w4 ⟨rfl, hb4⟩
        have HB4 := Lib.hid (HB3.out.trans (hb4.mono HB3.out.size))
        clear hb4
        go_wp2_with fail
        go_ret
        exact ⟨by simp, HB4.out⟩
      · have h1 := HIn.out rfl
        subst h1
        clear HIn HBad
        go_wp2_with fail
        refine (H3.out _ HB3.out).mono ?_
        rintro e w4 ⟨rfl, hb4⟩
        have HB4 := Lib.hid (HB3.out.trans (hb4.mono HB3.out.size))
        clear hb4
        go_wp2_with fail
        refine (H1.out _ HB4.out).mono ?_
        rintro e w5 ⟨rfl, hb5⟩
        have HB5 := Lib.hid (HB4.out.trans (hb5.mono HB4.out.size))
        clear hb5
        go_wp2_with fail
        go_ret
        exact ⟨by simp, HB5.out⟩
    · have hc2 : (c2 != 0) = true := by simpa using hc
      obtain ⟨e3, e1, e2⟩ := HBad.out hc
      subst e3 e1 e2
      clear HIn HBad hc
      go_wp2_with fail
      refine (H3.out _ HB3.out).mono ?_
      rintro e w4 ⟨rfl, hb4⟩
      have HB4 := Lib.hid (HB3.out.trans (hb4.mono HB3.out.size))
      clear hb4
      go_wp2_with fail
      refine (H1.out _ HB4.out).mono ?_
      rintro e w5 ⟨rfl, hb5⟩
      have HB5 := Lib.hid (HB4.out.trans (hb5.mono HB4.out.size))
      clear hb5
      go_wp2_with fail
      refine (H2.out _ HB5.out).mono ?_
      rintro e w6 ⟨rfl, hb6⟩
      have HB6 := Lib.hid (HB5.out.trans (hb6.mono HB5.out.size))
      clear hb6
      go_wp2_with fail
      go_ret
      exact ⟨by simp, HB6.out⟩
section
variable {H : Type} {enc : TypeId × Value → H}
set_option maxRecDepth 100000 in
theorem scopeHolds_w {r : Reach} {b0 : Nat} {d : DataW H} {ps : List MemPlace} {sp : Nat → Bool} (v : Value) (n : Int) (W : World) (hval : Value.okWide Tryz.prog W r b0 22 v) (hd : DataW.Trod enc Tryz.prog W 0 sp true 22 v d ps)
    (hw : ∀ n ∈ d.weights Tryz.prog 22, n ≤ reachBytes) (hb : -9223372036854775808 ≤ n ∧ n ≤ 9223372036854775807) (hT : Tb W ∧ Tt W ∧ Tk W) :
    Calls Tryz.prog 3 #[v, .int .i64 n] W fun e w' => e = .returned (.bool true) ∧ Below W.heap.size W w' := by
  obtain ⟨l, h1, h2, h3⟩ := TreeD.open_nodes hval hd hw
  exact scopeHolds_u l v n W hb h1 (TreeD.open_caps hval hd l h1) h2 h3 hT
set_option maxRecDepth 100000 in
theorem scopeEnds_w {r : Reach} {b0 : Nat} {d : DataW H} {ps : List MemPlace} {sp : Nat → Bool} (v : Value) (n : Int) (W : World) (hval : Value.okWide Tryz.prog W r b0 22 v) (hd : DataW.Trod enc Tryz.prog W 0 sp true 22 v d ps)
    (hw : ∀ n ∈ d.weights Tryz.prog 22, n ≤ reachBytes) (hb : -9223372036854775808 ≤ n ∧ n ≤ 9223372036854775807) (hT : Tb W ∧ Tt W ∧ Tk W) :
    Calls Tryz.prog 4 #[v, .int .i64 n] W fun e w' => e = .returned (.bool true) ∧ Below W.heap.size W w' := by
  obtain ⟨l, h1, h2, h3⟩ := TreeD.open_nodes hval hd hw
  exact scopeEnds_u l v n W hb h1 (TreeD.open_caps hval hd l h1) h2 h3 hT
end
end ScD
end Go.Proofs.YtmdkocegnbcgmaaGreatDoor
