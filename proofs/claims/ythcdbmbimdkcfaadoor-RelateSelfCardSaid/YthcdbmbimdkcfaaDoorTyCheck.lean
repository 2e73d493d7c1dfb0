/- Which types may be: the program's Check. -/
import Derived.Test.YthcdbmbimdkcfaaDoorTyFn3
import Derived.Recover
import Derived.Deep.RegionWith
import Derived.WalkSmall
import Derived.Laws.EntriesVeiled
namespace Go.Proofs.YthcdbmbimdkcfaaDoor
open Go.RowKit ObjM
namespace TyD
open LexD (WTab)

def panB : List PanicEntry := [{ v := .iface 54 (.agg #[]), recovered := false }]
inductive VisIs (C : Nat) (w : World) : Option Nat → Ending → World → Prop
  | ok (n : Nat) (w' : World) : Keeps [C] w w' → Has w' C 3 [.int .i64 (n : Int)] → VisIs C w (some n) (.returned (.tuple #[])) w'
  | no (w' : World) : Keeps [C] w w' → VisIs C w none (.panicked panB) w'
theorem VisIs.after {C : Nat} {w w1 : World} {o : Option Nat} {e : Ending} {w' : World} (h : VisIs C w1 o e w') (k : Keeps [C] w w1) : VisIs C w o e w' := by
  cases h with
  | ok n w' h1 h2 => exact .ok n w' (k.trans h1 fun x hx => .inl hx) h2
  | no w' h1 => exact .no w' (k.trans h1 fun x hx => .inl hx)
theorem foldM_drop {r : Nat} {ts : List Ty} {k c : Nat} (hk : k < ts.length) : (ts.drop k).foldlM (fun c a => visT r a c) c = (visT r ts[k] c).bind fun c => (ts.drop (k + 1)).foldlM (fun c a => visT r a c) c := by
  rw [List.drop_eq_getElem_cons hk]
  rfl
def fnVal (C P : Nat) : Value := .func (.func 71) #[] #[.pointer (some ⟨C, 0, none⟩), .pointer (some ⟨P, 0, none⟩)]
set_option maxRecDepth 100000 in
set_option maxHeartbeats 16000000 in
theorem visit_any : ∀ (r : Nat) (t : Ty) (c C P : Nat) (d : Int) (w0 w : World) (vn va : Value), d + (r : Int) = 51 → r ≤ 51 → c ≤ 10000 → TyAt w0 vn va t → TyOk t → WTab w0 → Below w0.heap.size w0 w → w0.heap.size ≤ C → w0.heap.size ≤ P →
    Has w C 3 [.int .i64 (c : Int)] → Has w P 56 [fnVal C P] →
    Calls Tryd.prog 71 #[.agg #[.int .i64 t.kind, vn, va], .int .i64 d, .pointer (some ⟨C, 0, none⟩), .pointer (some ⟨P, 0, none⟩)] w (VisIs C w (visT r t c)) := by
  intro r
  induction r with
  | zero =>
    intro t c C P d w0 w vn va hd hr hc h hok hT hB hC hP hhC hhP
    obtain ⟨an, cn, aa, ca, rfl, rfl⟩ := h.shape
    have hd2 : (50 : Int) < d := by omega
    have c0 := hhC.cell 0
    have f0 := hhC.frozen 0
    have l0 := hhC.lt
    simp at c0
    have hci : (c : Int) ≤ 10000 := by omega
    have HK : Hid (Keeps [C] w ((w.setCell ⟨C, 0, none⟩ (.int .i64 ((c : Int) + 1))).alloc (.cells #[.int .i64 t.kind, .slice an t.names.length cn, .slice aa t.args.length ca] 25))) := Lib.hid ((Keeps.set w C 0 _).trans (Keeps.alloc [C] _ _) fun x hx => .inl hx)
    clear h hok hT hB hC hP hhC hhP
    rw [visT]
    go_enter Tryd.func71, Tryd.ntmps71
    go_wp2
    exact ⟨rfl, .no _ HK.out⟩
  | succ r ih =>
    intro t c C P d w0 w vn va hd hr hc h hok hT hB hC hP hhC hhP
    have HP0 := Lib.hid (parts_any t vn va)
    obtain ⟨kd, ns, ts⟩ := t
    obtain ⟨hn, ha⟩ := h.parts
    obtain ⟨hkk, ok1, ok2, ok3, ok4⟩ := hok.parts
    change Calls _ _ #[.agg #[.int .i64 kd, vn, va], _, _, _] w _
    obtain ⟨an, cn, rfl⟩ := hn.shape
    obtain ⟨aa, ca, rfl⟩ := ha.shape
    have hd2 : ¬ (50 : Int) < d := by omega
    have hd3 : d ≤ 50 := by omega
    have hd4 : 0 ≤ d := by omega
    have c0 := hhC.cell 0
    have f0 := hhC.frozen 0
    have l0 := hhC.lt
    simp at c0
    have hci : (c : Int) ≤ 10000 := by omega
    have hK1 : Keeps [C] w ((w.setCell ⟨C, 0, none⟩ (.int .i64 ((c : Int) + 1))).alloc (.cells #[.int .i64 kd, .slice an ns.length cn, .slice aa ts.length ca] 25)) := (Keeps.set w C 0 _).trans (Keeps.alloc [C] _ _) fun x hx => .inl hx
    have hS : (w.setCell ⟨C, 0, none⟩ (.int .i64 ((c : Int) + 1))).heap.size = w.heap.size := by simp [World.setCell]
    have hC1 : Has ((w.setCell ⟨C, 0, none⟩ (.int .i64 ((c : Int) + 1))).alloc (.cells #[.int .i64 kd, .slice an ns.length cn, .slice aa ts.length ca] 25)) C 3 [.int .i64 ((c : Int) + 1)] := (hhC.set 0 _).keeps (Keeps.alloc [] _ _) (by simp)
    have hN1 : Has ((w.setCell ⟨C, 0, none⟩ (.int .i64 ((c : Int) + 1))).alloc (.cells #[.int .i64 kd, .slice an ns.length cn, .slice aa ts.length ca] 25)) w.heap.size 25 [.int .i64 kd, .slice an ns.length cn, .slice aa ts.length ca] := by
      have := Has.new (w.setCell ⟨C, 0, none⟩ (.int .i64 ((c : Int) + 1))) 25 [.int .i64 kd, .slice an ns.length cn, .slice aa ts.length ca]
      rwa [hS] at this
    have hCP : C ≠ P := hhC.ne hhP (by decide +kernel)
    have HWB : Hid (∀ W, Keeps [C] w W → Below w0.heap.size w0 W) := Lib.hid (fun W k => hB.trans (k.toBelow _ hB.size (by simpa using hC)))
    have HHP : Hid (∀ W, Keeps [C] w W → Has W P 56 [fnVal C P]) := Lib.hid (fun W k => hhP.keeps k (by simpa using hCP.symm))
    have HV := Lib.hid (fun (W : World) (hb : Below w0.heap.size w0 W) => ha.below (Nat.le_refl _) hb)
    have HTy := Lib.hid (fun (W : World) (hb : Below w0.heap.size w0 W) => h.frame (Nat.le_refl _) hb)
    have HT := Lib.hid hT
    have HOk := Lib.hid ok4
    have HO := Lib.hid hok
    have HPos := Lib.hid (⟨hC, hP, hd, hr⟩ : w0.heap.size ≤ C ∧ w0.heap.size ≤ P ∧ d + ((r + 1 : Nat) : Int) = 51 ∧ r + 1 ≤ 51)
    have HIH := Lib.hid ih
    have HR : Hid (visT (r + 1) (.mk kd ns ts) c = if decide (c + 1 ≤ 10000) && partsB kd ns ts then ts.foldlM (fun c a => visT r a c) (c + 1) else none) := Lib.hid rfl
    generalize visT (r + 1) (.mk kd ns ts) c = R at HR ⊢
    have HP1 : Hid (∀ W, Below w0.heap.size w0 W → Calls Tryd.prog 72 #[.agg #[.int .i64 kd, .slice an ns.length cn, .slice aa ts.length ca]] W (BoolB W (partsB kd ns ts))) := Lib.hid (fun W hb => HP0.out W (HTy.out W hb) HO.out (HT.out.below hb))
    have HK1 := Lib.hid hK1
    have HC1 := Lib.hid hC1
    have HN1 := Lib.hid hN1
    clear h hok hT hB hC hP hhC hhP hn ha ok2 ok4 ih hd hr hK1 hC1 hN1 HP0 hS hCP
    by_cases hc1 : c + 1 ≤ 10000
    · have hc1i : ¬ (10000 : Int) < (c : Int) + 1 := by omega
      have hc9 : c + 1 ≤ 10000 := hc1
      obtain ⟨q, hq⟩ : ∃ q, partsB kd ns ts = q := ⟨_, rfl⟩
      rw [hq] at HP1 HR
      rw [decide_eq_true hc1] at HR
      clear hq
      cases q
      · have HF : Hid (R = none) := Lib.hid HR.out
        obtain rfl := HF.out
        clear HR
        go_enter Tryd.func71, Tryd.ntmps71
        go_wp2_with fail
        refine ((HP1.out _ (HWB.out _ HK1.out))).mono ?_
        rintro e w2 ⟨rfl, hb2⟩
        have HK2 := Lib.hid (HK1.out.trans (Keeps.below' hb2 [C]) fun x hx => .inl hx)
        clear hb2
        go_wp2
        exact ⟨rfl, .no _ HK2.out⟩
      · have HF : Hid (R = ts.foldlM (fun c a => visT r a c) (c + 1)) := Lib.hid (by rw [HR.out]; rfl)
        clear HR
        go_enter Tryd.func71, Tryd.ntmps71
        go_wp2_with fail
        refine ((HP1.out _ (HWB.out _ HK1.out))).mono ?_
        rintro e w2 ⟨rfl, hb2⟩
        have HK2 := Lib.hid (HK1.out.trans (Keeps.below' hb2 [C]) fun x hx => .inl hx)
        have hN2 := HN1.out.below hb2 HN1.out.lt
        have HC2 := Lib.hid (HC1.out.below hb2 HC1.out.lt)
        have n2 := hN2.cell 2
        have ln := hN2.lt
        simp at n2
        clear hb2 hN2
        obtain ⟨m, hm⟩ : ∃ m, ts.length = m := ⟨_, rfl⟩
        rw [hm] at n2 ok3
        have HM := Lib.hid hm
        clear hm
        generalize w.heap.size = N at n2 ln ⊢
        rw [HM.out]
        go_wp2
        go_loopw [26] (fun i wr => ∃ (k c' : Nat), i = .int .i64 (k : Int) ∧ k ≤ m ∧ c' ≤ 10000 ∧ Hid (Keeps [C] w wr) ∧ Hid (Has wr C 3 [.int .i64 (c' : Int)]) ∧ Hid ((ts.drop k).foldlM (fun c a => visT r a c) c' = R)) (fun i _ => m - (intOf i).toNat)
        case atStart => exact ⟨0, c + 1, rfl, by omega, hc9, HK2, by simpa using HC2, Lib.hid HF.out.symm⟩
        case round =>
          obtain ⟨k, c', rfl, hk, hc', HK, HC, HD⟩ := hrel
          by_cases hlt : k < m
          · have hi1 : (k : Int) < (m : Int) := by omega
            have hkl : k < ts.length := by rw [HM.out]; exact hlt
            have HD2 := Lib.hid (foldM_drop (r := r) (c := c') hkl)
            have HBw := Lib.hid (HWB.out _ HK.out)
            obtain ⟨b, o, vn, vb, rfl, hb, g0, g1, g2, g3⟩ := (HV.out _ HBw.out).at k hkl
            have hOx := HOk.out _ (List.getElem_mem hkl)
            have hP := (HHP.out _ HK.out)
            have hPl := hP.lt
            have p0 := hP.cell 0
            simp [fnVal] at p0
            have hKA : Keeps [C] w (wr.alloc (.cells #[.int .i64 ts[k].kind, vn, vb] 25)) := HK.out.trans (Keeps.alloc [C] wr _) fun x hx => .inl hx
            have HC3 := Lib.hid (HIH.out ts[k] c' C P (d + 1) w0 (wr.alloc (.cells #[.int .i64 ts[k].kind, vn, vb] 25)) vn vb (by have := HPos.out; omega) (by have := HPos.out; omega) hc'
              (by
                obtain ⟨b', o', vn', vb', e, -, k0, k1, k2, k3⟩ := (HV.out _ (Below.refl _ _)).at k hkl
                injection e with e
                injection e with e1 e2
                subst e1 e2
                have q1 := (HBw.out.cell (p := ⟨b, o + k * 3 + 1, none⟩) (cell_spot k1).2).symm.trans g1
                have q2 := (HBw.out.cell (p := ⟨b, o + k * 3 + 2, none⟩) (cell_spot k2).2).symm.trans g2
                rw [k1] at q1
                rw [k2] at q2
                injection q1 with q1
                injection q2 with q2
                rw [← q1, ← q2]
                exact k3) hOx HT.out (HWB.out _ hKA) HPos.out.1 HPos.out.2.1 (HC.out.keeps (Keeps.alloc [] _ _) (by simp)) (HHP.out _ hKA))
            obtain ⟨an', cn', ab, cb, rfl, rfl⟩ := g3.shape
            have HKA := Lib.hid hKA
            generalize ts[k] = x at HD2 g0 g1 g2 g3 HC3 HKA
            obtain ⟨oc, hoc⟩ : ∃ oc, visT r x c' = oc := ⟨_, rfl⟩
            have HOc := Lib.hid hoc
            rw [hoc] at HD2 HC3
            clear hP hkl hKA hOx g3 hoc HC
            go_wp2_with fail
            refine (HC3.out).mono ?_
            intro e w3 hv
            have hv := hv.after HKA.out
            cases hv with
            | ok n _ hk3 hh3 =>
              have HK3 := Lib.hid hk3
              have HH3 := Lib.hid hh3
              have hn9 := (vis_some _ _ _ _ HOc.out).2.2
              have HE : Hid ((ts.drop (k + 1)).foldlM (fun c a => visT r a c) n = R) := Lib.hid (by rw [← HD.out, HD2.out]; rfl)
              clear hk3 hh3 HD HD2 HC3
              go_wp2
              go_roundw
              case rel => exact ⟨k + 1, n, by go_num, by omega, hn9, HK3, HH3, HE⟩
              case measure => simp [intOf]; omega
            | no _ hk3 =>
              have HK3 := Lib.hid hk3
              have HE : Hid (R = none) := Lib.hid (by rw [← HD.out, HD2.out]; rfl)
              obtain rfl := HE.out
              clear hk3 HD HD2 HC3
              go_wp2
              exact ⟨rfl, .no _ HK3.out⟩
          · have hkm : k = m := by omega
            have HE : Hid (R = some c') := Lib.hid (by rw [← HD.out, List.drop_eq_nil_of_le (by rw [HM.out]; omega)]; rfl)
            obtain rfl := HE.out
            subst hkm
            go_wp2
            exact bodyPost_end (by simp [results, Tryd.results71]) rfl (.ok _ _ HK.out HC.out)
    · have hc1i : (10000 : Int) < (c : Int) + 1 := by omega
      rw [decide_eq_false hc1, Bool.false_and] at HR
      have HF : Hid (R = none) := Lib.hid HR.out
      obtain rfl := HF.out
      clear HR
      go_enter Tryd.func71, Tryd.ntmps71
      go_wp2
      exact ⟨rfl, .no _ HK1.out⟩
theorem tCatch_idle (p : Addr) (w : World) :
    CallsD Tryd.prog 70 #[.pointer (some p)] .returning w fun e u' w' => e = .returned (.tuple #[]) ∧ u' = .returning ∧ w' = w := by
  refine callsD_of_wpS Tryd.func70 rfl fun c₀ cs hu => ?_
  apply wpS_seq
  apply wpS_region
  simp [wpOpsS, go_sem, recoverD, hu, Tryd.ntmps70, Exit.thenS]
  apply wpS_seq
  apply wpS_region
  simp [wpOpsS, go_sem, Exit.thenS]
  refine wpS_cond (t := false) (by simp [Act.eval, Array.replicate]) ?_
  simp only [Bool.false_eq_true, if_false]
  refine wpS_of_wp (wp_skip ?_)
  cases c₀
  simp_all [bodyPostS, results, Tryd.results70]
set_option maxRecDepth 100000 in
set_option maxHeartbeats 2000000 in
theorem tCatch_panicking (P : Nat) (p0 : Value) (w : World) (hP : Has w P 4 [p0]) :
    CallsD Tryd.prog 70 #[.pointer (some ⟨P, 0, none⟩)] (.panicking panB) w fun e u' w' =>
      e = .returned (.tuple #[]) ∧ u' = .panicking [{ v := .iface 54 (.agg #[]), recovered := true }] ∧ Keeps [P] w w' ∧ Has w' P 4 [.bool false] := by
  have hta : ∀ W, (Instr.typeAssert (.iface 54 (.agg #[])) 20 54 true).run Tryd.prog W = .ok (.tuple #[.agg #[], .bool true]) W := by intro W; kernel_rfl
  refine callsD_of_wpS Tryd.func70 rfl fun c₀ cs hu => ?_
  apply wpS_seq
  apply wpS_region
  simp [wpOpsS, go_sem, recoverD, hu, panB, Tryd.ntmps70, Exit.thenS]
  apply wpS_seq
  apply wpS_region
  simp [wpOpsS, go_sem, Exit.thenS]
  refine wpS_cond (t := true) (by simp [Act.eval, Array.replicate]) ?_
  simp only [if_true]
  refine wpS_of_wp ?_
  have c0 := hP.cell 0
  have f0 := hP.frozen 0
  have l0 := hP.lt
  simp at c0
  have HE : Hid (Keeps [P] w ((w.setCell ⟨P, 0, none⟩ (.bool false)).alloc (.cells #[] 54)) ∧ Has ((w.setCell ⟨P, 0, none⟩ (.bool false)).alloc (.cells #[] 54)) P 4 [.bool false]) :=
    Lib.hid ⟨(Keeps.set w P 0 _).trans (Keeps.alloc [P] _ _) fun x hx => .inl hx, (hP.set 0 (.bool false)).keeps (Keeps.alloc [] _ _) (by simp)⟩
  go_wp2
  exact ⟨rfl, _, rfl, _, by simp [results, Tryd.results70], rfl, rfl, HE.out⟩
theorem four_blocks (w : World) (c0 c1 c2 c3 : List Value) (t0 t1 t2 t3 : TypeId) (W : World) (hW : W = (((w.alloc (.cells c0.toArray t0)).alloc (.cells c1.toArray t1)).alloc (.cells c2.toArray t2)).alloc (.cells c3.toArray t3)) :
    Has W w.heap.size t0 c0 ∧ Has W (w.heap.size + 1) t1 c1 ∧ Has W (w.heap.size + 1 + 1) t2 c2 ∧ Has W (w.heap.size + 1 + 1 + 1) t3 c3 ∧ Below w.heap.size w W ∧ W.heap.size = w.heap.size + 1 + 1 + 1 + 1 := by
  subst hW
  have k : ∀ (W : World) (o : Go.Obj), KeepsT [] W (W.alloc o) := fun W o => (KeepsT.refl [] W).alloc o
  refine ⟨?_, ?_, ?_, ?_, ?_, by simp⟩
  · exact (((Has.new w t0 c0).keepsT (k _ _) (by simp)).keepsT (k _ _) (by simp)).keepsT (k _ _) (by simp)
  · have h := ((Has.new (w.alloc (.cells c0.toArray t0)) t1 c1).keepsT (k _ (.cells c2.toArray t2)) (by simp)).keepsT (k _ (.cells c3.toArray t3)) (by simp)
    simpa only [World.size_alloc] using h
  · have h := (Has.new ((w.alloc (.cells c0.toArray t0)).alloc (.cells c1.toArray t1)) t2 c2).keepsT (k _ (.cells c3.toArray t3)) (by simp)
    simpa only [World.size_alloc] using h
  · have h := Has.new (((w.alloc (.cells c0.toArray t0)).alloc (.cells c1.toArray t1)).alloc (.cells c2.toArray t2)) t3 c3
    simpa only [World.size_alloc] using h
  · repeat (first | exact Below.refl _ _ | refine Below.alloc ?_ (by simp; try omega) _)
set_option maxRecDepth 100000 in
set_option maxHeartbeats 8000000 in
theorem check_any (t : Ty) (vn va : Value) (w : World) (h : TyAt w vn va t) (hok : TyOk t) (hT : WTab w) :
    Calls Tryd.prog 53 #[.agg #[.int .i64 t.kind, vn, va]] w (BoolB w (checkV t)) := by
  have hmf : ∀ (fn : Fn) (first cap : Array Value) (w : World), (Instr.makeFunc fn first cap).run Tryd.prog w = .ok (.func fn first cap) w := fun _ _ _ _ => rfl
  obtain ⟨an, cn, aa, ca, rfl, rfl⟩ := h.shape
  obtain ⟨hb0, hb1, hb2, hb3, hBW, hsz⟩ := four_blocks w [.int .i64 t.kind, .slice an t.names.length cn, .slice aa t.args.length ca] [.bool false] [.int .i64 0] [.func (.func 71) #[] #[.pointer (some ⟨w.heap.size + 1 + 1, 0, none⟩), .pointer (some ⟨w.heap.size + 1 + 1 + 1, 0, none⟩)]] 25 4 3 56 _ rfl
  have HVis := Lib.hid (visit_any 50 t 0 (w.heap.size + 1 + 1) (w.heap.size + 1 + 1 + 1) 1 w _ _ _ (by omega) (by omega) (by omega) h hok hT hBW (by omega) (by omega) hb2 hb3)
  have HBW := Lib.hid hBW
  have HSz := Lib.hid hsz
  have HO : Hid (checkV t = (visT 50 t 0).isSome) := Lib.hid rfl
  generalize visT 50 t 0 = o at HVis HO
  generalize checkV t = R at HO ⊢
  clear hBW hsz h hok hT
  go_enter_defers Tryd.func53, Tryd.ntmps53
  go_wp2_with fail
  change Calls _ _ _ (World.alloc (World.alloc (World.alloc (World.alloc w _) _) _) _) _
  generalize World.alloc (World.alloc (World.alloc (World.alloc w _) _) _) _ = W0 at hb0 hb1 hb2 hb3 HBW HSz HVis ⊢
  refine (HVis.out).mono ?_
  intro e w1 hv
  have hlt1 := hb1.lt
  cases hv with
  | ok n _ hk hh =>
    have HF : Hid (R = true) := Lib.hid (by rw [HO.out]; rfl)
    obtain rfl := HF.out
    have p1 := hb1.keeps hk (by simp)
    have x1 := p1.cell 0
    have f1 := p1.frozen 0
    have l1 := p1.lt
    simp at x1
    have HEnd : Hid (Below w.heap.size w (w1.setCell ⟨w.heap.size + 1, 0, none⟩ (.bool true))) := Lib.hid ((HBW.out.trans (hk.toBelow _ HBW.out.size (by simp; omega))).setCell (p := ⟨w.heap.size + 1, 0, none⟩) (by simp) _)
    clear hk hh hb0 hb1 hb2 hb3 p1 HVis HO
    go_wp2
    refine leaves_cons (f := 70) (args := #[.pointer (some ⟨w.heap.size + 1, 0, none⟩)]) (by simp) (by simp [go_sem]) ?_
    refine (tCatch_idle _ _).mono ?_
    rintro e u' w'' ⟨rfl, rfl, rfl⟩
    simp [Leaves, settle, results, Tryd.results53, go_sem, x1]
    exact ⟨rfl, HEnd.out⟩
  | no _ hk =>
    have HF : Hid (R = false) := Lib.hid (by rw [HO.out]; rfl)
    obtain rfl := HF.out
    have p1 := Lib.hid (hb1.keeps hk (by simp))
    have HB1 := Lib.hid (HBW.out.trans (hk.toBelow _ HBW.out.size (by simp; omega)))
    clear hk hb0 hb1 hb2 hb3 HVis HO
    go_wp2
    refine leaves_cons (f := 70) (args := #[.pointer (some ⟨w.heap.size + 1, 0, none⟩)]) (by simp) (by simp [go_sem]) ?_
    refine (tCatch_panicking (w.heap.size + 1) _ w1 p1.out).mono ?_
    rintro e u' w'' ⟨rfl, rfl, hk2, hq⟩
    have q0 := hq.cell 0
    simp at q0
    have HEnd : Hid (Below w.heap.size w w'') := Lib.hid (HB1.out.trans (hk2.toBelow _ HB1.out.size (by simp)))
    clear hq hk2
    simp [Leaves, settle, results, Tryd.results53, go_sem, q0]
    exact ⟨rfl, HEnd.out⟩
end TyD
end Go.Proofs.YthcdbmbimdkcfaaDoor
