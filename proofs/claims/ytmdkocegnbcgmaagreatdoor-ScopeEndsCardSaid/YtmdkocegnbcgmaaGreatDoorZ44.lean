/- scope.Program, whole: a tree on which the model comes to an end. -/
import Derived.Test.YtmdkocegnbcgmaaGreatDoorZ34
import Derived.Test.YtmdkocegnbcgmaaGreatDoorZ24
import Derived.Recover
import Derived.Deep.RegionWith
import Derived.Laws.EntriesVeiled
namespace Go.Proofs.YtmdkocegnbcgmaaGreatDoor
open Go.RowKit ObjM Go.Maps RoundM
namespace ScD
open TreeD (Nd NdsAt KidsAt)
open ParD (Row addrP)

theorem sCatch_idle (p q r : Addr) (w : World) :
    CallsD Tryz.prog 35 #[.pointer (some p), .pointer (some q), .pointer (some r)] .returning w fun e u' w' => e = .returned (.tuple #[]) ∧ u' = .returning ∧ w' = w := by
  refine callsD_of_wpS Tryz.func35 rfl fun c₀ cs hu => ?_
  apply wpS_seq
  apply wpS_region
  simp [wpOpsS, go_sem, recoverD, hu, Tryz.ntmps35, Exit.thenS]
  apply wpS_seq
  apply wpS_region
  simp [wpOpsS, go_sem, Exit.thenS]
  refine wpS_cond (t := false) (by simp [Act.eval, Array.replicate]) ?_
  simp only [Bool.false_eq_true, if_false]
  refine wpS_of_wp (wp_skip ?_)
  cases c₀
  simp_all [bodyPostS, results, Tryz.results35]
theorem own_far {w : World} {base g : Nat} {e : TypeId} {size : Nat} {v : Value} {n : Nat} {xs : List Value} (h : w.ownsRow base e size v n xs) (hg : v.ownBlock = some g) : base ≤ g := by
  rcases own_shape h with ⟨rfl, _, _⟩ | ⟨g', cap, cs, rfl, hb, _⟩
  · cases hg
  · injection hg with hg
    subst hg
    exact hb
theorem own_slice {w : World} {base : Nat} {e : TypeId} {size : Nat} {v : Value} {n : Nat} {xs : List Value} (h : w.ownsRow base e size v n xs) : ∃ a k c, v = .slice a k c := by
  rcases own_shape h with ⟨rfl, _, _⟩ | ⟨g', cap, cs, rfl, hb, _⟩
  · exact ⟨_, _, _, rfl⟩
  · exact ⟨_, _, _, rfl⟩
/-- What the program's scope comes to. -/
def ScopeIs (w : World) (st : FSt) (e : Ending) (w' : World) : Prop := ∃ vv v0 v1 v2, e = .returned (.tuple #[.agg #[vv, v0, v1, v2], .int .i64 0, .int .i64 0]) ∧ Below w.heap.size w w' ∧ w'.ownsRow w.heap.size 38 4 vv st.vars.length (rowVr st.vars) ∧ Row w' w.heap.size v0 st.uses ∧ Row w' w.heap.size v1 st.funcs ∧ Row w' w.heap.size v2 st.ups
theorem check_some {l : List Nd} (h : TreeD.checkV l = (0, 0)) : l ≠ [] := by
  rintro rfl
  simp [TreeD.checkV_eq, TreeD.endV, TreeD.goV] at h
set_option maxRecDepth 100000 in
set_option maxHeartbeats 16000000 in
theorem program_any (w : World) (lv : Value) (l : List Nd) (M : Nat) (st : FSt) (hl5 : l.length ≤ 50000) (hokl : ∀ n ∈ l, TreeD.NdOk n) (hkl : ∀ n ∈ l, n.kids.length < 1000000) (hS : TreeD.Still w lv l) (hc : TreeD.checkV l = (0, 0)) (hV : V l M (l.length - 1) (startP l) = some st) :
    Calls Tryz.prog 15 #[lv] w (ScopeIs w st) := by
  have hmf : ∀ (fn : Fn) (first cap : Array Value) (w : World), (Instr.makeFunc fn first cap).run Tryz.prog w = .ok (.func fn first cap) w := fun _ _ _ _ => rfl
  have hne := check_some hc
  obtain ⟨m, hm⟩ : ∃ m, l.length = m := ⟨_, rfl⟩
  have hm1 : 1 ≤ m := by rw [← hm]; exact List.length_pos_iff.2 hne
  obtain ⟨n, rfl⟩ : ∃ n, m = n + 1 := ⟨m - 1, by omega⟩
  obtain ⟨al, cl, rfl⟩ := hS.nds.shape
  have hok : ∀ x ∈ l, x.text.size ≤ 140737488355328 ∧ x.kids.length ≤ 1000000 := fun x hx => ⟨(hokl x hx).1, by have := hkl x hx; omega⟩
  have k0 := Has.new w 33 [.slice none 0 0, .slice none 0 0, .slice none 0 0, .slice none 0 0]
  have b0 : Below w.heap.size w (w.alloc (.cells #[.slice none 0 0, .slice none 0 0, .slice none 0 0, .slice none 0 0] 33)) := (Below.refl _ w).alloc (Nat.le_refl _) _
  obtain ⟨wa, hwa⟩ : ∃ wa, w.alloc (.cells #[.slice none 0 0, .slice none 0 0, .slice none 0 0, .slice none 0 0] 33) = wa := ⟨_, rfl⟩
  have sa : wa.heap.size = w.heap.size + 1 := by rw [← hwa]; simp
  have k1 := Has.new wa 3 [.int .i64 0]
  obtain ⟨wb, hwb⟩ : ∃ wb, wa.alloc (.cells #[.int .i64 0] 3) = wb := ⟨_, rfl⟩
  have sb : wb.heap.size = w.heap.size + 1 + 1 := by rw [← hwb]; simp [sa]
  have b1 : Below wa.heap.size wa wb := by rw [← hwb]; exact (Below.refl _ wa).alloc (Nat.le_refl _) _
  have k2 := Has.new wb 34 [.int .i64 0]
  have b2 : Below wb.heap.size wb (wb.alloc (.cells #[.int .i64 0] 34)) := (Below.refl _ wb).alloc (Nat.le_refl _) _
  obtain ⟨W0, hW0⟩ : ∃ W0, wb.alloc (.cells #[.int .i64 0] 34) = W0 := ⟨_, rfl⟩
  have s0 : W0.heap.size = w.heap.size + 1 + 1 + 1 := by rw [← hW0]; simp [sb]
  have hall : ((w.alloc (.cells #[.slice none 0 0, .slice none 0 0, .slice none 0 0, .slice none 0 0] 33)).alloc (.cells #[.int .i64 0] 3)).alloc (.cells #[.int .i64 0] 34) = W0 := by rw [hwa, hwb, hW0]
  rw [hW0] at k2 b2
  rw [hwa] at k0 b0
  rw [hwb] at k1
  rw [sa] at k1
  rw [sb] at k2
  have HA0 := Lib.hid ((k0.below b1 k0.lt).below b2 (by omega))
  have HA1 := Lib.hid (k1.below b2 (by omega))
  have HA2 := Lib.hid k2
  have hb0 : Below w.heap.size w W0 := (b0.trans (b1.mono (by omega))).trans (b2.mono (by omega))
  have HB := Lib.hid hb0
  have HAll := Lib.hid hall
  have HS0 := Lib.hid (hS.below (Nat.le_refl _) hb0)
  have HM := Lib.hid hm
  have S0 := Lib.hid s0
  have HC := Lib.hid hc
  have HCk : Hid (Calls Tryz.prog 34 #[.slice al (n + 1) cl] W0 (TreeD.CheckIs l W0)) := Lib.hid (by
    have := TreeD.check_any l (.slice al l.length cl) W0 hl5 hokl hkl HS0.out
    rwa [hm] at this)
  have HNw : Hid (∀ W, Below W0.heap.size W0 W → Calls Tryz.prog 36 #[.slice al (n + 1) cl] W (NewIs W (.slice al (n + 1) cl) l)) := Lib.hid fun W hW => by
    have := new_any W (.slice al l.length cl) l (HS0.out.below (Nat.le_refl _) hW).nds (by omega)
    rwa [hm] at this
  have HVs : Hid (∀ W W1 G, FAt W W1 G (.slice al (n + 1) cl) l (startP l) → Calls Tryz.prog 37 #[.pointer (some ⟨G, 0, none⟩), .int .i64 (n : Int)] W1 (Did W W1 G (.slice al (n + 1) cl) l st)) := Lib.hid fun W W1 G h => by
    rw [hm] at hV
    exact all_visit W _ l hok M W1 G (startP l) st n h (by simpa using hV)
  rw [hm]
  clear k0 k1 k2 b0 b1 b2 hwa hwb hW0 sa sb s0 hb0 hall hS hokl hkl hc hV hok hm hne hm1
  have hn5 : (n : Int) < 100000 := by have := HM.out; omega
  go_enter_defers Tryz.func15, Tryz.ntmps15
  go_wp2_with fail
  rw [HAll.out]
  refine HCk.out.mono ?_
  rintro e w1 ⟨rfl, hb1⟩
  rw [HC.out]
  have HB1 := Lib.hid hb1
  clear HAll HCk HC hb1
  go_wp2_with fail
  refine (HNw.out _ HB1.out).mono ?_
  rintro e w2 ⟨G, rfl, hF⟩
  have HF := Lib.hid hF
  clear hF HNw
  go_wp2_with fail
  refine (HVs.out _ _ _ HF.out).mono ?_
  rintro e w3 ⟨rfl, hF3, -⟩
  obtain ⟨vv, v0, v1, v2, v3, bv, ms, ho⟩ := hF3.ob
  obtain ⟨aa, na, ca, rfl⟩ := own_slice ho.vars
  obtain ⟨a0, n0, c0, rfl⟩ := own_slice ho.r0
  obtain ⟨a1, n1, c1, rfl⟩ := own_slice ho.r1
  obtain ⟨a2, n2, c2, rfl⟩ := own_slice ho.r2
  have hb3 := HB1.out.trans (hF3.bel.mono HB1.out.size)
  have hs1 := HB1.out.size
  rw [S0.out] at hs1
  have hs3 := hF3.bel.size
  have q0 := HA0.out.below hb3 (by rw [S0.out]; omega)
  have q1 := HA1.out.below hb3 (by rw [S0.out]; omega)
  have q2 := HA2.out.below hb3 (by rw [S0.out]; omega)
  have hlow := hF3.low
  have x1 := ho.obj.cell 1
  have x2 := ho.obj.cell 2
  have x3 := ho.obj.cell 3
  have x4 := ho.obj.cell 4
  have lx := ho.obj.lt
  have y0 := q0.cell 0
  have y1 := q0.cell 1
  have y2 := q0.cell 2
  have y3 := q0.cell 3
  have z1 := q1.cell 0
  have z2 := q2.cell 0
  have g0 := q0.frozen 0
  have g1 := q0.frozen 1
  have g2 := q0.frozen 2
  have g3 := q0.frozen 3
  have g4 := q1.frozen 0
  have g5 := q2.frozen 0
  have l0 := q0.lt
  have l1 := q1.lt
  have l2 := q2.lt
  simp only [List.getElem?_cons_zero, List.getElem?_cons_succ] at x1 x2 x3 x4 y0 y1 y2 y3 z1 z2
  have K := ((((((Keeps.set w3 w.heap.size 0 (.slice aa na ca)).trans (Keeps.set _ w.heap.size 1 (.slice a0 n0 c0)) (by simp)).trans (Keeps.set _ w.heap.size 2 (.slice a1 n1 c1)) (by simp)).trans (Keeps.set _ w.heap.size 3 (.slice a2 n2 c2)) (by simp)).mono (T := [w.heap.size, w.heap.size + 1, w.heap.size + 1 + 1]) (by simp)).trans (Keeps.set _ (w.heap.size + 1) 0 (.int .i64 0)) (by simp)).trans (Keeps.set _ (w.heap.size + 1 + 1) 0 (.int .i64 0)) (by simp)
  have hbw : Below w.heap.size w w3 := HB.out.trans (hb3.mono HB.out.size)
  have HEnd : Hid (ScopeIs w st (.returned (.tuple #[.agg #[(.slice aa na ca), (.slice a0 n0 c0), (.slice a1 n1 c1), (.slice a2 n2 c2)], .int .i64 0, .int .i64 0])) ((((((w3.setCell ⟨w.heap.size, 0, none⟩ (.slice aa na ca)).setCell ⟨w.heap.size, 1, none⟩ (.slice a0 n0 c0)).setCell ⟨w.heap.size, 2, none⟩ (.slice a1 n1 c1)).setCell ⟨w.heap.size, 3, none⟩ (.slice a2 n2 c2)).setCell ⟨w.heap.size + 1, 0, none⟩ (.int .i64 0)).setCell ⟨w.heap.size + 1 + 1, 0, none⟩ (.int .i64 0))) := Lib.hid ⟨(.slice aa na ca), (.slice a0 n0 c0), (.slice a1 n1 c1), (.slice a2 n2 c2), rfl, hbw.trans (K.toBelow _ hbw.size (by simp; omega)), own_base (own_keeps ho.vars K (fun g hg => by have := own_far ho.vars hg; simp; omega)) (by omega), own_base (own_keeps ho.r0 K (fun g hg => by have := own_far ho.r0 hg; simp; omega)) (by omega), own_base (own_keeps ho.r1 K (fun g hg => by have := own_far ho.r1 hg; simp; omega)) (by omega), own_base (own_keeps ho.r2 K (fun g hg => by have := own_far ho.r2 hg; simp; omega)) (by omega)⟩
  clear hbw K ho q0 q1 q2 hb3 hF3 HF HVs HB1 HA0 HA1 HA2 hs1 hs3 hlow HB HS0
  go_wp2_with fail
  refine leaves_cons (f := 35) (args := #[.pointer (some ⟨w.heap.size, 0, none⟩), .pointer (some ⟨w.heap.size + 1, 0, none⟩), .pointer (some ⟨w.heap.size + 1 + 1, 0, none⟩)]) (by simp) (by simp [go_sem]) ?_
  refine (sCatch_idle _ _ _ _).mono ?_
  rintro e u' w'' ⟨rfl, rfl, rfl⟩
  simp [Leaves, settle, results, Tryz.results15, go_sem, y0, y1, y2, y3, z1, z2]
  exact HEnd.out
end ScD
end Go.Proofs.YtmdkocegnbcgmaaGreatDoor
