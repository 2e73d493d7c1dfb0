/- A twin of the document's table; whether tables are alike. -/
import Derived.Test.YtpmbbkhhnkhcbaaTab36
import Derived.Deep.RegionHeld3
import Derived.Deep.RegionLaw
namespace Go.Proofs.Ytpmbbkhhnkhcbaa
open Go.RowKit ObjM Go.Maps
namespace TabD
open LabelM LabelD ValD

/-- append as one step of a region that draws its order: what it leaves is told by a predicate. -/
theorem step_append_ex {P : Program} {ops : Array Oper} {o : Oper} {a : Act} {w : World} {K : Act → World → Prop} {Q : Exit → Act → World → Prop} {E : Prop}
    (hg : o.guard = none) (s x : Operand) (t : TypeId) (hop : o.op = Op.call { callee := Callee.builtin Builtin.append, args := #[s, x], argTypes := #[t, t] })
    (v u : Value) (hs : a.eval s = v) (hx : a.eval x = u) (R : Value → World → Prop) (hrun : ∃ v' w', (Builtin.append_ #[t, t] o.type #[v, u]).run P w = .ok v' w' ∧ R v' w')
    (hK : ∀ v' w', R v' w' → K (a.put o.dst v') w') :
    if Region.wanted o (yielded ops a.tmps) = true then Oper.wp P o a w K Q else E := by
  have hw : Region.wanted o (yielded ops a.tmps) = true := by simp [Region.wanted, hg]
  rw [if_pos hw]
  subst hs hx
  obtain ⟨v', w', hrun, hr⟩ := hrun
  unfold Oper.wp
  simp [execOp, hop, resolve, invoke, builtin, hrun, Result.andThen]
  exact hK v' w' hr
theorem rowF_one (fs : List Fd) : ∀ u ∈ rowF fs, u.oneCell' = true := by
  intro u hu
  obtain ⟨f, _, hf⟩ := List.mem_flatMap.1 hu
  simp only [V.cells, List.mem_append, List.mem_cons, List.not_mem_nil, or_false] at hf
  rcases hf with (rfl | rfl | rfl | rfl) | (rfl | rfl | rfl | rfl) <;> rfl
theorem copy_fd {W : World} {B : Nat} {sv : Value} {fs : List Fd} (h : W.ownsRow B 42 8 sv fs.length (rowF fs)) (hn : fs.length ≤ 1000000) (base : Nat) (hb : base ≤ W.heap.size) (ty : TypeId) :
    ∃ v2 w2, (Builtin.append_ #[30, 30] ty #[.slice none 0 0, sv]).run Try.prog W = .ok v2 w2 ∧ w2.ownsRow base 42 8 v2 fs.length (rowF fs) ∧ W.grownBy w2 none ∧ (∀ x, v2.ownBlock = some x → W.heap.size ≤ x) := by
  obtain ⟨i0, hi, hz0, hz1, hz2⟩ := info_parts infoFd
  exact copy_run Try.underlying30 hi hz0 hz1 hz2 rfl (by decide) (by decide) h (rowF_one fs) hn base hb ty
def TwinIs (w : World) (B T lab N : Nat) (fs : List Fd) (ss : List St) (e : Ending) (w' : World) : Prop := ∃ Q O', e = .returned (.pointer (some ⟨Q, 0, none⟩)) ∧ Both w' B T Q lab N fs ss O' ∧ Below w.heap.size w w'
set_option maxRecDepth 100000 in
set_option maxHeartbeats 4000000 in
theorem twin_any {w : World} {B T R lab N : Nat} {fs : List Fd} {ss : List St} {O : List Nat} (hb : Both w B T R lab N fs ss O) : Calls Try.prog 23 #[.pointer (some ⟨R, 0, none⟩)] w (TwinIs w B T lab N fs ss) := by
  have HB := Lib.hid hb
  obtain ⟨fv, pm, sv, nm, gv, rv, h1, h2, h3, h4, h5, h6, h7, h8, h9⟩ := hb
  have t0 := h2.1.1.cell 0
  have t1 := h2.1.1.cell 1
  have t2 := h2.1.1.cell 2
  have tl := h2.1.1.lt
  simp only [List.getElem?_cons_zero, List.getElem?_cons_succ] at t0 t1 t2
  have HCF := Lib.hid (fun (W : World) (hk : Keeps [] w W) => copy_fd (own_keeps h2.1.2.1 hk (by simp)) h2.1.2.2.2.2 w.heap.size hk.size 30)
  have HCS := Lib.hid (fun (W : World) (hk : Keeps [] w W) => copy_st (own_keeps h2.2.1 hk (by simp)) h2.2.2.2 w.heap.size hk.size 31)
  have HR := Lib.hid (fun (W : World) (hk : Keeps [] w W) => h2.1.1.keeps hk (by simp))
  have K0 := Keeps.drew [] w
  have HEnd : Hid (∀ (W : World) (v1 v2 : Value), Keeps [] w W → W.ownsRow w.heap.size 42 8 v1 fs.length (rowF fs) → (∀ x, v1.ownBlock = some x → w.heap.size ≤ x) → W.ownsRow w.heap.size 44 2 v2 ss.length (rowS ss) → TwinIs w B T lab N fs ss (.returned (.pointer (some ⟨W.heap.size, 0, none⟩))) (W.alloc (.cells #[.int .u64 (lab : Int), v1, v2] 33))) := Lib.hid (by
    intro W v1 v2 hk o1 hf o2
    have hk2 : Keeps [] w (W.alloc (.cells #[.int .u64 (lab : Int), v1, v2] 33)) := hk.trans (Keeps.alloc [] W _) (by simp)
    have hbl : Below w.heap.size w (W.alloc (.cells #[.int .u64 (lab : Int), v1, v2] 33)) := hk2.toBelow _ (Nat.le_refl _) (by simp)
    exact ⟨W.heap.size, _, rfl, ⟨fv, pm, sv, nm, v1, v2, h1.below hbl, ⟨⟨Has.new W 33 [.int .u64 (lab : Int), v1, v2], own_base (own_keeps o1 (Keeps.alloc [] W _) (by simp)) h9, h2.1.2.2⟩, own_base (own_keeps o2 (Keeps.alloc [] W _) (by simp)) h9, h2.2.2⟩, fun x hx hg => by
      have q1 := (own_lt h1.1.2.1 x hx).2
      have q2 := hf x hg
      omega, Nat.le_trans h9 hk.size, h5, h6, h7, rfl, Nat.le_trans h9 hk2.size⟩, hbl⟩)
  obtain ⟨ag, cg, rfl⟩ := own_slice h2.1.2.1
  obtain ⟨ar, cr, rfl⟩ := own_slice h2.2.1
  clear h1 h2 h3 h4 h5 h6 h7 h8 h9
  go_enter Try.func23, Try.ntmps23
  go_wp2
  go_region_law (first
    | (refine step_append_ex rfl (.const (.slice none 0 0)) (.tmp 10) 30 rfl _ _ rfl rfl _ (HCF.out _ (by first | exact K2 | exact K0)) ?_
       rintro v1 w1 ⟨o1, g1, f1⟩
       obtain ⟨y1, z1, rfl⟩ := own_slice o1
       have K1 : Keeps [] w w1 := by first | exact K2.trans (Keeps.grown g1) (by simp) | exact K0.trans (Keeps.grown g1) (by simp)
       have i10 := (HR.out _ K1).cell 0
       have i11 := (HR.out _ K1).cell 1
       have i12 := (HR.out _ K1).cell 2
       have i1l := (HR.out _ K1).lt
       simp only [List.getElem?_cons_zero, List.getElem?_cons_succ] at i10 i11 i12)
    | (refine step_append_ex rfl (.const (.slice none 0 0)) (.tmp 15) 31 rfl _ _ rfl rfl _ (HCS.out _ (by first | exact K1 | exact K0)) ?_
       rintro v2 w2 ⟨o2, g2, f2⟩
       obtain ⟨y2, z2, rfl⟩ := own_slice o2
       have K2 : Keeps [] w w2 := by first | exact K1.trans (Keeps.grown g2) (by simp) | exact K0.trans (Keeps.grown g2) (by simp)
       have i20 := (HR.out _ K2).cell 0
       have i21 := (HR.out _ K2).cell 1
       have i22 := (HR.out _ K2).cell 2
       have i2l := (HR.out _ K2).lt
       simp only [List.getElem?_cons_zero, List.getElem?_cons_succ] at i20 i21 i22))
  all_goals first
    | (have HE := Lib.hid (HEnd.out w2 _ _ K2 (own_keeps o1 (Keeps.grown g2) (by simp)) f1 o2)
       clear o1 o2 g1 g2 K1 K2
       go_wp2
       go_ret
       exact HE.out)
    | (have HE := Lib.hid (HEnd.out w1 _ _ K1 o1 (fun x hx => Nat.le_trans K2.size (f1 x hx)) (own_keeps o2 (Keeps.grown g1) (by simp)))
       clear o1 o2 g1 g2 K1 K2
       go_wp2
       go_ret
       exact HE.out)
end TabD
end Go.Proofs.Ytpmbbkhhnkhcbaa
