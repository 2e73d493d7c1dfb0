/- Spreading: what of a list was not seen yet. -/
import Derived.Test.YtajhkogknpmnbaaDoorFlowC
import Derived.Maps.AppendAt
namespace Go.Proofs.YtajhkogknpmnbaaDoor
open Go.RowKit ObjM
namespace FlowD

def moreS (st : Nat × List Int) (z : Int) : Nat × List Int := if z = -1 then st else if st.1.testBit z.toNat = true then st else (st.1 ||| 2 ^ z.toNat, st.2 ++ [z])
def moreF (st : Nat × List Int) (zs : List Int) : Nat × List Int := zs.foldl moreS st
theorem more_step {st : Nat × List Int} {zs : List Int} {j : Nat} (h : j < zs.length) : moreF st (zs.take (j + 1)) = moreS (moreF st (zs.take j)) zs[j] := by
  unfold moreF
  rw [List.take_succ_eq_append_getElem h, List.foldl_append]
  rfl
/-- A row of numbers that is read. -/
def RowAt (w : World) (F : Nat) (zs : List Int) : Prop := ∃ fcs, Has w F 3 fcs ∧ ∀ (i : Nat) (h : i < zs.length), fcs[i]? = some (.int .i64 zs[i])
/-- What was found so far, and what was seen: v is the list's head. -/
structure SpAt (w : World) (B T G L F : Nat) (v : Value) (st : Nat × List Int) (zs : List Int) : Prop where
  t : Has w T 54 [.slice (some ⟨G, 0, none⟩) 1 1]
  g : SetAt w G st.1
  x : st.1 < LabelM.M64
  l : Has w L 26 [v]
  o : w.ownsRow B 3 1 v st.2.length (st.2.map (Value.int .i64))
  b : B ≤ G ∧ B ≤ L
  f : RowAt w F zs
  d : ∀ g, v.ownBlock = some g → g ≠ F
theorem SpAt.add {w w' : World} {B T G L F : Nat} {v : Value} {st : Nat × List Int} {zs : List Int} (h : SpAt w B T G L F v st zs) {x : Nat} (hx : x < LabelM.M64) (hg : SetAt w' G x) (k : Keeps [G] w w') : SpAt w' B T G L F v (x, st.2) zs := by
  have n1 : T ≠ G := h.t.ne h.g (by decide)
  have n2 : L ≠ G := h.l.ne h.g (by decide)
  obtain ⟨fcs, hf, hi⟩ := h.f
  have n3 : F ≠ G := hf.ne h.g (by decide)
  exact ⟨h.t.keeps k (by simpa using n1), hg, hx, h.l.keeps k (by simpa using n2), own_keeps h.o k (fun g hg' => by simpa using own_ne h.o h.g (by decide) g hg'), h.b, ⟨fcs, hf.keeps k (by simpa using n3), hi⟩, h.d⟩
theorem SpAt.push {w w' : World} {B T G L F : Nat} {v v' : Value} {st : Nat × List Int} {zs : List Int} (h : SpAt w B T G L F v st zs) {z : Int}
    (ho : w'.ownsRow B 3 1 v' (st.2 ++ [z]).length ((st.2 ++ [z]).map (Value.int .i64))) (hk : w.grownBy w' v.ownBlock) (hv : v'.ownBlock = v.ownBlock ∨ ∃ g, v'.ownBlock = some g ∧ w.heap.size ≤ g) :
    SpAt (w'.setCell ⟨L, 0, none⟩ v') B T G L F v' (st.1, st.2 ++ [z]) zs := by
  have k := Keeps.grown hk
  have hne : ∀ {t : TypeId} {X : Nat} {cs : List Value}, Has w X t cs → t ≠ 3 → X ∉ v.ownBlock.toList := fun hX ht hm => by
    have := own_ne h.o hX ht _ (by simpa using hm)
    exact this rfl
  obtain ⟨fcs, hf, hi⟩ := h.f
  have hl := h.l.keeps k (hne h.l (by decide))
  have hs : ∀ {t : TypeId} {X : Nat} {cs : List Value}, Has w' X t cs → t ≠ 26 → Has (w'.setCell ⟨L, 0, none⟩ v') X t cs := fun hX ht => hX.keeps (Keeps.set _ _ _ _) (by simpa using hX.ne hl ht)
  have hf2 := hf.keeps k (fun hm => h.d F (by simpa using hm) rfl)
  refine ⟨hs (h.t.keeps k (hne h.t (by decide))) (by decide), hs (Has.keeps h.g k (hne h.g (by decide))) (by decide), h.x, by simpa using hl.set 0 v', own_keeps ho (Keeps.set _ _ _ _) (fun g hg => by simpa using own_ne ho hl (by decide) g hg), h.b, ⟨fcs, hs hf2 (by decide), hi⟩, ?_⟩
  intro g hg
  rcases hv with e | ⟨g', e, hge⟩
  · exact h.d g (by rw [← e]; exact hg)
  · rw [e] at hg
    injection hg with hg
    have := hf.lt
    omega
end FlowD
end Go.Proofs.YtajhkogknpmnbaaDoor
namespace Go.Proofs.YtajhkogknpmnbaaDoor
open Go.RowKit ObjM
namespace FlowD

theorem fl_at (g k : Nat) : (⟨g, 0, none⟩ : Addr).add k = ⟨g, k, none⟩ := by
  simp [Addr.add]
  intro h
  exact h.symm
theorem wpList_append_run {P : Program} {ops : Array Oper} {o : Oper} {rest : List Oper} {a : Act} {w : World} {Q : Exit → Act → World → Prop} (hw : Region.wanted o (yielded ops a.tmps) = true)
    (s x : Operand) (t : TypeId) (hop : o.op = Op.call { callee := Callee.builtin Builtin.append, args := #[s, x], argTypes := #[t, t] }) (v' : Value) (w' : World) (v u : Value) (hs : a.eval s = v) (hx : a.eval x = u)
    (hrun : (Builtin.append_ #[t, t] o.type #[v, u]).run P w = .ok v' w') (hK : wpList P ops Q rest (a.put o.dst v') w') : wpList P ops Q (o :: rest) a w := by
  unfold wpList
  rw [if_pos hw]
  refine .inl ?_
  subst hs hx
  unfold Oper.wp
  simp [execOp, hop, resolve, invoke, builtin, hrun, Result.andThen]
  exact hK
theorem infoFl : (Tryd.prog.info? 3).map (fun i => (i.zero, i.size, i.bytes)) = some (some (.int .i64 0), 1, 8) := by kernel_rfl
theorem info_fl : ∃ i, Tryd.prog.info? 3 = some i ∧ i.zero = some (.int .i64 0) ∧ i.size = 1 ∧ i.bytes = 8 := by
  have h := infoFl
  rcases e : Tryd.prog.info? 3 with _ | i
  · rw [e] at h
    cases h
  · rw [e] at h
    simp at h
    exact ⟨i, rfl, h.1, h.2.1, h.2.2⟩
theorem SpAt.keeps {w w' : World} {B T G L F : Nat} {v : Value} {st : Nat × List Int} {zs : List Int} (h : SpAt w B T G L F v st zs) (k : Keeps [] w w') : SpAt w' B T G L F v st zs := by
  obtain ⟨fcs, hf, hi⟩ := h.f
  exact ⟨h.t.keeps k (by simp), Has.keeps h.g k (by simp), h.x, h.l.keeps k (by simp), own_keeps h.o k (fun _ _ => by simp), h.b, ⟨fcs, hf.keeps k (by simp), hi⟩, h.d⟩
theorem SpAt.head {w w' : World} {B T G L F : Nat} {v : Value} {st : Nat × List Int} {zs : List Int} (h : SpAt w B T G L F v st zs) (hk : w.grownBy w' v.ownBlock) : Has w' L 26 [v] :=
  h.l.keeps (Keeps.grown hk) (fun hm => own_ne h.o h.l (by decide) _ (by simpa using hm) rfl)
theorem more_len {st : Nat × List Int} {zs : List Int} {j : Nat} (hj : j < zs.length) (z : Int) (hz : zs[j] = z) : moreF st (zs.take (j + 1)) = moreS (moreF st (zs.take j)) z := by rw [more_step hj, hz]
set_option maxRecDepth 100000 in
set_option maxHeartbeats 16000000 in
theorem more_any (B T G L F c : Nat) (v : Value) (st : Nat × List Int) (zs : List Int) (hz : zs.length ≤ 1000) (hst : st.2.length ≤ 100000) (hr : ∀ z ∈ zs, z = -1 ∨ 0 ≤ z ∧ z < 64) (w : World) (hB : B ≤ w.heap.size) (h : SpAt w B T G L F v st zs) :
    Calls Tryd.prog 55 #[.slice (some ⟨F, 0, none⟩) zs.length c, .pointer (some ⟨T, 0, none⟩), .pointer (some ⟨L, 0, none⟩)] w fun e w' => e = .returned (.tuple #[]) ∧ ∃ v', SpAt w' B T G L F v' (moreF st zs) zs ∧ Below B w w' := by
  obtain ⟨i0, hi, hz0, hz1, hz2⟩ := info_fl
  obtain ⟨m, hm⟩ : ∃ m, zs.length = m := ⟨_, rfl⟩
  have HM := Lib.hid hm
  have HR := Lib.hid hr
  have H0 : Hid (SpAt w B T G L F v (moreF st (zs.take 0)) zs ∧ Below B w w ∧ (moreF st (zs.take 0)).2.length ≤ 100000 + 0) := Lib.hid ⟨h, Below.refl _ _, hst⟩
  rw [hm]
  rw [hm] at hz
  clear h hst hr hm
  go_enter Tryd.func55, Tryd.ntmps55
  go_wp2
  go_loopw [8] (fun i wr => ∃ (j : Nat) (u : Value), i = .int .i64 (j : Int) ∧ j ≤ m ∧ Hid (SpAt wr B T G L F u (moreF st (zs.take j)) zs ∧ Below B w wr ∧ (moreF st (zs.take j)).2.length ≤ 100000 + j)) (fun i _ => m - (intOf i).toNat)
  case atStart => exact ⟨0, v, rfl, by omega, H0⟩
  case round =>
    obtain ⟨j, u, rfl, hj, HS⟩ := hrel
    clear H0
    by_cases hlt : j < m
    · have hi1 : (j : Int) < (m : Int) := by omega
      have hjl : j < zs.length := by rw [HM.out]; exact hlt
      obtain ⟨fcs, hF, hfi⟩ := HS.out.1.f
      have hc : wr.cell? ⟨F, j, none⟩ = some (.int .i64 zs[j]) := (hF.cell j).trans (hfi j hjl)
      have hlF := hF.lt
      have hr := HR.out _ (List.getElem_mem hjl)
      have HV := Lib.hid (fun z hz => more_len (st := st) hjl z hz)
      obtain ⟨z, hzj⟩ : ∃ z, zs[j] = z := ⟨_, rfl⟩
      rw [hzj] at hc hr
      have HV2 := Lib.hid (HV.out z hzj)
      have ct := HS.out.1.t.cell 0
      have lt := HS.out.1.t.lt
      have cl := HS.out.1.l.cell 0
      have ll := HS.out.1.l.lt
      have fl := HS.out.1.l.frozen 0
      simp only [List.getElem?_cons_zero] at ct cl
      clear HV hzj hF hfi
      generalize moreF st (zs.take j) = s at HS HV2
      by_cases hzz : z = -1
      · subst hzz
        have HS2 : Hid (SpAt wr B T G L F u (moreF st (zs.take (j + 1))) zs ∧ Below B w wr ∧ (moreF st (zs.take (j + 1))).2.length ≤ 100000 + (j + 1)) := Lib.hid (by
          rw [HV2.out, moreS, if_pos rfl]
          exact ⟨HS.out.1, HS.out.2.1, by have := HS.out.2.2; omega⟩)
        clear HS HV2
        go_wp2
        go_roundw
        case rel => exact ⟨j + 1, u, by go_num, by omega, HS2⟩
        case measure => simp [intOf]; omega
      · obtain ⟨q, rfl⟩ := Int.eq_ofNat_of_zero_le (show 0 ≤ z by omega)
        have hq : q < 64 := by omega
        have hb1 : ((q : Int) != -1) = true := by simp
        have HC := Lib.hid (has_one G s.1 1 q hq wr HS.out.1.g HS.out.1.x)
        obtain ⟨t, ht⟩ : ∃ t, s.1.testBit q = t := ⟨_, rfl⟩
        rw [ht] at HC
        go_wp2_with fail
        refine HC.out.mono ?_
        rintro e w2 ⟨rfl, rfl⟩
        clear HC
        cases t
        · have HV3 : Hid (moreF st (zs.take (j + 1)) = (s.1 ||| 2 ^ q, s.2 ++ [(q : Int)])) := Lib.hid (by rw [HV2.out, moreS, if_neg hzz, Int.toNat_natCast, ht, if_neg (by simp)])
          have HA := Lib.hid (add_one G s.1 1 q hq wr HS.out.1.g HS.out.1.x)
          clear HV2 ht
          go_wp2_with fail
          refine HA.out.mono ?_
          rintro e w3 ⟨rfl, hg3, k3⟩
          have h3 := HS.out.1.add (LabelM.or_lt HS.out.1.x (Nat.lt_of_lt_of_eq (Nat.pow_lt_pow_right (m := q) (n := 64) (a := 2) (by decide) hq) (by decide))) hg3 k3
          have k4 : Keeps [] w3 (w3.alloc (.cells #[.int .i64 (q : Int)] 3)) := Keeps.alloc [] w3 _
          have h4 := h3.keeps k4
          have hb3 : Below B w w3 := HS.out.2.1.trans (k3.toBelow B (Nat.le_trans hB HS.out.2.1.size) (fun x hx => by simp at hx; rw [hx]; exact HS.out.1.b.1))
          have hB3 : B ≤ w3.heap.size := Nat.le_trans hB hb3.size
          have hln := HS.out.2.2
          obtain ⟨v2, w5, hrun, ho, hk5, -, hv5⟩ := run_append_own_at (P := Tryd.prog) (w := w3.alloc (.cells #[.int .i64 (q : Int)] 3)) B 26 26 3 i0 (.int .i64 0) 1 8 Tryd.underlying26 hi hz0 hz1 hz2 rfl (by decide) _ _ _ h4.o ⟨w3.heap.size, 0, none⟩ 1 1 [.int .i64 (q : Int)] rfl
            (fun k u hk => by rw [fl_at, (Has.new w3 3 [.int .i64 (q : Int)]).cell]; exact hk)
            (fun u hu => by simp at hu; rw [hu]; rfl) (by unfold maxLen; simp; omega) (by simp; omega) (by simp; omega)
          obtain ⟨a2, n2, c2, rfl⟩ : ∃ a2 n2 c2, v2 = .slice a2 n2 c2 := by
            rcases own_shape ho with ⟨h9, h8, _⟩ | ⟨g', cap', cs', h9, _⟩
            · exact ⟨_, _, _, h9⟩
            · exact ⟨_, _, _, h9⟩
          have h5 := h4.push (z := (q : Int)) (by simpa using ho) hk5 (hv5.imp id (fun e => ⟨_, e, Nat.le_refl _⟩))
          have l5 := h4.head hk5
          have hb5 : Below B w (w5.setCell ⟨L, 0, none⟩ (.slice a2 n2 c2)) := by
            refine Below.setCell (hb3.trans ((k4.toBelow B hB3 (by simp)).trans ((Keeps.grown hk5).toBelow B (by simp; omega) (fun x hx => ?_)))) h4.b.2 _
            exact (own_lt h4.o x (by simpa using hx)).1
          have HS2 : Hid (SpAt (w5.setCell ⟨L, 0, none⟩ (.slice a2 n2 c2)) B T G L F (.slice a2 n2 c2) (moreF st (zs.take (j + 1))) zs ∧ Below B w (w5.setCell ⟨L, 0, none⟩ (.slice a2 n2 c2)) ∧ (moreF st (zs.take (j + 1))).2.length ≤ 100000 + (j + 1)) := Lib.hid ⟨by rw [HV3.out]; exact h5, hb5, by rw [HV3.out]; simp; omega⟩
          have HRun := Lib.hid hrun
          have ct3 := h3.t.cell 0
          have cl3 := h3.l.cell 0
          have ll3 := h3.l.lt
          have cl5 := l5.cell 0
          have fl5 := l5.frozen 0
          have ll5 := l5.lt
          simp only [List.getElem?_cons_zero] at ct3 cl3 cl5
          clear HS HA HV3 h3 k4 h4 hb3 hrun ho hk5 hv5 h5 l5 hb5 hg3 k3 hc hlF ct lt cl ll fl
          go_wp2_with (at_builtin; refine wpList_append_run (by rfl) (.tmp 23) (.tmp 25) 26 rfl _ _ _ _ rfl rfl HRun.out ?_)
          go_roundw
          case rel => exact ⟨j + 1, _, by go_num, by omega, HS2⟩
          case measure => simp [intOf]; omega
        · have HS2 : Hid (SpAt wr B T G L F u (moreF st (zs.take (j + 1))) zs ∧ Below B w wr ∧ (moreF st (zs.take (j + 1))).2.length ≤ 100000 + (j + 1)) := Lib.hid (by
            rw [HV2.out, moreS, if_neg hzz, Int.toNat_natCast, ht, if_pos rfl]
            exact ⟨HS.out.1, HS.out.2.1, by have := HS.out.2.2; omega⟩)
          clear HS HV2 ht
          go_wp2
          go_roundw
          case rel => exact ⟨j + 1, u, by go_num, by omega, HS2⟩
          case measure => simp [intOf]; omega
    · have hjm : j = m := by omega
      subst hjm
      have hT : zs.take j = zs := List.take_of_length_le (by rw [HM.out]; exact Nat.le_refl _)
      have HS2 : Hid (SpAt wr B T G L F u (moreF st zs) zs ∧ Below B w wr) := Lib.hid (by have := HS.out; rw [hT] at this; exact ⟨this.1, this.2.1⟩)
      clear HS hT
      go_wp2
      go_end0
      exact ⟨rfl, u, HS2.out⟩
end FlowD
end Go.Proofs.YtajhkogknpmnbaaDoor
namespace Go.Proofs.YtajhkogknpmnbaaDoor
open Go.RowKit ObjM
namespace FlowD

set_option maxRecDepth 100000 in
theorem fullSet_one (many : Int) (h1 : 1 ≤ many) (h2 : many ≤ 64) (w : World) : Calls Tryd.prog 51 #[.int .i64 many] w fun e w' => e = .returned (.slice (some ⟨w.heap.size, 0, none⟩) 1 1) ∧ SetAt w' w.heap.size 18446744073709551615 ∧ Below w.heap.size w w' := by
  have HN := Lib.hid (newSet_one many h1 h2 w)
  go_enter Tryd.func51, Tryd.ntmps51
  go_wp2_with fail
  refine HN.out.mono ?_
  rintro e w1 ⟨rfl, hs, hb⟩
  have HF := Lib.hid (fill_one w.heap.size 0 1 w1 hs)
  have HB := Lib.hid hb
  clear HN hs hb
  go_wp2_with fail
  refine HF.out.mono ?_
  rintro e w2 ⟨rfl, hs2, hk⟩
  have HE := Lib.hid (⟨hs2, HB.out.trans (hk.toBelow w.heap.size HB.out.size (fun x hx => by simp at hx; omega))⟩ : SetAt w2 w.heap.size 18446744073709551615 ∧ Below w.heap.size w w2)
  clear HF HB hs2 hk
  go_wp2
  go_ret
  exact ⟨rfl, HE.out⟩
end FlowD
end Go.Proofs.YtajhkogknpmnbaaDoor
