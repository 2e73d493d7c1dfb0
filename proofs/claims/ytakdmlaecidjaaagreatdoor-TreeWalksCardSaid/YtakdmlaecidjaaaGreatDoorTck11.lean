/- Which lists are trees: the program's check, whole. -/
import Derived.Test.YtakdmlaecidjaaaGreatDoorTck9
import Derived.Test.YtakdmlaecidjaaaGreatDoorTree9
namespace Go.Proofs.YtakdmlaecidjaaaGreatDoor
open Go.RowKit ObjM
namespace TreeD

noncomputable def checkV (l : List Nd) : Int × Int :=
  match goV l 0 l (List.replicate l.length false) with
  | .inl i => ((i : Int), 60)
  | .inr u => if l = [] then (0, 60) else if wholeB l u = false then ((l.length : Int) - 1, 60) else if 200 < deepV l then (0, 61) else (0, 0)

set_option maxRecDepth 100000 in
set_option maxHeartbeats 1000000 in
theorem wrongOf_any (at_ er : Int) (w : World) :
    Calls Tryz.prog 23 #[.iface 47 (.agg #[.int .i64 at_, .int .i64 er])] w fun e w' => e = .returned (.agg #[.int .i64 at_, .int .i64 er]) ∧ Below w.heap.size w w' := by
  have hta : ∀ W, (Instr.typeAssert (.iface 47 (.agg #[.int .i64 at_, .int .i64 er])) 20 47 true).run Tryz.prog W = .ok (.tuple #[.agg #[.int .i64 at_, .int .i64 er], .bool true]) W := by intro W; kernel_rfl
  go_enter Tryz.func23, Tryz.ntmps23
  go_wp2
  refine bodyPost_ret (v := .agg #[.int .i64 at_, .int .i64 er]) (by simp [results, Tryz.results23, go_sem]) rfl ⟨rfl, ?_⟩
  repeat (first | exact Below.refl _ _ | refine Below.alloc ?_ (by simp) _ | refine Below.setCell ?_ (by simp) _)
theorem tCatch_end {w w1 : World} {Q R B : Nat} {q0 r0 : Value} {p er : Int} (hQ : Has w Q 3 [q0]) (hR : Has w R 36 [r0])
    (hk : KeepsT [] w w1) (hb : Below B w w1) (h2 : B ≤ Q) (h3 : B ≤ R) :
    Below B w ((w1.setCell ⟨Q, 0, none⟩ (.int .i64 p)).setCell ⟨R, 0, none⟩ (.int .i64 er)) ∧
    Has ((w1.setCell ⟨Q, 0, none⟩ (.int .i64 p)).setCell ⟨R, 0, none⟩ (.int .i64 er)) Q 3 [.int .i64 p] ∧
    Has ((w1.setCell ⟨Q, 0, none⟩ (.int .i64 p)).setCell ⟨R, 0, none⟩ (.int .i64 er)) R 36 [.int .i64 er] := by
  have nQR : Q ≠ R := hQ.ne hR (by decide +kernel)
  have q1 := (hQ.keepsT hk (by simp)).set 0 (.int .i64 p)
  have r1 := hR.keepsT hk (by simp)
  refine ⟨(hb.setCell h2 _).setCell h3 _, ?_, ?_⟩
  · exact q1.keeps (Keeps.set _ R 0 _) (by simpa using nQR)
  · exact (r1.keeps (Keeps.set _ Q 0 _) (by simpa using nQR.symm)).set 0 _
set_option maxRecDepth 100000 in
set_option maxHeartbeats 2000000 in
theorem tCatch_panicking (Q R B : Nat) (p : Int) (q0 r0 : Value) (w : World)
    (hQ : Has w Q 3 [q0]) (hR : Has w R 36 [r0]) (hB : B ≤ Q ∧ B ≤ R) (hBw : B ≤ w.heap.size) :
    CallsD Tryz.prog 22 #[.pointer (some ⟨Q, 0, none⟩), .pointer (some ⟨R, 0, none⟩)] (.panicking (panW p)) w fun e u' w' =>
      e = .returned (.tuple #[]) ∧ u' = .panicking [{ v := .iface 47 (.agg #[.int .i64 p, .int .i64 60]), recovered := true }] ∧ Below B w w' ∧
      Has w' Q 3 [.int .i64 p] ∧ Has w' R 36 [.int .i64 60] := by
  have HW := fun W => Lib.hid (wrongOf_any p 60 W)
  have nQR : Q ≠ R := hQ.ne hR (by decide +kernel)
  refine callsD_of_wpS Tryz.func22 rfl fun c₀ cs hu => ?_
  apply wpS_seq
  apply wpS_region
  simp [wpOpsS, go_sem, recoverD, hu, panW, Tryz.ntmps22, Exit.thenS]
  apply wpS_seq
  apply wpS_region
  simp [wpOpsS, go_sem, Exit.thenS]
  refine wpS_cond (t := true) (by simp [Act.eval, Array.replicate]) ?_
  simp only [if_true]
  refine wpS_of_wp ?_
  go_wp2_with fail
  refine ((HW _).out).mono ?_
  rintro e w1 ⟨rfl, hb1⟩
  have hK1 : KeepsT [] w w1 := KeepsT.below hb1 []
  have q1 := hQ.keepsT hK1 (by simp)
  have r1 := hR.keepsT hK1 (by simp)
  have HA := Lib.hid (Has.new w1 47 [.int .i64 p, .int .i64 60])
  have qc := q1.cell 0
  have rc := r1.cell 0
  have qf := q1.frozen 0
  have rf := r1.frozen 0
  have ql := q1.lt
  have rl := r1.lt
  simp at qc rc
  have HK1 := Lib.hid hK1
  have HB1 := Lib.hid (hb1.mono hBw)
  have HEnd := Lib.hid (fun (W : World) (hk : KeepsT [] w W) (hb : Below B w W) => tCatch_end (p := p) (er := 60) hQ hR hk hb hB.1 hB.2)
  clear hK1 hb1 q1 r1
  go_wp2
  go_region_with (fail)
  all_goals
    refine ⟨rfl, _, rfl, _, by simp [results, Tryz.results22, go_sem], rfl, rfl, ?_⟩
    have hw := HEnd.out w1 HK1.out HB1.out
    have hz := hw.2.1.lt
    exact ⟨(hw.1.alloc (Nat.le_trans hBw hw.1.size) _).drew, ((hw.2.1.keepsT ((KeepsT.refl [] _).alloc _) (by simp)).keeps (Keeps.drewN [] _ 1) (by simp)), ((hw.2.2.keepsT ((KeepsT.refl [] _).alloc _) (by simp)).keeps (Keeps.drewN [] _ 1) (by simp))⟩
def wholeFrom (l : List Nd) (u : List Bool) (k : Nat) : Bool := (List.range' k (l.length - 1 - k)).all fun n => u.getD n false && !decide (kindAt l n = 1)
theorem whole_start (l : List Nd) (u : List Bool) : wholeB l u = (decide (kindAt l ((l.length : Int) - 1) = 1) && wholeFrom l u 0) := by
  unfold wholeB wholeFrom
  rw [List.range_eq_range', Nat.sub_zero]
theorem whole_step {l : List Nd} {u : List Bool} {k : Nat} (h : k < l.length - 1) : wholeFrom l u k = ((u.getD k false && !decide (kindAt l k = 1)) && wholeFrom l u (k + 1)) := by
  unfold wholeFrom
  obtain ⟨q, hq⟩ : ∃ q, l.length - 1 - k = q + 1 := ⟨l.length - 1 - k - 1, by omega⟩
  have hq2 : l.length - 1 - (k + 1) = q := by omega
  rw [hq, hq2, List.range'_succ, List.all_cons]
theorem whole_end {l : List Nd} {u : List Bool} {k : Nat} (h : ¬ k < l.length - 1) : wholeFrom l u k = true := by
  unfold wholeFrom
  have : l.length - 1 - k = 0 := by omega
  rw [this]
  rfl
def WholeIs (l : List Nd) (u : List Bool) (w : World) (e : Ending) (w' : World) : Prop :=
  w = w' ∧ ((l ≠ [] ∧ wholeB l u = true ∧ e = .returned (.tuple #[])) ∨ (l = [] ∧ e = .panicked (panW 0)) ∨ (l ≠ [] ∧ wholeB l u = false ∧ e = .panicked (panW ((l.length : Int) - 1))))
set_option maxRecDepth 100000 in
set_option maxHeartbeats 8000000 in
theorem whole_any (l : List Nd) (u : List Bool) (hu : u.length = l.length) (lv : Value) (C D m : Nat) (w : World) (hm : l.length = m) (hm5 : m ≤ 100000) (hl : NdsAt w lv l) (hC : Has w C 51 [lv, .slice (some ⟨D, 0, none⟩) m m]) (hD : Has w D 4 (u.map Value.bool)) :
    Calls Tryz.prog 25 #[.pointer (some ⟨C, 0, none⟩)] w (WholeIs l u w) := by
  have HMy := fun n W => Lib.hid (must_yes n W)
  have HMn := fun n W => Lib.hid (must_no n W)
  obtain ⟨al, cl, rfl⟩ := hl.shape
  have c0 := hC.cell 0
  have c1 := hC.cell 1
  have cl0 := hC.lt
  have dl := hD.lt
  simp only [List.getElem?_cons_succ, List.getElem?_cons_zero] at c0 c1
  by_cases hz : l = []
  · subst hz
    have hm0 : m = 0 := by simpa using hm.symm
    subst hm0
    clear hC hD hl hm
    go_enter Tryz.func25, Tryz.ntmps25
    go_wp2_with fail
    refine ((HMn 0 _).out).mono ?_
    rintro e w1 ⟨rfl, hw⟩
    subst hw
    go_wp2
    exact ⟨rfl, rfl, .inr (.inl ⟨rfl, rfl⟩)⟩
  · have hpos : 0 < l.length := List.length_pos_iff.2 hz
    obtain ⟨q, hq⟩ : ∃ q, l.length = q + 1 := ⟨l.length - 1, by omega⟩
    have HL := Lib.hid hl
    have hqm : m = q + 1 := by omega
    subst hqm
    have HQ := Lib.hid hq
    have hql : q < l.length := by omega
    obtain ⟨b, o, kv, rfl, hb2, d0, -⟩ := hl.at q hql
    have hlast : kindAt l ((l.length : Int) - 1) = l[q].kind := by
      have : ((l.length : Int) - 1) = (q : Int) := by omega
      rw [this, kindAt_q hql]
    have HW := Lib.hid (whole_start l u)
    rw [hlast] at HW
    generalize l[q].kind = lk at d0 HW
    have hq1 : (q : Int) < (q : Int) + 1 := by omega
    have hq0 : (0 : Int) ≤ (q : Int) := by omega
    have HQ1 : Hid (((l.length : Int) - 1) = (q : Int)) := Lib.hid (by omega)
    have HDd := Lib.hid hD
    have hll : (l.length : Nat) = q + 1 := hq
    rw [hll] at c0
    have Hu := Lib.hid hu
    clear hC hD hlast hl hq hpos hm hll hu
    by_cases hlk : lk = 1
    · subst hlk
      simp only [decide_true, Bool.true_and] at HW
      obtain ⟨R, hR⟩ : ∃ R, wholeFrom l u 0 = R := ⟨_, rfl⟩
      rw [hR] at HW
      have HR := Lib.hid hR
      clear hR
      go_enter Tryz.func25, Tryz.ntmps25
      go_wp2_with fail
      refine ((HMy 0 _).out).mono ?_
      rintro e w1 ⟨rfl, hw⟩
      subst hw
      go_wp2_with fail
      refine ((HMy (q : Int) w).out).mono ?_
      rintro e w1 ⟨rfl, hw⟩
      subst hw
      clear d0
      go_wp2
      go_loopw [25] (fun iv wr => ∃ k : Nat, iv = .int .i64 (k : Int) ∧ k ≤ q ∧ Hid (wr = w) ∧ Hid (wholeFrom l u k = R)) (fun iv _ => q - (intOf iv).toNat)
      case atStart => exact ⟨0, rfl, by omega, Lib.hid rfl, HR⟩
      case round =>
        obtain ⟨k, rfl, hk, HWr, HRk⟩ := hrel
        obtain rfl := HWr.out
        clear HWr
        by_cases hlt : k < q
        · have hk1 : (k : Int) < (q : Int) := by omega
          have hkq1 : (k : Int) < (q : Int) + 1 := by omega
          have hk0 : (0 : Int) ≤ (k : Int) := by omega
          have hkl : k < l.length := by omega
          have hku : k < u.length := by have := Hu.out; omega
          obtain ⟨b2, o3, kv2, hb3, hb4, f0, -⟩ := HL.out.at k hkl
          injection hb3 with hb3
          injection hb3 with hb5 hb6
          subst hb5 hb6
          have db := (HDd.out.cell k).trans (bools_get hku)
          have HS : Hid (wholeFrom l u k = ((u.getD k false && !decide (l[k].kind = 1)) && wholeFrom l u (k + 1))) := Lib.hid (by
            rw [whole_step (by have := HQ.out; omega), kindAt_q hkl])
          generalize l[k].kind = kd at f0 HS
          obtain ⟨ub, hub⟩ : ∃ ub, u.getD k false = ub := ⟨_, rfl⟩
          rw [hub] at db HS
          clear hub
          cases ub
          · have hRf : R = false := by rw [← HRk.out, HS.out]; rfl
            subst hRf
            have hpost : WholeIs l u wr (.panicked (panW (q : Int))) wr := ⟨rfl, .inr (.inr ⟨hz, HW.out, by rw [HQ1.out]⟩)⟩
            clear HS HRk HW HR
            go_wp2_with fail
            refine ((HMn (q : Int) wr).out).mono ?_
            rintro e w1 ⟨rfl, hw⟩
            subst hw
            go_wp2
            exact ⟨rfl, hpost⟩
          · by_cases hkd : kd = 1
            · subst hkd
              have hRf : R = false := by rw [← HRk.out, HS.out]; rfl
              subst hRf
              have hpost : WholeIs l u wr (.panicked (panW (q : Int))) wr := ⟨rfl, .inr (.inr ⟨hz, HW.out, by rw [HQ1.out]⟩)⟩
              clear HS HRk HW HR
              go_wp2_with fail
              refine ((HMn (q : Int) wr).out).mono ?_
              rintro e w1 ⟨rfl, hw⟩
              subst hw
              go_wp2
              exact ⟨rfl, hpost⟩
            · have HR2 : Hid (wholeFrom l u (k + 1) = R) := Lib.hid (by rw [← HRk.out, HS.out, decide_eq_false hkd]; rfl)
              have hkb : (kd != 1) = true := by simp [hkd]
              clear HS HRk
              go_wp2_with fail
              refine ((HMy (q : Int) wr).out).mono ?_
              rintro e w1 ⟨rfl, hw⟩
              subst hw
              go_wp2
              go_roundw
              case rel => exact ⟨k + 1, by go_num, by omega, (by first | exact Lib.hid rfl | exact Lib.hid trivial), HR2⟩
              case measure => simp [intOf]; omega
        · have hkq : k = q := by omega
          have hRt : R = true := by rw [← HRk.out, whole_end (by have := HQ.out; omega)]
          subst hkq hRt
          have hpost : WholeIs l u wr (.returned (.tuple #[])) wr := ⟨rfl, .inl ⟨hz, HW.out, rfl⟩⟩
          go_wp2
          go_end0
          exact hpost
    · have hf : wholeB l u = false := by rw [HW.out, decide_eq_false hlk]; rfl
      have hlkb : (lk == 1) = false := by simp [hlk]
      have hpost : WholeIs l u w (.panicked (panW (q : Int))) w := ⟨rfl, .inr (.inr ⟨hz, hf, by rw [HQ1.out]⟩)⟩
      clear HW hf hlk
      go_enter Tryz.func25, Tryz.ntmps25
      go_wp2_with fail
      refine ((HMy 0 w).out).mono ?_
      rintro e w1 ⟨rfl, hw⟩
      subst hw
      go_wp2_with fail
      refine ((HMn (q : Int) w).out).mono ?_
      rintro e w1 ⟨rfl, hw⟩
      subst hw
      go_wp2
      exact ⟨rfl, hpost⟩
end TreeD
end Go.Proofs.YtakdmlaecidjaaaGreatDoor

namespace Go.Proofs.YtakdmlaecidjaaaGreatDoor
open Go.RowKit ObjM
namespace TreeD

theorem Still.below {w w' : World} {B : Nat} {lv : Value} {l : List Nd} (h : Still w lv l) (hB : w.heap.size ≤ B) (hb : Below B w w') : Still w' lv l := by
  refine ⟨h.tt.below (hb.mono hB), h.tk.below hB hb, h.nds.below hB hb, ?_⟩
  intro b o n c0 he i hi a m c hc
  subst he
  obtain ⟨b2, o2, kv, e1, e2, -, -, g2, -⟩ := h.nds.at i hi
  injection e1 with e1
  injection e1 with e3 e4
  subst e3 e4
  refine h.cap b o n c0 rfl i hi a m c ?_
  rw [← hc]
  exact (hb.cell (p := ⟨b, _, none⟩) (show b < B by omega)).symm
noncomputable def endV (l : List Nd) : Sum Nat (List Bool) → Int × Int
  | .inl i => ((i : Int), 60)
  | .inr u => if l = [] then (0, 60) else if wholeB l u = false then ((l.length : Int) - 1, 60) else if 200 < deepV l then (0, 61) else (0, 0)
theorem checkV_eq (l : List Nd) : checkV l = endV l (goV l 0 l (List.replicate l.length false)) := by
  unfold checkV endV
  rfl
def CheckIs (l : List Nd) (w : World) (e : Ending) (w' : World) : Prop := e = .returned (.tuple #[.int .i64 (checkV l).1, .int .i64 (checkV l).2]) ∧ Below w.heap.size w w'
theorem take_length {l : List Nd} {i : Nat} {x : Nd} {u u' : List Bool} (h : stepV l i x u = some u') : u'.length = u.length := take_len (step_good h).2
set_option maxRecDepth 100000 in
set_option maxHeartbeats 16000000 in
theorem check_any (l : List Nd) (lv : Value) (w : World) (hl5 : l.length ≤ 50000) (hokl : ∀ n ∈ l, NdOk n) (hkl : ∀ n ∈ l, n.kids.length < 1000000) (hS : Still w lv l) :
    Calls Tryz.prog 14 #[lv] w (CheckIs l w) := by
  obtain ⟨i0, hi, hz0, hz1, hz2⟩ := info_parts infoBool
  have hmf : ∀ (fn : Fn) (first cap : Array Value) (w : World), (Instr.makeFunc fn first cap).run Tryz.prog w = .ok (.func fn first cap) w := fun _ _ _ _ => rfl
  obtain ⟨m, hm⟩ : ∃ m, l.length = m := ⟨_, rfl⟩
  have HM := Lib.hid hm
  have HOl := Lib.hid hokl
  have HKl := Lib.hid hkl
  obtain ⟨al, cl, rfl⟩ := hS.nds.shape
  have r2 := Has.new w 3 [.int .i64 0]
  have hA1 : Below w.heap.size w (w.alloc (.cells #[.int .i64 0] 3)) := (Below.refl _ w).alloc (Nat.le_refl _) _
  have r3 := Has.new (w.alloc (.cells #[.int .i64 0] 3)) 36 [.int .i64 0]
  have hA2 : Below (w.heap.size + 1) (w.alloc (.cells #[.int .i64 0] 3)) ((w.alloc (.cells #[.int .i64 0] 3)).alloc (.cells #[.int .i64 0] 36)) := (Below.refl _ _).alloc (by simp) _
  have r2b := r2.below hA2 (by omega)
  have hBA : Below w.heap.size w ((w.alloc (.cells #[.int .i64 0] 3)).alloc (.cells #[.int .i64 0] 36)) := hA1.trans (hA2.mono (by omega))
  simp only [World.size_alloc] at r3
  have hsA : ((w.alloc (.cells #[.int .i64 0] 3)).alloc (.cells #[.int .i64 0] 36)).heap.size = w.heap.size + 1 + 1 := by simp
  have hSA := hS.below (Nat.le_refl _) hBA
  have hmi : ¬ (50000 : Int) < (m : Int) := by omega
  rw [hm] at hSA ⊢
  go_enter_defers Tryz.func14, Tryz.ntmps14
  go_wp2_with (at_make; refine wpList_make_full _ rfl _ _ 49 rfl (w.heap.size + 1 + 1) 4 i0 (.bool false) 1 Tryz.underlying49 hi hz0 hz1 .i64 .i64 (m : Int) (m : Int) m rfl rfl rfl rfl ?c1 ?c2 ?c3 ?_)
  case c1 => first | omega | (rw [hz2]; omega)
  case c2 => first | omega | (unfold maxLen; omega)
  intro w1 hrow hgrow
  have hD1 : Has w1 (w.heap.size + 1 + 1) 4 ((List.replicate m false).map Value.bool) := by
    rcases own_shape hrow with ⟨h, _⟩ | ⟨g, cap, cs, h1, h2, h3, h4, h5, h6, h7⟩
    · cases h
    · injection h1 with e1 e2 e3
      injection e1 with e1
      injection e1 with e1
      subst e1 e3
      rw [Nat.mul_one] at h6 h7
      rw [List.take_of_length_le (by omega)] at h7
      have h8 : (madeCells #[Value.bool false] m).toList = List.replicate m (.bool false) := toList_madeCells_one _ _
      have h9 : cs = List.replicate m (.bool false) := h7.trans h8
      rw [List.map_replicate, ← h9]
      exact h3
  have hg1 : Below (w.heap.size + 1 + 1) ((w.alloc (.cells #[.int .i64 0] 3)).alloc (.cells #[.int .i64 0] 36)) w1 := (Below.refl _ _).grown hgrow (by omega) (fun k hk => by cases hk)
  clear hrow hgrow hi hz0 hz1 hz2 r2 hA1 hA2 hS hokl hkl
  have hc := Has.new w1 51 [.slice al m cl, .slice (some ⟨w.heap.size + 1 + 1, 0, none⟩) m m]
  have hbc : Below w1.heap.size w1 (w1.alloc (.cells #[.slice al m cl, .slice (some ⟨w.heap.size + 1 + 1, 0, none⟩) m m] 51)) := (Below.refl _ w1).alloc (Nat.le_refl _) _
  have HD := Lib.hid (hD1.below hbc hD1.lt)
  have HC := Lib.hid hc
  have hs1 := hg1.size
  rw [hsA] at hs1
  have HB2 := Lib.hid (hg1.trans (hbc.mono (by omega)))
  clear hD1 hc hbc hg1
  have HBA := Lib.hid hBA
  have R2 := Lib.hid r2b
  have R3 := Lib.hid r3
  have HSA := Lib.hid hsA
  have HSt := Lib.hid hSA
  clear hBA r2b r3 hsA hSA
  generalize (w.alloc (.cells #[.int .i64 0] 3)).alloc (.cells #[.int .i64 0] 36) = wA at HBA R2 R3 HSA HSt HB2
  go_wp2
  change (Code.loop _).wp _ _ _ (World.alloc w1 _)
  generalize World.alloc w1 (.cells #[.slice al m cl, .slice (some ⟨w.heap.size + 1 + 1, 0, none⟩) m m] 51) = w2 at HC HD HB2 ⊢
  generalize w1.heap.size = C at HC hs1 ⊢
  obtain ⟨T0, hT0⟩ : ∃ T0, goV l 0 l (List.replicate m false) = T0 := ⟨_, rfl⟩
  have HV : Hid (checkV l = endV l T0) := Lib.hid (by rw [checkV_eq, HM.out, hT0])
  have HT0 : Hid (goV l 0 (l.drop 0) (List.replicate m false) = T0) := Lib.hid hT0
  clear hT0 hm
  go_loopw [17] (fun iv wr => ∃ (k : Nat) (u : List Bool), iv = .int .i64 (k : Int) ∧ k ≤ m ∧ u.length = m ∧ Below (w.heap.size + 1 + 1) wA wr ∧ Hid (Has wr C 51 [.slice al m cl, .slice (some ⟨w.heap.size + 1 + 1, 0, none⟩) m m]) ∧ Hid (Has wr (w.heap.size + 1 + 1) 4 (u.map Value.bool)) ∧ Hid (Done l k) ∧ Hid (goV l k (l.drop k) u = T0)) (fun iv _ => m - (intOf iv).toNat)
  case atStart => exact ⟨0, List.replicate m false, rfl, by omega, by simp, HB2.out, HC, HD, Lib.hid (fun i x h => by omega), HT0⟩
  case round =>
    obtain ⟨k, u, rfl, hk, hum, hBr, HCr, HDr, HDn, HTr⟩ := hrel
    have HBr := Lib.hid hBr
    have hsr := hBr.size
    rw [HSA.out] at hsr
    clear hBr
    by_cases hlt : k < m
    · have hk1 : (k : Int) < (m : Int) := by omega
      have hkl : k < l.length := by rw [HM.out]; exact hlt
      have HNd := Lib.hid (node_any l k hkl u (by rw [HM.out]; exact hum) (.slice al m cl) C (w.heap.size + 1 + 1) m (w.heap.size + 1 + 1) wA wr HM.out (by omega) HOl.out HKl.out HDn.out HSt.out (by rw [HSA.out]; exact Nat.le_refl _) HBr.out (by omega) (Nat.le_refl _) HCr.out HDr.out)
      have HGo := Lib.hid (go_cons l k hkl u)
      have HGx : Hid (l[k]? = some l[k]) := Lib.hid (List.getElem?_eq_getElem hkl)
      rw [HTr.out] at HGo
      generalize l[k] = x at HNd HGo HGx
      clear HTr HCr HDr
      go_wp2_with fail
      refine (HNd.out).mono ?_
      rintro e w3 (⟨u2, hs, rfl, hb, hc, hd⟩ | ⟨hs, rfl, hb⟩)
      · have HB3 := Lib.hid hb
        have HC3 := Lib.hid hc
        have HD3 := Lib.hid hd
        have hu2 : u2.length = m := by rw [take_length hs, hum]
        have HT3 : Hid (goV l (k + 1) (l.drop (k + 1)) u2 = T0) := Lib.hid (by rw [HGo.out, hs])
        have HDn3 := Lib.hid (HDn.out.next HGx.out (step_good hs).1)
        clear hb hc hd hs HGo HNd HGx HDn HBr
        go_wp2
        go_roundw
        case rel => exact ⟨k + 1, u2, by go_num, by omega, hu2, HB3.out, HC3, HD3, HDn3, HT3⟩
        case measure => simp [intOf]; omega
      · have HB3 := Lib.hid hb
        have hTe : T0 = .inl k := by rw [HGo.out, hs]
        subst hTe
        have hv : checkV l = ((k : Int), 60) := HV.out
        have Hv := Lib.hid hv
        clear hb hs HGo HNd HGx HDn HBr HV hv
        have r2 := R2.out.below HB3.out (by omega)
        have r3 := R3.out.below HB3.out (by omega)
        have hbw := HBA.out.trans (HB3.out.mono (show w.heap.size ≤ w.heap.size + 1 + 1 by omega))
        have HBw := Lib.hid hbw
        have HCt := Lib.hid (tCatch_panicking w.heap.size (w.heap.size + 1) w.heap.size (k : Int) _ _ w3 r2 r3 ⟨Nat.le_refl _, by omega⟩ hbw.size)
        clear r2 r3 hbw
        go_wp2
        refine leaves_cons (f := 22) (args := #[.pointer (some ⟨w.heap.size, 0, none⟩), .pointer (some ⟨w.heap.size + 1, 0, none⟩)]) (by simp) (by simp [go_sem]) ?_
        refine (HCt.out).mono ?_
        rintro e u' w'' ⟨rfl, rfl, hk, q1, q2⟩
        have c1 := q1.cell 0
        have c2 := q2.cell 0
        simp only [List.getElem?_cons_zero] at c1 c2
        have HEnd : Hid (Below w.heap.size w w'') := Lib.hid (HBw.out.trans hk)
        clear hk q1 q2
        simp [Leaves, settle, results, Tryz.results14, go_sem, c1, c2]
        exact ⟨by rw [Hv.out], HEnd.out⟩
    · have hkm : k = m := by omega
      subst hkm
      have hTe : T0 = .inr u := by
        rw [← HTr.out, List.drop_eq_nil_of_le (by rw [HM.out]; exact Nat.le_refl _)]
        rfl
      subst hTe
      have hV : checkV l = if l = [] then (0, 60) else if wholeB l u = false then ((l.length : Int) - 1, 60) else if 200 < deepV l then (0, 61) else (0, 0) := HV.out
      have HV2 := Lib.hid hV
      have hst := HSt.out.below (by rw [HSA.out]; exact Nat.le_refl _) HBr.out
      have HW := Lib.hid (whole_any l u (by rw [HM.out]; exact hum) (.slice al k cl) C (w.heap.size + 1 + 1) k wr HM.out (by omega) hst.nds HCr.out HDr.out)
      have HDp := Lib.hid (deep_any l _ wr hst.nds HOl.out (by rw [HM.out]; omega))
      clear hst hV HV HTr HDn
      go_wp2_with fail
      refine (HW.out).mono ?_
      rintro e w3 ⟨rfl, ⟨hz, hw, rfl⟩ | ⟨hz, rfl⟩ | ⟨hz, hw, rfl⟩⟩
      · go_wp2_with fail
        refine (HDp.out).mono ?_
        rintro e w5 ⟨rfl, hb5⟩
        have HB5 := Lib.hid (HBr.out.trans (hb5.mono hsr))
        have hv := HV2.out
        rw [if_neg hz, if_neg (by rw [hw]; decide)] at hv
        clear hb5 HV2 hw hz
        by_cases hd : 200 < deepV l
        · rw [if_pos hd] at hv
          have Hv := Lib.hid hv
          generalize deepV l = dv at hd ⊢
          clear hv
          have p0 := R2.out.below HB5.out (by omega)
          have p1 := R3.out.below HB5.out (by omega)
          have x0 := p0.cell 0
          have x1 := p1.cell 0
          have f0 := p0.frozen 0
          have f1 := p1.frozen 0
          have l0 := p0.lt
          have l1 := p1.lt
          simp only [List.getElem?_cons_zero] at x0 x1
          clear p0 p1
          have HEnd : Hid (Below w.heap.size w ((w5.setCell ⟨w.heap.size, 0, none⟩ (.int .i64 0)).setCell ⟨w.heap.size + 1, 0, none⟩ (.int .i64 61))) := Lib.hid (((HBA.out.trans (HB5.out.mono (by omega))).setCell (p := ⟨w.heap.size, 0, none⟩) (Nat.le_refl _) _).setCell (p := ⟨w.heap.size + 1, 0, none⟩) (by simp) _)
          go_wp2
          refine leaves_cons (f := 22) (args := #[.pointer (some ⟨w.heap.size, 0, none⟩), .pointer (some ⟨w.heap.size + 1, 0, none⟩)]) (by simp) (by simp [go_sem]) ?_
          refine (cCatch_idle _ _ _).mono ?_
          rintro e u' w'' ⟨rfl, rfl, rfl⟩
          simp [Leaves, settle, results, Tryz.results14, go_sem, x0, x1]
          exact ⟨by rw [Hv.out], HEnd.out⟩
        · rw [if_neg hd] at hv
          have Hv := Lib.hid hv
          generalize deepV l = dv at hd ⊢
          clear hv
          have p0 := R2.out.below HB5.out (by omega)
          have p1 := R3.out.below HB5.out (by omega)
          have x0 := p0.cell 0
          have x1 := p1.cell 0
          have f0 := p0.frozen 0
          have f1 := p1.frozen 0
          have l0 := p0.lt
          have l1 := p1.lt
          simp only [List.getElem?_cons_zero] at x0 x1
          clear p0 p1
          have HEnd : Hid (Below w.heap.size w ((w5.setCell ⟨w.heap.size, 0, none⟩ (.int .i64 0)).setCell ⟨w.heap.size + 1, 0, none⟩ (.int .i64 0))) := Lib.hid (((HBA.out.trans (HB5.out.mono (by omega))).setCell (p := ⟨w.heap.size, 0, none⟩) (Nat.le_refl _) _).setCell (p := ⟨w.heap.size + 1, 0, none⟩) (by simp) _)
          go_wp2
          refine leaves_cons (f := 22) (args := #[.pointer (some ⟨w.heap.size, 0, none⟩), .pointer (some ⟨w.heap.size + 1, 0, none⟩)]) (by simp) (by simp [go_sem]) ?_
          refine (cCatch_idle _ _ _).mono ?_
          rintro e u' w'' ⟨rfl, rfl, rfl⟩
          simp [Leaves, settle, results, Tryz.results14, go_sem, x0, x1]
          exact ⟨by rw [Hv.out], HEnd.out⟩
      · have hv := HV2.out
        rw [if_pos hz] at hv
        have Hv := Lib.hid hv
        clear hv HV2 HDp
        have r2 := R2.out.below HBr.out (by omega)
        have r3 := R3.out.below HBr.out (by omega)
        have hbw := HBA.out.trans (HBr.out.mono (show w.heap.size ≤ w.heap.size + 1 + 1 by omega))
        have HBw := Lib.hid hbw
        have HCt := Lib.hid (tCatch_panicking w.heap.size (w.heap.size + 1) w.heap.size 0 _ _ wr r2 r3 ⟨Nat.le_refl _, by omega⟩ hbw.size)
        clear r2 r3 hbw
        go_wp2
        refine leaves_cons (f := 22) (args := #[.pointer (some ⟨w.heap.size, 0, none⟩), .pointer (some ⟨w.heap.size + 1, 0, none⟩)]) (by simp) (by simp [go_sem]) ?_
        refine (HCt.out).mono ?_
        rintro e u' w'' ⟨rfl, rfl, hk, q1, q2⟩
        have c1 := q1.cell 0
        have c2 := q2.cell 0
        simp only [List.getElem?_cons_zero] at c1 c2
        have HEnd : Hid (Below w.heap.size w w'') := Lib.hid (HBw.out.trans hk)
        clear hk q1 q2
        simp [Leaves, settle, results, Tryz.results14, go_sem, c1, c2]
        exact ⟨by rw [show checkV [] = (0, 60) from hz ▸ Hv.out], HEnd.out⟩
      · have hv := HV2.out
        rw [if_neg hz, if_pos hw] at hv
        have Hv := Lib.hid hv
        clear hv HV2 HDp
        have r2 := R2.out.below HBr.out (by omega)
        have r3 := R3.out.below HBr.out (by omega)
        have hbw := HBA.out.trans (HBr.out.mono (show w.heap.size ≤ w.heap.size + 1 + 1 by omega))
        have HBw := Lib.hid hbw
        have HCt := Lib.hid (tCatch_panicking w.heap.size (w.heap.size + 1) w.heap.size ((l.length : Int) - 1) _ _ wr r2 r3 ⟨Nat.le_refl _, by omega⟩ hbw.size)
        clear r2 r3 hbw
        go_wp2
        refine leaves_cons (f := 22) (args := #[.pointer (some ⟨w.heap.size, 0, none⟩), .pointer (some ⟨w.heap.size + 1, 0, none⟩)]) (by simp) (by simp [go_sem]) ?_
        refine (HCt.out).mono ?_
        rintro e u' w'' ⟨rfl, rfl, hk, q1, q2⟩
        have c1 := q1.cell 0
        have c2 := q2.cell 0
        simp only [List.getElem?_cons_zero] at c1 c2
        have HEnd : Hid (Below w.heap.size w w'') := Lib.hid (HBw.out.trans hk)
        clear hk q1 q2
        simp [Leaves, settle, results, Tryz.results14, go_sem, c1, c2]
        exact ⟨by rw [Hv.out], HEnd.out⟩
end TreeD
end Go.Proofs.YtakdmlaecidjaaaGreatDoor
