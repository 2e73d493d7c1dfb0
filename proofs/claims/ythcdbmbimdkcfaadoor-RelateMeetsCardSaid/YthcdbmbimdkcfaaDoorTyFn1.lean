/- Types: flat, composite, members. -/
import Derived.Test.YthcdbmbimdkcfaaDoorTyMeet
import Derived.Deep.RegionHeld3
import Derived.IntWalk
namespace Go.Proofs.YthcdbmbimdkcfaaDoor
open Go.RowKit ObjM
namespace TyD
open LexD (nameB)

theorem drewN_below {b : Nat} {w w' : World} (h : Below b w w') (n : Nat) : Below b w (w'.drewN n) := ⟨h.os, h.tape, h.output, h.size, fun k hk => h.block k hk⟩
def BoolIs (w : World) (b : Bool) (e : Ending) (w' : World) : Prop := e = .returned (.bool b) ∧ w = w'
theorem BoolIs.mk {w : World} {b c : Bool} (h : c = b) : BoolIs w b (.returned (.bool c)) w := ⟨by rw [h], rfl⟩
def BoolB (w : World) (b : Bool) (e : Ending) (w' : World) : Prop := e = .returned (.bool b) ∧ Below w.heap.size w w'
set_option maxHeartbeats 1000000 in
theorem flat_any (n : Int) (w : World) : Calls Tryd.prog 87 #[.int .i64 n] w (BoolIs w (flatB n)) := by
  go_enter Tryd.func87, Tryd.ntmps87
  go_wp2
  all_goals
    go_ret
    refine BoolIs.mk ?_
    unfold flatB
    rw [Bool.eq_iff_iff]
    simp
    try omega
set_option maxHeartbeats 1000000 in
theorem refFlat_any (n : Int) (w : World) : Calls Tryd.prog 65 #[.int .i64 n] w (BoolIs w (flatB n)) := by
  go_enter Tryd.func65, Tryd.ntmps65
  go_wp2
  all_goals
    go_ret
    refine BoolIs.mk ?_
    unfold flatB
    rw [Bool.eq_iff_iff]
    simp
    try omega
set_option maxRecDepth 100000 in
set_option maxHeartbeats 1000000 in
theorem composite_any (t : Ty) (vn va : Value) (w : World) (h : TyAt w vn va t) : Calls Tryd.prog 86 #[.agg #[.int .i64 t.kind, vn, va]] w (BoolB w (!flatB t.kind)) := by
  obtain ⟨an, cn, aa, ca, rfl, rfl⟩ := h.shape
  have HF := fun W => Lib.hid (flat_any t.kind W)
  generalize flatB t.kind = b at HF ⊢
  clear h
  cases b
  all_goals
    go_enter Tryd.func86, Tryd.ntmps86
    go_wp2_with fail
    refine ((HF _).out).mono ?_
    rintro e w1 ⟨rfl, rfl⟩
    go_wp2
    go_ret
    exact ⟨rfl, (Below.refl _ _).alloc (Nat.le_refl _) _⟩
theorem memB_drop {la : Int} {ts : List Ty} {k : Nat} (hk : k < ts.length) : memB la (ts.drop k) = (decide (la < ts[k].kind) && decide (ts[k].kind ≤ 6) && memB ts[k].kind (ts.drop (k + 1))) := by
  rw [List.drop_eq_getElem_cons hk]
  rfl
set_option maxRecDepth 100000 in
set_option maxHeartbeats 4000000 in
theorem members_any (ts : List Ty) (va : Value) (w : World) (h : TysAt w va ts) (hl : ts.length ≤ 140737488355328) : Calls Tryd.prog 84 #[va] w (BoolB w (memB 0 ts)) := by
  obtain ⟨aa, ca, rfl⟩ := h.shape
  have HV := Lib.hid (fun (W : World) (hb : Below w.heap.size w W) => h.below (Nat.le_refl _) hb)
  obtain ⟨m, hm⟩ : ∃ m, ts.length = m := ⟨_, rfl⟩
  obtain ⟨R, hR⟩ : ∃ R, memB 0 ts = R := ⟨_, rfl⟩
  have HR : Hid (memB 0 (ts.drop 0) = R) := Lib.hid hR
  have HM := Lib.hid hm
  rw [hm] at hl
  go_enter Tryd.func84, Tryd.ntmps84
  rw [hm, hR]
  clear h hm hR
  go_wp2
  go_loopw [8, 3] (fun i la wr => ∃ (k : Nat) (l : Int), i = .int .i64 (k : Int) ∧ la = .int .i64 l ∧ k ≤ m ∧ Below w.heap.size w wr ∧ Hid (memB l (ts.drop k) = R)) (fun i _ _ => m - (intOf i).toNat)
  case atStart => exact ⟨0, 0, rfl, rfl, by omega, Below.refl _ _, HR⟩
  case round =>
    obtain ⟨k, l, rfl, rfl, hk, hB, HD⟩ := hrel
    have HB := Lib.hid hB
    clear hB
    by_cases hlt : k < m
    · have hi1 : (k : Int) < (m : Int) := by omega
      have hkl : k < ts.length := by rw [HM.out]; exact hlt
      have HD2 := Lib.hid (memB_drop (la := l) hkl)
      obtain ⟨b, o, vn, vb, rfl, hb, c0, c1, c2, c3⟩ := (HV.out _ HB.out).at k hkl
      obtain ⟨an, cn, ab, cb, rfl, rfl⟩ := c3.shape
      generalize ts[k] = x at HD2 c0 c1 c2 c3
      obtain ⟨x, xn, xa⟩ := x
      change wr.cell? ⟨b, o + k * 3, none⟩ = some (.int .i64 x) at c0
      change Hid (memB l (ts.drop k) = (decide (l < x) && decide (x ≤ 6) && memB x (ts.drop (k + 1)))) at HD2
      have HBn := Lib.hid (HB.out.alloc HB.out.size (.cells #[.int .i64 x, .slice an (Ty.mk x xn xa).names.length cn, .slice ab (Ty.mk x xn xa).args.length cb] 25))
      clear c3 hkl
      by_cases h1 : x ≤ l
      · have HF : Hid (R = false) := Lib.hid (by rw [← HD.out, HD2.out, decide_eq_false (by omega)]; rfl)
        obtain rfl := HF.out
        clear HD HD2
        go_wp2
        go_ret
        exact ⟨rfl, HBn.out⟩
      · by_cases h2 : 6 < x
        · have HF : Hid (R = false) := Lib.hid (by rw [← HD.out, HD2.out, decide_eq_false (show ¬ x ≤ 6 by omega)]; simp)
          obtain rfl := HF.out
          clear HD HD2
          go_wp2
          go_ret
          exact ⟨rfl, HBn.out⟩
        · have HF : Hid (memB x (ts.drop (k + 1)) = R) := Lib.hid (by rw [← HD.out, HD2.out, decide_eq_true (show l < x by omega), decide_eq_true (show x ≤ 6 by omega)]; rfl)
          clear HD HD2
          go_wp2
          go_roundw
          case rel => exact ⟨k + 1, x, by go_num, rfl, by omega, HBn.out, HF⟩
          case measure => simp [intOf]; omega
    · have hkm : k = m := by omega
      have HF : Hid (R = true) := Lib.hid (by rw [← HD.out, List.drop_eq_nil_of_le (by rw [HM.out]; omega)]; rfl)
      obtain rfl := HF.out
      subst hkm
      go_wp2
      go_ret
      exact ⟨rfl, HB.out⟩
end TyD
end Go.Proofs.YthcdbmbimdkcfaaDoor
