/- Whether inputs are alike to somebody. -/
import Derived.Test.YticgpfigjkgfaaaDoorTraceAl
import Derived.Deep.RegionHeld3
namespace Go.Proofs.YticgpfigjkgfaaaDoor
open Go.RowKit ObjM Shell
namespace TraceD
open LabelM LabelD

def inV (a : Nat → Option Addr) (z : Nat → List Int) (q : Nat → Nat) : List Value :=
  [.slice (a 0) (z 0).length (q 0), .slice (a 1) (z 1).length (q 1), .slice (a 2) (z 2).length (q 2), .slice (a 3) (z 3).length (q 3), .slice (a 4) (z 4).length (q 4), .slice (a 5) (z 5).length (q 5), .slice (a 6) (z 6).length (q 6), .slice (a 7) (z 7).length (q 7)]
theorem lt8 {j : Nat} (h : j < 8) : j = 0 ∨ j = 1 ∨ j = 2 ∨ j = 3 ∨ j = 4 ∨ j = 5 ∨ j = 6 ∨ j = 7 := by omega
theorem inV_at (a : Nat → Option Addr) (z : Nat → List Int) (q : Nat → Nat) {j : Nat} (h : j < 8) : (inV a z q)[j]? = some (.slice (a j) (z j).length (q j)) := by
  rcases lt8 h with rfl | rfl | rfl | rfl | rfl | rfl | rfl | rfl <;> rfl
def alikeF (ms : List Nat) (see : Nat) (z y : Nat → List Int) (j : Nat) : Bool := !flowsB (ms.getD j 0) see || (z j == y j)
def alikeFrom (ms : List Nat) (see : Nat) (z y : Nat → List Int) (k : Nat) : Bool := ((List.range 8).drop k).all (alikeF ms see z y)
theorem alikeFrom_step (ms : List Nat) (see : Nat) (z y : Nat → List Int) {k : Nat} (h : k < 8) : alikeFrom ms see z y k = (alikeF ms see z y k && alikeFrom ms see z y (k + 1)) := by
  unfold alikeFrom
  rw [List.drop_eq_getElem_cons (by simpa using h), List.all_cons]
  simp
theorem alikeFrom_end (ms : List Nat) (see : Nat) (z y : Nat → List Int) : alikeFrom ms see z y 8 = true := rfl

set_option maxRecDepth 100000 in
set_option maxHeartbeats 4000000 in
theorem alike_any (m0 m1 m2 m3 m4 m5 m6 m7 see : Nat) (hms : ∀ j, [m0, m1, m2, m3, m4, m5, m6, m7].getD j 0 < M64) (hse : see < M64) (a a' : Nat → Option Addr) (z y : Nat → List Int) (q q' : Nat → Nat) (w : World)
    (hz : ∀ j, j < 8 → IntsAt w .i64 (.slice (a j) (z j).length (q j)) (z j)) (hy : ∀ j, j < 8 → IntsAt w .i64 (.slice (a' j) (y j).length (q' j)) (y j)) :
    Calls Tryd.prog 17 #[.agg (inV a z q).toArray, .agg (inV a' y q').toArray, .agg #[.int .u64 (m0 : Int), .int .u64 (m1 : Int), .int .u64 (m2 : Int), .int .u64 (m3 : Int), .int .u64 (m4 : Int), .int .u64 (m5 : Int), .int .u64 (m6 : Int), .int .u64 (m7 : Int)], .int .u64 (see : Int)] w
      fun e w' => e = .returned (.bool (alikeFrom [m0, m1, m2, m3, m4, m5, m6, m7] see z y 0)) ∧ Below w.heap.size w w' := by
  have HE := Lib.hid (fun (W : World) (hb : Below w.heap.size w W) j hj => Lib.hid (equal_any (z j) (y j) _ _ W ((hz j hj).below hb (Nat.le_refl _)) ((hy j hj).below hb (Nat.le_refl _))))
  have hix : ∀ (k : Nat), k < 8 → ∀ W : World, Sem.run Tryd.prog (Instr.index 25 (.agg #[.int .u64 (m0 : Int), .int .u64 (m1 : Int), .int .u64 (m2 : Int), .int .u64 (m3 : Int), .int .u64 (m4 : Int), .int .u64 (m5 : Int), .int .u64 (m6 : Int), .int .u64 (m7 : Int)]) (.int .i64 (k : Int))) W = .ok (.int .u64 ([m0, m1, m2, m3, m4, m5, m6, m7].getD k 0 : Nat)) W := by
    intro k hk W
    rcases lt8 hk with rfl | rfl | rfl | rfl | rfl | rfl | rfl | rfl <;> kernel_rfl
  clear hz hy
  obtain ⟨R, hR⟩ : ∃ R, alikeFrom [m0, m1, m2, m3, m4, m5, m6, m7] see z y 0 = R := ⟨_, rfl⟩
  have HR := Lib.hid hR
  rw [hR]
  clear hR
  have hA := (((Has.new w 34 (inV a z q)).keepsT ((KeepsT.refl [] _).alloc (.cells (inV a' y q').toArray 34)) (by simp)).keepsT ((KeepsT.refl [] _).alloc (.cells #[.int .u64 (m0 : Int), .int .u64 (m1 : Int), .int .u64 (m2 : Int), .int .u64 (m3 : Int), .int .u64 (m4 : Int), .int .u64 (m5 : Int), .int .u64 (m6 : Int), .int .u64 (m7 : Int)] 25)) (by simp))
  have hB := ((Has.new (w.alloc (.cells (inV a z q).toArray 34)) 34 (inV a' y q')).keepsT ((KeepsT.refl [] _).alloc (.cells #[.int .u64 (m0 : Int), .int .u64 (m1 : Int), .int .u64 (m2 : Int), .int .u64 (m3 : Int), .int .u64 (m4 : Int), .int .u64 (m5 : Int), .int .u64 (m6 : Int), .int .u64 (m7 : Int)] 25)) (by simp))
  simp only [World.size_alloc] at hB
  have hB0 : Below w.heap.size w (((w.alloc (.cells (inV a z q).toArray 34)).alloc (.cells (inV a' y q').toArray 34)).alloc (.cells #[.int .u64 (m0 : Int), .int .u64 (m1 : Int), .int .u64 (m2 : Int), .int .u64 (m3 : Int), .int .u64 (m4 : Int), .int .u64 (m5 : Int), .int .u64 (m6 : Int), .int .u64 (m7 : Int)] 25)) := by
    repeat (first | exact Below.refl _ _ | refine Below.alloc ?_ (by simp; try omega) _)
  obtain ⟨ia, hia⟩ : ∃ x, inV a z q = x := ⟨_, rfl⟩
  obtain ⟨ib, hib⟩ : ∃ x, inV a' y q' = x := ⟨_, rfl⟩
  have HIA := Lib.hid hia
  have HIB := Lib.hid hib
  simp only [hia, hib] at hA hB hB0 ⊢
  clear hia hib
  go_enter Tryd.func17, Tryd.ntmps17
  go_wp2
  change Code.wp _ _ _ _ (World.alloc (World.alloc (World.alloc w _) _) _)
  generalize World.alloc (World.alloc (World.alloc w _) _) _ = W1 at hA hB hB0 ⊢
  have HC : Hid (∀ W', Below W1.heap.size W1 W' → w.heap.size < W'.heap.size ∧ w.heap.size + 1 < W'.heap.size ∧ (∀ j, j < 8 → W'.cell? ⟨w.heap.size, j, none⟩ = some (.slice (a j) (z j).length (q j)) ∧ W'.cell? ⟨w.heap.size + 1, j, none⟩ = some (.slice (a' j) (y j).length (q' j)))) := Lib.hid (fun W' hb => by
    have p := hA.below hb hA.lt
    have r := hB.below hb hB.lt
    refine ⟨p.lt, r.lt, fun j hj => ⟨?_, ?_⟩⟩
    · rw [p.cell j, ← HIA.out, inV_at a z q hj]
    · rw [r.cell j, ← HIB.out, inV_at a' y q' hj])
  have B0 := Lib.hid hB0
  clear hA hB hB0
  obtain ⟨ms, hmsE⟩ : ∃ x, [m0, m1, m2, m3, m4, m5, m6, m7] = x := ⟨_, rfl⟩
  simp only [hmsE] at hms hix HR
  clear hmsE
  go_loopw [12] (fun i wr => ∃ k : Nat, i = .int .i64 k ∧ k ≤ 8 ∧ Below W1.heap.size W1 wr ∧ Hid (alikeFrom ms see z y k = R)) (fun i _ => 8 - (intOf i).toNat)
  case atStart => exact ⟨0, rfl, by omega, Below.refl _ _, HR⟩
  case round =>
    obtain ⟨k, rfl, hk, hBr, HD⟩ := hrel
    have HB := Lib.hid hBr
    by_cases hk8 : k < 8
    · obtain ⟨l0, l1, hcs⟩ := HC.out wr hBr
      obtain ⟨cA, cB⟩ := hcs k hk8
      have HD2 : Hid (alikeFrom ms see z y k = (alikeF ms see z y k && alikeFrom ms see z y (k + 1))) := Lib.hid (alikeFrom_step ms see z y hk8)
      have HF2 : Hid (alikeF ms see z y k = (!flowsB (ms.getD k 0) see || (z k == y k))) := Lib.hid rfl
      have hik := hix k hk8
      have HFl := fun W => Lib.hid (flows_any (ms.getD k 0) see (hms k) hse W)
      have HEk := fun (W : World) (hb : Below W1.heap.size W1 W) => HE.out W (B0.out.trans (hb.mono B0.out.size)) k hk8
      obtain ⟨mk, hmk⟩ : ∃ x, ms.getD k 0 = x := ⟨_, rfl⟩
      obtain ⟨c, hc⟩ : ∃ x, (z k == y k) = x := ⟨_, rfl⟩
      rw [hmk, hc] at HF2
      rw [hmk] at hik HFl
      simp only [hc] at HEk
      clear hmk hc hix hms hcs hBr
      have hk8i : (k : Int) < 8 := by omega
      cases hfl : flowsB mk see
      · rw [hfl] at HFl HF2
        have HN : Hid (alikeFrom ms see z y (k + 1) = R) := Lib.hid (by rw [← HD.out, HD2.out, HF2.out]; simp)
        clear hfl HD2 HF2 HEk
        have hun : undef = Value.tuple #[] := rfl
        go_wp2
        first
          | (go_region_with
              (first
                | (go_at_call 27
                   with_reducible refine ((HFl _).out).mono ?_
                   rintro e w5 ⟨rfl, hw⟩
                   subst hw)))
          | fail
        all_goals
          simp only [← hun]
          clear hun
          go_wp2
          go_roundw
          case rel => exact ⟨k + 1, by go_num, by omega, HB.out.drew, HN⟩
          case measure => simp [intOf]; omega
      · rw [hfl] at HFl HF2
        clear hfl
        go_wp2
        go_region_with
          (first
            | (go_at_call 27
               with_reducible refine ((HFl _).out).mono ?_
               rintro e w5 ⟨rfl, hw⟩
               subst hw)
            | (go_at_call 28
               with_reducible refine ((HEk _ HB.out.drew).out).mono ?_
               rintro e w6 ⟨rfl, hb6⟩
               have q6 : Below W1.heap.size W1 w6 := HB.out.drew.trans (hb6.mono HB.out.size)
               clear hb6))
        all_goals
          have Q6 := Lib.hid q6
          clear q6
          cases c
          · have hRf : R = false := by rw [← HD.out, HD2.out, HF2.out]; simp
            subst hRf
            go_wp2
            go_ret
            exact ⟨rfl, B0.out.trans (Q6.out.mono B0.out.size)⟩
          · have HN : Hid (alikeFrom ms see z y (k + 1) = R) := Lib.hid (by rw [← HD.out, HD2.out, HF2.out]; simp)
            go_wp2
            go_roundw
            case rel => exact ⟨k + 1, by go_num, by omega, Q6.out, HN⟩
            case measure => simp [intOf]; omega
    · obtain rfl : k = 8 := by omega
      have hRt : R = true := by rw [← HD.out]; rfl
      subst hRt
      clear hBr hms hix
      go_wp2
      go_ret
      exact ⟨rfl, B0.out.trans (HB.out.mono B0.out.size)⟩
end TraceD
end Go.Proofs.YticgpfigjkgfaaaDoor
