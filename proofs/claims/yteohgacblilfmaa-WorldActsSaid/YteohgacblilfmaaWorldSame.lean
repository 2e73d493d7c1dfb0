/- Events, values, places alike. -/
import Derived.Test.YteohgacblilfmaaWorld6
import Derived.ChangeKeysEq
namespace Go.Proofs.Yteohgacblilfmaa
open Go.RowKit ObjM Shell Go.ChangeShapes Go.WideShapes
namespace WorldD
open LabelM LabelD TraceD

theorem evEqB_refl (a : Ev) : a.eqB a = true := by simp [Ev.eqB]
set_option maxRecDepth 100000 in
set_option maxHeartbeats 2000000 in
theorem same_self (l : List Ev) (v u : Value) (w : World) (hv : EvsAt w v l) (hu : EvsAt w u l) :
    Calls Try.prog 13 #[v, u] w fun e w' => e = .returned (.bool true) ∧ Below w.heap.size w w' := by
  have hl := hv.len
  obtain ⟨av, cv, rfl⟩ := hv.shape
  obtain ⟨au, cu, rfl⟩ := hu.shape
  have HV := Lib.hid hv
  have HU := Lib.hid hu
  clear hv hu
  have hnn : ((l.length : Int) != (l.length : Int)) = false := by simp
  go_enter Try.func13, Try.ntmps13
  go_wp2
  go_loopw [13] (fun i wr => ∃ k : Nat, i = .int .i64 k ∧ k ≤ l.length ∧ Below w.heap.size w wr) (fun i _ => l.length - (intOf i).toNat)
  case atStart => exact ⟨0, rfl, by omega, Below.refl _ _⟩
  case round =>
    obtain ⟨k, rfl, hk, hB⟩ := hrel
    have HB := Lib.hid hB
    by_cases hlt : k < l.length
    · obtain ⟨b, o, rfl, hbl, c0, c1, c2, c3⟩ := (HV.out.below hB).at k hlt
      obtain ⟨b', o', rfl, hbl', d0, d1, d2, d3⟩ := (HU.out.below hB).at k hlt
      obtain ⟨⟨x0, x1, x2, x3⟩, hx⟩ : ∃ x, l[k] = x := ⟨_, rfl⟩
      rw [hx] at c0 c1 c2 c3 d0 d1 d2 d3
      simp only at c0 c1 c2 c3 d0 d1 d2 d3
      clear hx
      have hi1 : (k : Int) < (l.length : Int) := by omega
      clear hB
      have hc := evEqB_refl ⟨x0, x1, x2, x3⟩
      have HE := fun W => neqIn W _ _ true hc
      have HQ := fun W => (eqIn W x0 x1 x2 x0 x1 x2 x3 x3).trans (by rw [hc])
      simp only [Ev.agg] at HE
      clear hc
      go_wp2
      go_quiet (fail)
      generalize hW : World.drewN wr nq = w5
      have hb5 : Below w.heap.size w w5 := by
        rw [← hW]
        exact below_drewN HB.out _
      clear hW HE HQ
      go_wp2
      go_roundw
      case rel => exact ⟨k + 1, by go_num, by omega, hb5⟩
      case measure => simp [intOf]; omega
    · obtain rfl : k = l.length := by omega
      have hlt2 : ¬ (l.length : Int) < (l.length : Int) := by omega
      clear hB
      go_wp2
      go_ret
      exact ⟨rfl, HB.out⟩
theorem eqVal (W : World) (kd n lab : Int) (s : ByteArray) : Sem.run Try.prog (Op.equalIn 10000 39 (.agg #[.int .i64 kd, .int .i64 n, .string s, .int .u64 lab]) (.agg #[.int .i64 kd, .int .i64 n, .string s, .int .u64 lab])) W = .ok true W := by
  simp [go_sem]
theorem neqVal (W : World) (kd n lab : Int) (s : ByteArray) : Sem.run Try.prog (binOp BinOp.neq 39 (.agg #[.int .i64 kd, .int .i64 n, .string s, .int .u64 lab]) (.agg #[.int .i64 kd, .int .i64 n, .string s, .int .u64 lab])) W = .ok (.bool false) W := by
  simp only [go_sem, eqVal, Result.andThen, Bool.not_true]
theorem infoInt : ∃ i, Try.prog.info? 3 = some i := by
  cases h : Try.prog.info? 3 with
  | none => exact absurd (show (Try.prog.info? 3).isSome = true by kernel_rfl) (by rw [h]; simp)
  | some i => exact ⟨i, rfl⟩
theorem aggInt (w : World) : (isAgg 3).run Try.prog w = .ok false w := by kernel_rfl
theorem eqInt (d : Nat) (a : Int) (W : World) : Sem.run Try.prog (Op.equalIn (d + 1) 3 (.int .i64 a) (.int .i64 a)) W = .ok true W := by
  simp [Op.equalIn, Sem.run_bind, run_underlying Try.underlying3, Result.andThen]
theorem eqPl (W : World) (n0 n1 n2 n3 n4 n5 n6 n7 : Int) : Sem.run Try.prog (Op.equalIn 10000 34 (.agg #[.int .i64 n0, .int .i64 n1, .int .i64 n2, .int .i64 n3, .int .i64 n4, .int .i64 n5, .int .i64 n6, .int .i64 n7]) (.agg #[.int .i64 n0, .int .i64 n1, .int .i64 n2, .int .i64 n3, .int .i64 n4, .int .i64 n5, .int .i64 n6, .int .i64 n7])) W = .ok true W := by
  obtain ⟨i, hi⟩ := infoInt
  rw [run_equalIn_array W 9999 _ _ Try.underlying34 hi, show Try.prog.cellsOf 3 = 1 by kernel_rfl]
  show Sem.run Try.prog (Op.eqItems 9999 3 1 _ _ [0, 1, 2, 3, 4, 5, 6, 7]) W = _
  have he : ∀ a W, Sem.run Try.prog (Op.equalIn 9999 3 (.int .i64 a) (.int .i64 a)) W = .ok true W := fun a W => eqInt 9998 a W
  simp only [Op.eqItems, Sem.run_bind, part, aggInt, Result.andThen, Nat.reduceMul, Nat.zero_mul, if_false, Bool.false_eq_true]
  simp [Result.andThen, he]
theorem eqPlB (W : World) (n0 n1 n2 n3 n4 n5 n6 n7 : Int) : Sem.run Try.prog (binOp BinOp.eql 34 (.agg #[.int .i64 n0, .int .i64 n1, .int .i64 n2, .int .i64 n3, .int .i64 n4, .int .i64 n5, .int .i64 n6, .int .i64 n7]) (.agg #[.int .i64 n0, .int .i64 n1, .int .i64 n2, .int .i64 n3, .int .i64 n4, .int .i64 n5, .int .i64 n6, .int .i64 n7])) W = .ok (.bool true) W := by
  simp only [go_sem, eqPl, Result.andThen]
end WorldD
end Go.Proofs.Yteohgacblilfmaa
