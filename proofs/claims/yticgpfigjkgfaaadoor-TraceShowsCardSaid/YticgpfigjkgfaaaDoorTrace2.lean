/- Whether events begin with others: both sides; the law's own tests. -/
import Derived.Test.YticgpfigjkgfaaaDoorTrace
import Derived.Deep.QuietTactic
namespace Go.Proofs.YticgpfigjkgfaaaDoor
open Go.RowKit ObjM
namespace TraceD
open LabelM LabelD

theorem eqIn (W : World) (x0 x1 x2 y0 y1 y2 : Int) (x3 y3 : ByteArray) :
    Sem.run Tryd.prog (Op.equalIn 10000 38 (.agg #[.int .i64 x0, .int .i64 x1, .int .i64 x2, .string x3]) (.agg #[.int .i64 y0, .int .i64 y1, .int .i64 y2, .string y3])) W = .ok (Ev.eqB ⟨x0, x1, x2, x3⟩ ⟨y0, y1, y2, y3⟩) W := by
  simp [go_sem, Ev.eqB]
  by_cases h0 : x0 = y0
  · by_cases h1 : x1 = y1
    · by_cases h2 : x2 = y2
      · by_cases h3 : x3.toList = y3.toList <;> simp [h0, h1, h2, h3]
      · simp [h0, h1, h2]
    · simp [h0, h1]
  · simp [h0]
theorem neqIn (W : World) (a b : Ev) (c : Bool) (h : a.eqB b = c) : Sem.run Tryd.prog (binOp BinOp.neq 38 a.agg b.agg) W = .ok (.bool (!c)) W := by
  subst h
  obtain ⟨x0, x1, x2, x3⟩ := a
  obtain ⟨y0, y1, y2, y3⟩ := b
  simp only [Ev.agg, go_sem, eqIn, Result.andThen]
theorem below_drewN {b : Nat} {w w' : World} (h : Below b w w') (n : Nat) : Below b w (w'.drewN n) := ⟨h.os, h.tape, h.output, h.size, fun k hk => h.block k hk⟩
/-- Whether m begins with l. -/
def beginsB : List Ev → List Ev → Bool
  | [], _ => true
  | _ :: _, [] => false
  | a :: r, b :: s => a.eqB b && beginsB r s
theorem beginsB_long : ∀ (l m : List Ev), m.length < l.length → beginsB l m = false
  | [], _, h => by simp at h
  | _ :: _, [], _ => rfl
  | a :: r, b :: s, h => by
    have := beginsB_long r s (by simpa using h)
    simp [beginsB, this]
theorem beginsB_drop {l m : List Ev} {k : Nat} (h : k < l.length) (h2 : k < m.length) : beginsB (l.drop k) (m.drop k) = (l[k].eqB m[k] && beginsB (l.drop (k + 1)) (m.drop (k + 1))) := by
  rw [List.drop_eq_getElem_cons h, List.drop_eq_getElem_cons h2]
  rfl
theorem Ev.eqB_refl (a : Ev) : a.eqB a = true := by simp [Ev.eqB]
theorem beginsB_append : ∀ (l m : List Ev), beginsB l (l ++ m) = true
  | [], _ => rfl
  | a :: r, m => by simp [beginsB, Ev.eqB_refl, beginsB_append r m]

set_option maxRecDepth 100000 in
set_option maxHeartbeats 2000000 in
theorem begins_any (l m : List Ev) (v u : Value) (w : World) (hv : EvsAt w v l) (hu : EvsAt w u m) :
    Calls Tryd.prog 13 #[v, u] w fun e w' => e = .returned (.bool (beginsB l m)) ∧ Below w.heap.size w w' := by
  have hl := hv.len
  have hm := hu.len
  obtain ⟨av, cv, rfl⟩ := hv.shape
  obtain ⟨au, cu, rfl⟩ := hu.shape
  have HV := Lib.hid hv
  have HU := Lib.hid hu
  clear hv hu
  by_cases hlm : m.length < l.length
  · have hI : (m.length : Int) < (l.length : Int) := by omega
    rw [beginsB_long l m hlm]
    go_enter Tryd.func13, Tryd.ntmps13
    go_wp2
    go_ret
    exact ⟨rfl, Below.refl _ _⟩
  · have hI : ¬ (m.length : Int) < (l.length : Int) := by omega
    obtain ⟨R, hR⟩ : ∃ R, beginsB l m = R := ⟨_, rfl⟩
    rw [hR]
    have H0 : Hid (beginsB (l.drop 0) (m.drop 0) = R) := Lib.hid (by simpa using hR)
    clear hR
    go_enter Tryd.func13, Tryd.ntmps13
    go_wp2
    go_loopw [14] (fun i wr => ∃ k : Nat, i = .int .i64 k ∧ k ≤ l.length ∧ Below w.heap.size w wr ∧ Hid (beginsB (l.drop k) (m.drop k) = R)) (fun i _ => l.length - (intOf i).toNat)
    case atStart => exact ⟨0, rfl, by omega, Below.refl _ _, H0⟩
    case round =>
      obtain ⟨k, rfl, hk, hB, HD⟩ := hrel
      have HB := Lib.hid hB
      have hsz := hB.size
      by_cases hlt : k < l.length
      · have hkm : k < m.length := by omega
        obtain ⟨b, o, rfl, hbl, c0, c1, c2, c3⟩ := (HV.out.below hB).at k hlt
        obtain ⟨b', o', rfl, hbl', d0, d1, d2, d3⟩ := (HU.out.below hB).at k hkm
        have HD2 := Lib.hid (beginsB_drop hlt hkm)
        obtain ⟨⟨x0, x1, x2, x3⟩, hx⟩ : ∃ x, l[k] = x := ⟨_, rfl⟩
        obtain ⟨⟨y0, y1, y2, y3⟩, hy⟩ : ∃ x, m[k] = x := ⟨_, rfl⟩
        rw [hx] at c0 c1 c2 c3 HD2
        rw [hy] at d0 d1 d2 d3 HD2
        simp only at c0 c1 c2 c3 d0 d1 d2 d3
        clear hx hy
        have hi1 : (k : Int) < (l.length : Int) := by omega
        have hi2 : (k : Int) < (m.length : Int) := by omega
        clear hB
        obtain ⟨c, hc⟩ : ∃ c, Ev.eqB ⟨x0, x1, x2, x3⟩ ⟨y0, y1, y2, y3⟩ = c := ⟨_, rfl⟩
        have HE := fun W => neqIn W _ _ c hc
        have HQ := fun W => (eqIn W x0 x1 x2 y0 y1 y2 x3 y3).trans (by rw [hc])
        simp only [Ev.agg] at HE
        rw [hc] at HD2
        clear hc
        go_wp2
        go_quiet (fail)
        generalize hW : World.drewN (wr.alloc (.cells #[.int .i64 x0, .int .i64 x1, .int .i64 x2, .string x3] 38)) nq = w5
        have hb5 : Below w.heap.size w w5 := by
          rw [← hW]
          exact below_drewN (HB.out.alloc hsz _) _
        clear hW HE HQ
        have HB5 := Lib.hid hb5
        clear hb5
        cases c
        · have hR : R = false := by
            rw [← HD.out, HD2.out]
            rfl
          subst hR
          go_wp2
          go_ret
          exact ⟨rfl, HB5.out⟩
        · go_wp2
          go_roundw
          case rel =>
            refine ⟨k + 1, by go_num, by omega, HB5.out, Lib.hid ?_⟩
            rw [← HD.out, HD2.out]
            rfl
          case measure => simp [intOf]; omega
      · obtain rfl : k = l.length := by omega
        have hR : R = true := by
          rw [← HD.out, List.drop_length]
          rfl
        subst hR
        have hlt2 : ¬ (l.length : Int) < (l.length : Int) := by omega
        clear hB
        go_wp2
        go_ret
        exact ⟨rfl, HB.out⟩
-- REF
set_option maxRecDepth 100000 in
set_option maxHeartbeats 2000000 in
theorem refBegins_any (l m : List Ev) (v u : Value) (w : World) (hv : EvsAt w v l) (hu : EvsAt w u m) :
    Calls Tryd.prog 14 #[v, u] w fun e w' => e = .returned (.bool (beginsB l m)) ∧ Below w.heap.size w w' := by
  have hl := hv.len
  have hm := hu.len
  obtain ⟨av, cv, rfl⟩ := hv.shape
  obtain ⟨au, cu, rfl⟩ := hu.shape
  have HV := Lib.hid hv
  have HU := Lib.hid hu
  clear hv hu
  by_cases hlm : m.length < l.length
  · have hI : (m.length : Int) < (l.length : Int) := by omega
    rw [beginsB_long l m hlm]
    go_enter Tryd.func14, Tryd.ntmps14
    go_wp2
    go_ret
    exact ⟨rfl, Below.refl _ _⟩
  · have hI : ¬ (m.length : Int) < (l.length : Int) := by omega
    obtain ⟨R, hR⟩ : ∃ R, beginsB l m = R := ⟨_, rfl⟩
    rw [hR]
    have H0 : Hid (beginsB (l.drop 0) (m.drop 0) = R) := Lib.hid (by simpa using hR)
    clear hR
    go_enter Tryd.func14, Tryd.ntmps14
    go_wp2
    go_loopw [13] (fun i wr => ∃ k : Nat, i = .int .i64 k ∧ k ≤ l.length ∧ Below w.heap.size w wr ∧ Hid (beginsB (l.drop k) (m.drop k) = R)) (fun i _ => l.length - (intOf i).toNat)
    case atStart => exact ⟨0, rfl, by omega, Below.refl _ _, H0⟩
    case round =>
      obtain ⟨k, rfl, hk, hB, HD⟩ := hrel
      have HB := Lib.hid hB
      have hsz := hB.size
      by_cases hlt : k < l.length
      · have hkm : k < m.length := by omega
        obtain ⟨b, o, rfl, hbl, c0, c1, c2, c3⟩ := (HV.out.below hB).at k hlt
        obtain ⟨b', o', rfl, hbl', d0, d1, d2, d3⟩ := (HU.out.below hB).at k hkm
        have HD2 := Lib.hid (beginsB_drop hlt hkm)
        obtain ⟨⟨x0, x1, x2, x3⟩, hx⟩ : ∃ x, l[k] = x := ⟨_, rfl⟩
        obtain ⟨⟨y0, y1, y2, y3⟩, hy⟩ : ∃ x, m[k] = x := ⟨_, rfl⟩
        rw [hx] at c0 c1 c2 c3 HD2
        rw [hy] at d0 d1 d2 d3 HD2
        simp only at c0 c1 c2 c3 d0 d1 d2 d3
        clear hx hy
        have hi1 : (k : Int) < (l.length : Int) := by omega
        have hi2 : (k : Int) < (m.length : Int) := by omega
        clear hB
        obtain ⟨c, hc⟩ : ∃ c, Ev.eqB ⟨x0, x1, x2, x3⟩ ⟨y0, y1, y2, y3⟩ = c := ⟨_, rfl⟩
        have HE := fun W => neqIn W _ _ c hc
        have HQ := fun W => (eqIn W x0 x1 x2 y0 y1 y2 x3 y3).trans (by rw [hc])
        simp only [Ev.agg] at HE
        rw [hc] at HD2
        clear hc
        go_wp2
        go_quiet (fail)
        generalize hW : World.drewN wr nq = w5
        have hb5 : Below w.heap.size w w5 := by
          rw [← hW]
          exact below_drewN HB.out _
        clear hW HE HQ
        have HB5 := Lib.hid hb5
        clear hb5
        cases c
        · have hR : R = false := by
            rw [← HD.out, HD2.out]
            rfl
          subst hR
          go_wp2
          go_ret
          exact ⟨rfl, HB5.out⟩
        · go_wp2
          go_roundw
          case rel =>
            refine ⟨k + 1, by go_num, by omega, HB5.out, Lib.hid ?_⟩
            rw [← HD.out, HD2.out]
            rfl
          case measure => simp [intOf]; omega
      · obtain rfl : k = l.length := by omega
        have hR : R = true := by
          rw [← HD.out, List.drop_length]
          rfl
        subst hR
        have hlt2 : ¬ (l.length : Int) < (l.length : Int) := by omega
        clear hB
        go_wp2
        go_ret
        exact ⟨rfl, HB.out⟩
end TraceD
end Go.Proofs.YticgpfigjkgfaaaDoor
