/- Inputs: slices alike; whether inputs are alike to somebody. -/
import Derived.Test.YticgpfigjkgfaaaDoorTraceAwake
namespace Go.Proofs.YticgpfigjkgfaaaDoor
open Go.RowKit ObjM Shell
namespace TraceD
open LabelM LabelD

theorem ints_at {W : World} {av : Option Addr} {cw : Nat} {zs : List Int} (h : IntsAt W .i64 (.slice av zs.length cw) zs) (k : Nat) (hk : k < zs.length) : ∃ b o, av = some ⟨b, o, none⟩ ∧ b < W.heap.size ∧ W.cell? ⟨b, o + k, none⟩ = some (.int .i64 zs[k]) := by
  rcases h with ⟨_, rfl⟩ | ⟨b, o, cap, h, _, _, hb, hc⟩
  · simp at hk
  · injection h with h4 h5 h6
    exact ⟨b, o, h4, hb, hc k _ (List.getElem?_eq_getElem hk)⟩
theorem ints_shape {W : World} {v : Value} {zs : List Int} (h : IntsAt W .i64 v zs) : ∃ av cw, v = .slice av zs.length cw := by
  rcases h with ⟨rfl, rfl⟩ | ⟨b, o, cap, rfl, _⟩
  · exact ⟨none, 0, rfl⟩
  · exact ⟨_, _, rfl⟩
theorem ints_drop {l m : List Int} {k : Nat} (h : k < l.length) (h2 : k < m.length) : (l.drop k == m.drop k) = (l[k] == m[k] && l.drop (k + 1) == m.drop (k + 1)) := by
  rw [List.drop_eq_getElem_cons h, List.drop_eq_getElem_cons h2]
  rfl

set_option maxRecDepth 100000 in
set_option maxHeartbeats 2000000 in
theorem equal_any (l m : List Int) (v u : Value) (w : World) (hv : IntsAt w .i64 v l) (hu : IntsAt w .i64 u m) :
    Calls Tryd.prog 28 #[v, u] w fun e w' => e = .returned (.bool (l == m)) ∧ Below w.heap.size w w' := by
  have hl := hv.len
  have hm := hu.len
  obtain ⟨av, cv, rfl⟩ := ints_shape hv
  obtain ⟨au, cu, rfl⟩ := ints_shape hu
  have HV := Lib.hid (fun (W : World) (hb : Below w.heap.size w W) => hv.below hb (Nat.le_refl _))
  have HU := Lib.hid (fun (W : World) (hb : Below w.heap.size w W) => hu.below hb (Nat.le_refl _))
  clear hv hu
  by_cases hlm : l.length = m.length
  · have hI : ((l.length : Int) != (m.length : Int)) = false := by simp [hlm]
    obtain ⟨R, hR⟩ : ∃ R, (l == m) = R := ⟨_, rfl⟩
    rw [hR]
    have H0 : Hid ((l.drop 0 == m.drop 0) = R) := Lib.hid (by simpa using hR)
    clear hR
    have hle : l.length ≤ m.length := by omega
    have hge : m.length ≤ l.length := by omega
    have HLM := Lib.hid hlm
    clear hlm
    go_enter Tryd.func28, Tryd.ntmps28
    go_wp2
    go_loopw [13] (fun i wr => ∃ k : Nat, i = .int .i64 k ∧ k ≤ l.length ∧ Below w.heap.size w wr ∧ Hid ((l.drop k == m.drop k) = R)) (fun i _ => l.length - (intOf i).toNat)
    case atStart => exact ⟨0, rfl, by omega, Below.refl _ _, H0⟩
    case round =>
      obtain ⟨k, rfl, hk, hB, HD⟩ := hrel
      have HB := Lib.hid hB
      have hsz := hB.size
      by_cases hlt : k < l.length
      · have hkm : k < m.length := by omega
        obtain ⟨b, o, rfl, hbl, c0⟩ := ints_at (HV.out _ hB) k hlt
        obtain ⟨b', o', rfl, hbl', d0⟩ := ints_at (HU.out _ hB) k hkm
        have HD2 := Lib.hid (ints_drop hlt hkm)
        obtain ⟨x, hx⟩ : ∃ x, l[k] = x := ⟨_, rfl⟩
        obtain ⟨y, hy⟩ : ∃ x, m[k] = x := ⟨_, rfl⟩
        rw [hx] at c0 HD2
        rw [hy] at d0 HD2
        clear hx hy
        have hi1 : (k : Int) < (l.length : Int) := by omega
        have hi2 : (k : Int) < (m.length : Int) := by omega
        clear hB
        go_wp2
        go_quiet (fail)
        generalize hW : World.drewN wr nq = w5
        have hb5 : Below w.heap.size w w5 := by
          rw [← hW]
          exact below_drewN HB.out _
        clear hW
        have HB5 := Lib.hid hb5
        clear hb5
        by_cases hxy : x = y
        · subst hxy
          have hne : (x != x) = false := by simp
          go_wp2
          go_roundw
          case rel =>
            refine ⟨k + 1, by go_num, by omega, HB5.out, Lib.hid ?_⟩
            rw [← HD.out, HD2.out]
            simp
          case measure => simp [intOf]; omega
        · have hR : R = false := by
            rw [← HD.out, HD2.out]
            simp [hxy]
          subst hR
          have hne : (x != y) = true := by simpa using hxy
          go_wp2
          go_ret
          exact ⟨rfl, HB5.out⟩
      · obtain rfl : k = l.length := by omega
        have hR : R = true := by
          rw [← HD.out, List.drop_length, HLM.out, List.drop_length]
          rfl
        subst hR
        have hlt2 : ¬ (l.length : Int) < (l.length : Int) := by omega
        clear hB
        go_wp2
        go_ret
        exact ⟨rfl, HB.out⟩
  · have hI : ((l.length : Int) != (m.length : Int)) = true := by simpa using fun e => hlm (by omega)
    have hR : (l == m) = false := by
      simp
      rintro rfl
      exact hlm rfl
    rw [hR]
    go_enter Tryd.func28, Tryd.ntmps28
    go_wp2
    go_ret
    exact ⟨rfl, Below.refl _ _⟩
end TraceD
end Go.Proofs.YticgpfigjkgfaaaDoor
