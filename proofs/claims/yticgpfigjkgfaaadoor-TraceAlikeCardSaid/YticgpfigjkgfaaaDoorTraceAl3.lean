/- Whether inputs are alike to somebody, by definition. -/
import Derived.Test.YticgpfigjkgfaaaDoorTraceAl2
namespace Go.Proofs.YticgpfigjkgfaaaDoor
open Go.RowKit ObjM Shell
namespace TraceD
open LabelM LabelD

set_option maxRecDepth 100000 in
set_option maxHeartbeats 4000000 in
theorem refAlike_any (m0 m1 m2 m3 m4 m5 m6 m7 see : Nat) (hms : ∀ j, [m0, m1, m2, m3, m4, m5, m6, m7].getD j 0 < M64) (hse : see < M64) (a a' : Nat → Option Addr) (z y : Nat → List Int) (q q' : Nat → Nat) (w : World)
    (hz : ∀ j, j < 8 → IntsAt w .i64 (.slice (a j) (z j).length (q j)) (z j)) (hy : ∀ j, j < 8 → IntsAt w .i64 (.slice (a' j) (y j).length (q' j)) (y j)) :
    Calls Tryd.prog 18 #[.agg (inV a z q).toArray, .agg (inV a' y q').toArray, .agg #[.int .u64 (m0 : Int), .int .u64 (m1 : Int), .int .u64 (m2 : Int), .int .u64 (m3 : Int), .int .u64 (m4 : Int), .int .u64 (m5 : Int), .int .u64 (m6 : Int), .int .u64 (m7 : Int)], .int .u64 (see : Int)] w
      fun e w' => e = .returned (.bool (alikeFrom [m0, m1, m2, m3, m4, m5, m6, m7] see z y 0)) ∧ Below w.heap.size w w' := by
  have HZ := Lib.hid (fun (W : World) (hb : Below w.heap.size w W) j hj => (hz j hj).below hb (Nat.le_refl _))
  have HY := Lib.hid (fun (W : World) (hb : Below w.heap.size w W) j hj => (hy j hj).below hb (Nat.le_refl _))
  have HLz := Lib.hid (fun j hj => (hz j hj).len)
  have HLy := Lib.hid (fun j hj => (hy j hj).len)
  clear hz hy
  obtain ⟨R, hR⟩ : ∃ R, alikeFrom [m0, m1, m2, m3, m4, m5, m6, m7] see z y 0 = R := ⟨_, rfl⟩
  have HR := Lib.hid hR
  rw [hR]
  clear hR
  have hA := (((Has.new w 34 (inV a z q)).keepsT ((KeepsT.refl [] _).alloc (.cells (inV a' y q').toArray 34)) (by simp)).keepsT ((KeepsT.refl [] _).alloc (.cells (masksV [m0, m1, m2, m3, m4, m5, m6, m7]).toArray 25)) (by simp))
  have hB := ((Has.new (w.alloc (.cells (inV a z q).toArray 34)) 34 (inV a' y q')).keepsT ((KeepsT.refl [] _).alloc (.cells (masksV [m0, m1, m2, m3, m4, m5, m6, m7]).toArray 25)) (by simp))
  have hM := Has.new ((w.alloc (.cells (inV a z q).toArray 34)).alloc (.cells (inV a' y q').toArray 34)) 25 (masksV [m0, m1, m2, m3, m4, m5, m6, m7])
  simp only [World.size_alloc] at hB hM
  have hB0 : Below w.heap.size w (((w.alloc (.cells (inV a z q).toArray 34)).alloc (.cells (inV a' y q').toArray 34)).alloc (.cells (masksV [m0, m1, m2, m3, m4, m5, m6, m7]).toArray 25)) := by
    repeat (first | exact Below.refl _ _ | refine Below.alloc ?_ (by simp; try omega) _)
  have HMk : Hid (∀ W', Has W' (w.heap.size + 1 + 1) 25 (masksV [m0, m1, m2, m3, m4, m5, m6, m7]) → ∀ j, j < 8 → W'.cell? ⟨w.heap.size + 1 + 1, j, none⟩ = some (.int .u64 ([m0, m1, m2, m3, m4, m5, m6, m7].getD j 0 : Nat))) := Lib.hid (fun W' h j hj => by
    rw [h.cell j]
    rcases lt8 hj with rfl | rfl | rfl | rfl | rfl | rfl | rfl | rfl <;> rfl)
  obtain ⟨ia, hia⟩ : ∃ x, inV a z q = x := ⟨_, rfl⟩
  obtain ⟨ib, hib⟩ : ∃ x, inV a' y q' = x := ⟨_, rfl⟩
  have HIA := Lib.hid hia
  have HIB := Lib.hid hib
  simp only [hia, hib] at hA hB hM hB0 ⊢
  clear hia hib
  simp only [masksV, List.map_cons, List.map_nil] at hA hB hM hB0 HMk
  go_enter Tryd.func18, Tryd.ntmps18
  go_wp2
  change Code.wp _ _ _ _ (World.alloc (World.alloc (World.alloc w _) _) _)
  generalize World.alloc (World.alloc (World.alloc w _) _) _ = W1 at hA hB hM hB0 ⊢
  have HC : Hid (∀ W', Below W1.heap.size W1 W' → w.heap.size < W'.heap.size ∧ w.heap.size + 1 < W'.heap.size ∧ w.heap.size + 1 + 1 < W'.heap.size ∧ (∀ j, j < 8 → W'.cell? ⟨w.heap.size, j, none⟩ = some (.slice (a j) (z j).length (q j)) ∧ W'.cell? ⟨w.heap.size + 1, j, none⟩ = some (.slice (a' j) (y j).length (q' j)) ∧
      W'.cell? ⟨w.heap.size + 1 + 1, j, none⟩ = some (.int .u64 ([m0, m1, m2, m3, m4, m5, m6, m7].getD j 0 : Nat)))) := Lib.hid (fun W' hb => by
    have p := hA.below hb hA.lt
    have r := hB.below hb hB.lt
    have s := hM.below hb hM.lt
    refine ⟨p.lt, r.lt, s.lt, fun j hj => ⟨?_, ?_, HMk.out W' s j hj⟩⟩
    · rw [p.cell j, ← HIA.out, inV_at a z q hj]
    · rw [r.cell j, ← HIB.out, inV_at a' y q' hj])
  have B0 := Lib.hid hB0
  clear hA hB hM hB0 HMk
  obtain ⟨ms, hmsE⟩ : ∃ x, [m0, m1, m2, m3, m4, m5, m6, m7] = x := ⟨_, rfl⟩
  simp only [hmsE] at hms HC HR
  clear hmsE
  go_loopw [11] (fun i wr => ∃ k : Nat, i = .int .i64 k ∧ k ≤ 8 ∧ Below W1.heap.size W1 wr ∧ Hid (alikeFrom ms see z y k = R)) (fun i _ => 8 - (intOf i).toNat)
  case atStart => exact ⟨0, rfl, by omega, Below.refl _ _, HR⟩
  case round =>
    obtain ⟨k, rfl, hk, hBr, HD⟩ := hrel
    have HB := Lib.hid hBr
    by_cases hk8 : k < 8
    · obtain ⟨l0, l1, l2, hcs⟩ := HC.out wr hBr
      obtain ⟨cA, cB, cM⟩ := hcs k hk8
      have HD2 : Hid (alikeFrom ms see z y k = (alikeF ms see z y k && alikeFrom ms see z y (k + 1))) := Lib.hid (alikeFrom_step ms see z y hk8)
      have HF2 : Hid (alikeF ms see z y k = (!flowsB (ms.getD k 0) see || (z k == y k))) := Lib.hid rfl
      have HFl := fun W => Lib.hid (refFlows_any (ms.getD k 0) see (hms k) hse W)
      obtain ⟨mk, hmk⟩ : ∃ x, ms.getD k 0 = x := ⟨_, rfl⟩
      rw [hmk] at HF2 cM HFl
      clear hmk hms hcs hBr
      have hk8i : (k : Int) < 8 := by omega
      cases hfl : flowsB mk see
      · rw [hfl] at HFl HF2
        have HN : Hid (alikeFrom ms see z y (k + 1) = R) := Lib.hid (by rw [← HD.out, HD2.out, HF2.out]; simp)
        clear hfl HD2 HF2 HZ HY HLz HLy
        go_wp2_with fail
        with_reducible refine ((HFl _).out).mono ?_
        rintro e w5 ⟨rfl, hw⟩
        subst hw
        go_wp2
        go_roundw
        case rel => exact ⟨k + 1, by go_num, by omega, HB.out, HN⟩
        case measure => simp [intOf]; omega
      · rw [hfl] at HFl HF2
        clear hfl
        have hlz := HLz.out k hk8
        have hly := HLy.out k hk8
        by_cases hlen : (z k).length = (y k).length
        · have hI : (((z k).length : Int) != ((y k).length : Int)) = false := by simp [hlen]
          have hle : (z k).length ≤ (y k).length := by omega
          have hge : (y k).length ≤ (z k).length := by omega
          have HLM := Lib.hid hlen
          have H0 : Hid (((z k).drop 0 == (y k).drop 0) = (z k == y k)) := Lib.hid rfl
          obtain ⟨c, hc⟩ : ∃ x, (z k == y k) = x := ⟨_, rfl⟩
          rw [hc] at HF2 H0
          clear hlen hc
          have HZk := Lib.hid (fun (W : World) (hb : Below W1.heap.size W1 W) => HZ.out W (B0.out.trans (hb.mono B0.out.size)) k hk8)
          have HYk := Lib.hid (fun (W : World) (hb : Below W1.heap.size W1 W) => HY.out W (B0.out.trans (hb.mono B0.out.size)) k hk8)
          have HCk : Hid (∀ W', Below W1.heap.size W1 W' → w.heap.size < W'.heap.size ∧ w.heap.size + 1 < W'.heap.size ∧ W'.cell? ⟨w.heap.size, k, none⟩ = some (.slice (a k) (z k).length (q k)) ∧ W'.cell? ⟨w.heap.size + 1, k, none⟩ = some (.slice (a' k) (y k).length (q' k))) := Lib.hid (fun W' hb => ⟨(HC.out W' hb).1, (HC.out W' hb).2.1, ((HC.out W' hb).2.2.2 k hk8).1, ((HC.out W' hb).2.2.2 k hk8).2.1⟩)
          have HN : c = true → Hid (alikeFrom ms see z y (k + 1) = R) := fun hct => Lib.hid (by rw [← HD.out, HD2.out, HF2.out, hct]; simp)
          have HNf : c = false → R = false := fun hcf => by rw [← HD.out, HD2.out, HF2.out, hcf]; simp
          have HN2 := Lib.hid HN
          have HNf2 := Lib.hid HNf
          clear HN HNf HC
          obtain ⟨zk, hzk⟩ : ∃ x, z k = x := ⟨_, rfl⟩
          obtain ⟨yk, hyk⟩ : ∃ x, y k = x := ⟨_, rfl⟩
          obtain ⟨ak, hak⟩ : ∃ x, a k = x := ⟨_, rfl⟩
          obtain ⟨bk, hbk⟩ : ∃ x, a' k = x := ⟨_, rfl⟩
          rw [hzk] at hI hle hge HLM H0 HZk cA hlz HCk
          rw [hyk] at hI hle hge HLM H0 HYk cB hly HCk
          rw [hak] at cA HZk HCk
          rw [hbk] at cB HYk HCk
          clear hzk hyk hak hbk
          go_wp2_with fail
          with_reducible refine ((HFl _).out).mono ?_
          rintro e w5 ⟨rfl, hw⟩
          subst hw
          go_wp2
          go_quiet (fail)
          generalize hW : World.drewN wr nq = w6
          have hb6 : Below W1.heap.size W1 w6 := by
            rw [← hW]
            exact below_drewN HB.out _
          clear hW l0 l1 l2 cA cB cM
          obtain ⟨l0, l1, cA, cB⟩ := HCk.out w6 hb6
          have HB6 := Lib.hid hb6
          clear hb6
          go_wp2
          go_loopw [33] (fun i wz => ∃ j : Nat, i = .int .i64 j ∧ j ≤ zk.length ∧ Below W1.heap.size W1 wz ∧ Hid ((zk.drop j == yk.drop j) = c)) (fun i _ => zk.length - (intOf i).toNat)
          case atStart => exact ⟨0, rfl, by omega, HB6.out, H0⟩
          case round =>
            obtain ⟨j, rfl, hj, hBz, HDj⟩ := hrel
            clear l0 l1 cA cB
            obtain ⟨l0, l1, cA, cB⟩ := HCk.out wr hBz
            have HBz := Lib.hid hBz
            by_cases hjl : j < zk.length
            · have hjy : j < yk.length := by omega
              obtain ⟨b, o, rfl, hbl, c0⟩ := ints_at (HZk.out _ hBz) j hjl
              obtain ⟨b', o', rfl, hbl', d0⟩ := ints_at (HYk.out _ hBz) j hjy
              have HDj2 := Lib.hid (ints_drop hjl hjy)
              obtain ⟨e0, he0⟩ : ∃ x, zk[j] = x := ⟨_, rfl⟩
              obtain ⟨e1, he1⟩ : ∃ x, yk[j] = x := ⟨_, rfl⟩
              rw [he0] at c0 HDj2
              rw [he1] at d0 HDj2
              clear he0 he1
              have hi1 : (j : Int) < (zk.length : Int) := by omega
              have hi2 : (j : Int) < (yk.length : Int) := by omega
              clear hBz
              go_wp2
              go_quiet (fail)
              generalize hW : World.drewN wr nq = w7
              have hb7 : Below W1.heap.size W1 w7 := by
                rw [← hW]
                exact below_drewN HBz.out _
              clear hW
              have HB7 := Lib.hid hb7
              clear hb7
              by_cases hxy : e0 = e1
              · subst hxy
                have hne : (e0 != e0) = false := by simp
                go_wp2
                go_roundw
                case rel =>
                  refine ⟨j + 1, by go_num, by omega, HB7.out, Lib.hid ?_⟩
                  rw [← HDj.out, HDj2.out]
                  simp
                case measure => simp [intOf]; omega
              · have hcf : c = false := by
                  rw [← HDj.out, HDj2.out]
                  simp [hxy]
                have hRf := HNf2.out hcf
                subst hRf
                have hne : (e0 != e1) = true := by simpa using hxy
                go_wp2
                go_ret
                exact ⟨rfl, B0.out.trans (HB7.out.mono B0.out.size)⟩
            · obtain rfl : j = zk.length := by omega
              have hct : c = true := by
                rw [← HDj.out, List.drop_length, HLM.out, List.drop_length]
                rfl
              have HNx := HN2.out hct
              have hlt2 : ¬ (zk.length : Int) < (zk.length : Int) := by omega
              clear hBz
              go_wp2
              go_roundw
              case rel => exact ⟨k + 1, by go_num, by omega, HBz.out, HNx⟩
              case measure => simp [intOf]; omega
        · have hI : (((z k).length : Int) != ((y k).length : Int)) = true := by simpa using fun e => hlen (by omega)
          have hRf : R = false := by
            rw [← HD.out, HD2.out, HF2.out]
            have : (z k == y k) = false := by
              simp
              intro e
              exact hlen (by rw [e])
            simp [this]
          subst hRf
          go_wp2_with fail
          with_reducible refine ((HFl _).out).mono ?_
          rintro e w5 ⟨rfl, hw⟩
          subst hw
          go_wp2
          go_quiet (fail)
          go_wp2
          go_ret
          exact ⟨rfl, B0.out.trans ((below_drewN HB.out _).mono B0.out.size)⟩
    · obtain rfl : k = 8 := by omega
      have hRt : R = true := by rw [← HD.out]; rfl
      subst hRt
      clear hBr hms
      go_wp2
      go_ret
      exact ⟨rfl, B0.out.trans (HB.out.mono B0.out.size)⟩
end TraceD
end Go.Proofs.YticgpfigjkgfaaaDoor
