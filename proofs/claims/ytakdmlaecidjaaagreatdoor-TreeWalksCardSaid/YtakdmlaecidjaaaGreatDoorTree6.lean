/- The document's Deep. -/
import Derived.Test.YtakdmlaecidjaaaGreatDoorTree5
namespace Go.Proofs.YtakdmlaecidjaaaGreatDoor
open Go.RowKit ObjM
namespace TreeD

theorem deep_last {l : List Nd} {m : Nat} (hm : l.length = m) : deepV l = (depths l m).getD (m - 1) 0 := by
  have hl := depths_len l m
  unfold deepV
  rw [hm, List.getLastD_eq_getLast?, List.getLast?_eq_getElem?, hl]
  rfl
theorem deep_none {l : List Nd} (hm : l.length = 0) : deepV l = 0 := by
  unfold deepV
  rw [hm]
  rfl
set_option maxRecDepth 100000 in
set_option maxHeartbeats 8000000 in
theorem refDeep_any (l : List Nd) (v : Value) (w : World) (hv : NdsAt w v l) (hok : ∀ n ∈ l, NdOk n) (hlen : l.length ≤ 100000) :
    Calls Tryz.prog 9 #[v] w fun e w' => e = .returned (.int .i64 (deepV l)) ∧ Below w.heap.size w w' := by
  obtain ⟨av, cv, rfl⟩ := hv.shape
  obtain ⟨i0, hi, hz0, hz1, hz2⟩ := info_parts infoInt
  have HV := Lib.hid hv
  have HK := Lib.hid hok
  obtain ⟨m, hm⟩ : ∃ m, l.length = m := ⟨_, rfl⟩
  have HM := Lib.hid hm
  rw [hm] at hlen
  go_enter Tryz.func9, Tryz.ntmps9
  rw [hm]
  clear hv hok hm
  go_wp2_with (at_make; refine wpList_make_full _ rfl _ _ 30 rfl w.heap.size 3 i0 (.int .i64 0) 1 Tryz.underlying30 hi hz0 hz1 .i64 .i64 (m : Int) (m : Int) m rfl rfl rfl rfl ?c1 ?c2 ?c3 ?_)
  case c1 => rw [hz2]; omega
  case c2 => unfold maxLen; omega
  case c3 => exact Nat.le_refl _
  intro w1 hrow hgrow
  have HD0 : Hid (Has w1 w.heap.size 3 (dCells [] m)) := Lib.hid (by
    rcases own_shape hrow with ⟨h, _⟩ | ⟨g, cap, cs, h1, h2, h3, h4, h5, h6, h7⟩
    · cases h
    · injection h1 with e1 e2 e3
      injection e1 with e1
      injection e1 with e1
      subst e1 e3
      rw [Nat.mul_one] at h6 h7
      rw [List.take_of_length_le (by omega)] at h7
      rw [dCells_zero]
      have h8 : (madeCells #[Value.int .i64 0] m).toList = List.replicate m (.int .i64 0) := toList_madeCells_one _ _
      have h9 : cs = List.replicate m (.int .i64 0) := h7.trans h8
      rw [← h9]
      exact h3)
  have HB0 : Hid (Below w.heap.size w w1) := Lib.hid ((Below.refl _ w).grown hgrow (Nat.le_refl _) (fun k hk => by cases hk))
  clear hrow hgrow hi hz0 hz1 hz2
  go_wp2
  go_loopw [13] (fun i wr => ∃ k : Nat, i = .int .i64 (k : Int) ∧ k ≤ m ∧ Below w.heap.size w wr ∧ Hid (Has wr w.heap.size 3 (dCells (depths l k) m))) (fun i _ => m - (intOf i).toNat)
  case atStart => exact ⟨0, rfl, by omega, HB0.out, HD0⟩
  case round =>
    obtain ⟨k, rfl, hk, hB, HD⟩ := hrel
    have HB := Lib.hid hB
    have hszr := hB.size
    clear hB
    by_cases hlt : k < m
    · have hi1 : (k : Int) < (m : Int) := by omega
      have hkl : k < l.length := by rw [HM.out]; exact hlt
      have HNx := Lib.hid (depths_next hkl)
      obtain ⟨b, o, kv, rfl, hb0, C0, C1, C2, C3, C4⟩ := HV.out.at k hkl
      have hok := HK.out _ (List.getElem_mem hkl)
      generalize l[k] = x at HNx C0 C1 C2 C3 C4 hok
      obtain ⟨x0, x1, x2, x3⟩ := x
      simp only at HNx C0 C1 C2 C3 C4
      obtain ⟨ak, ck, rfl⟩ := C4.shape
      have c0 := (HB.out.cell (p := ⟨b, _, none⟩) hb0).trans C0
      have c1 := (HB.out.cell (p := ⟨b, _, none⟩) hb0).trans C1
      have c2 := (HB.out.cell (p := ⟨b, _, none⟩) hb0).trans C2
      have c3 := (HB.out.cell (p := ⟨b, _, none⟩) hb0).trans C3
      have hb : b < wr.heap.size := by omega
      have hx2 : x2.length ≤ 140737488355328 := hok.2.1
      have HDl := Lib.hid (depths_len l k)
      have HDb := Lib.hid (depths_bound l k)
      obtain ⟨ds, hds⟩ : ∃ ds, depths l k = ds := ⟨_, rfl⟩
      rw [hds] at HD HNx HDl HDb
      have HKn := Lib.hid C4
      have HWb : Hid (Below wr.heap.size wr (wr.alloc (.cells #[.int .i64 x0, .string x1, .slice ak x2.length ck, .int .i64 x3] 35))) := Lib.hid ((Below.refl _ wr).alloc (Nat.le_refl _) _)
      have hN := Has.new wr 35 [.int .i64 x0, .string x1, .slice ak x2.length ck, .int .i64 x3]
      have HDn := Lib.hid (HD.out.below HWb.out HD.out.lt)
      have df := HDn.out.frozen k
      have dl := HDn.out.lt
      have dk := (HDn.out.cell k).trans (dCells_get (ds := ds) (m := m) hlt)
      have hne : w.heap.size ≠ wr.heap.size := Nat.ne_of_lt HD.out.lt
      have HD1 : Hid (Has ((wr.alloc (.cells #[.int .i64 x0, .string x1, .slice ak x2.length ck, .int .i64 x3] 35)).setCell ⟨w.heap.size, k, none⟩ (.int .i64 1)) w.heap.size 3 (dCells (ds ++ [1]) m)) := Lib.hid (by
        have h1 := HDn.out.set k (.int .i64 1)
        have h2 := dCells_set (ds := ds) (m := m) (x := 1) (by rw [HDl.out]; exact hlt)
        rw [HDl.out] at h2
        rw [h2] at h1
        exact h1)
      have HB1 : Hid (Below w.heap.size w ((wr.alloc (.cells #[.int .i64 x0, .string x1, .slice ak x2.length ck, .int .i64 x3] 35)).setCell ⟨w.heap.size, k, none⟩ (.int .i64 1))) := Lib.hid ((HB.out.trans (HWb.out.mono hszr)).setCell (p := ⟨w.heap.size, k, none⟩) (Nat.le_refl _) _)
      have hN1 := hN.keeps (Keeps.set _ w.heap.size k (.int .i64 1)) (by simpa using hne.symm)
      generalize ds.getD k 0 = dv0 at dk
      clear hok hkl hds C0 C1 C2 C3 C4
      have n2 := hN1.cell 2
      have nl := hN1.lt
      simp at n2
      go_wp2
      change Code.wp _ _ _ _ (World.setCell _ _ _)
      generalize World.setCell (World.alloc wr (.cells #[.int .i64 x0, .string x1, .slice ak x2.length ck, .int .i64 x3] 35)) ⟨w.heap.size, k, none⟩ (.int .i64 1) = w5 at hN1 HD1 HB1 n2 nl ⊢
      clear HWb HDn hN hN1 df dl dk c0 c1 c2 c3
      go_loopw [24] (fun i wr2 => ∃ (j : Nat) (M : Int), i = .int .i64 (j : Int) ∧ j ≤ x2.length ∧ 0 ≤ M ∧ M ≤ (k : Int) ∧ Below w.heap.size w wr2 ∧ Hid (Has wr2 w.heap.size 3 (dCells (ds ++ [M + 1]) m)) ∧ Hid (mostOf ds k (x2.take j) = M)) (fun i _ => x2.length - (intOf i).toNat)
      case atStart => exact ⟨0, 0, rfl, by omega, by omega, by omega, HB1.out, HD1, Lib.hid rfl⟩
      case round =>
        obtain ⟨j, M, rfl, hj, hM0, hM1, hBj, HDj, HMo⟩ := hrel
        have HBj := Lib.hid hBj
        clear hBj
        by_cases hjl : j < x2.length
        · have hj1 : (j : Int) < (x2.length : Int) := by omega
          obtain ⟨g1, o1, rfl, hg1, z1⟩ := (HKn.out.below (Nat.le_refl _) HBj.out).at j hjl
          have HMx := Lib.hid (most_take (ds := ds) (n := k) hjl)
          have HMb := Lib.hid (most_bound (ds := ds) (n := k) HDb.out (x2.take (j + 1)))
          rw [HMo.out] at HMx
          generalize x2[j] = y at z1 HMx
          by_cases hin : 0 ≤ y ∧ y < (k : Int)
          · obtain ⟨q, rfl⟩ : ∃ q : Nat, y = (q : Int) := ⟨y.toNat, by omega⟩
            have hq : q < k := by omega
            have hqm : (q : Int) < (m : Int) := by omega
            have hy0 : (0 : Int) ≤ (q : Int) := by omega
            have hyk : (q : Int) < (k : Int) := by omega
            have dq := (HDj.out.cell q).trans (dCells_get (ds := ds ++ [M + 1]) (m := m) (by omega))
            have dk := (HDj.out.cell k).trans (dCells_get (ds := ds ++ [M + 1]) (m := m) hlt)
            have df := HDj.out.frozen k
            have dl := HDj.out.lt
            have hgq : (ds ++ [M + 1]).getD q 0 = ds.getD q 0 := by
              have h1 : q < ds.length := by rw [HDl.out]; exact hq
              simp [List.getD, List.getElem?_append_left h1]
            have hgk : (ds ++ [M + 1]).getD k 0 = M + 1 := by
              have h1 : ds.length = k := HDl.out
              simp [List.getD, ← h1]
            rw [hgq] at dq
            rw [hgk] at dk
            have HM2 : Hid (mostOf ds k (x2.take (j + 1)) = max M (ds.getD q 0)) := Lib.hid (by rw [HMx.out, if_pos hin]; rfl)
            have hmb := HMb.out
            rw [HM2.out] at hmb
            have hdb : 0 ≤ ds.getD q 0 ∧ ds.getD q 0 ≤ (k : Int) := by
              have h1 : q < ds.length := by rw [HDl.out]; exact hq
              have e : ds.getD q 0 = ds[q] := by simp [List.getD, h1]
              rw [e]
              exact HDb.out _ (List.getElem_mem h1)
            generalize ds.getD q 0 = dv at dq HM2 hmb hdb
            have hw1 : IntKind.i64.wrap (dv + 1) = dv + 1 := by rw [IntKind.wrap_i64]; omega
            have hmx : max (M + 1) (dv + 1) = max M dv + 1 := by omega
            have HDf : Hid (Has (wr.setCell ⟨w.heap.size, k, none⟩ (.int .i64 (max M dv + 1))) w.heap.size 3 (dCells (ds ++ [max M dv + 1]) m)) := Lib.hid (by
              have h1 := HDj.out.set k (.int .i64 (max M dv + 1))
              have h2 : (dCells (ds ++ [M + 1]) m).set k (.int .i64 (max M dv + 1)) = dCells (ds ++ [max M dv + 1]) m := by
                have h3 := dCells_set (ds := ds) (m := m) (x := M + 1) (by rw [HDl.out]; exact hlt)
                have h4 := dCells_set (ds := ds) (m := m) (x := max M dv + 1) (by rw [HDl.out]; exact hlt)
                rw [HDl.out] at h3 h4
                rw [← h3, List.set_set, h4]
              rw [h2] at h1
              exact h1)
            clear HMx HMb hin hgq hgk
            have HBf : Hid (Below w.heap.size w (wr.setCell ⟨w.heap.size, k, none⟩ (.int .i64 (max M dv + 1)))) := Lib.hid (HBj.out.setCell (p := ⟨w.heap.size, k, none⟩) (Nat.le_refl _) _)
            go_wp2
            go_still_tail 13, (by kernel_rfl)
            change wpList _ _ _ _ _ wr.drew
            go_wp2
            go_roundw
            case rel => exact ⟨j + 1, max M dv, by go_num, by omega, hmb.1, hmb.2, HBf.out.drew, Lib.hid (HDf.out.keeps (Keeps.drewN [] _ 1) (by simp)), HM2⟩
            case measure => simp [intOf]; omega
          · have HM2 : Hid (mostOf ds k (x2.take (j + 1)) = M) := Lib.hid (by rw [HMx.out, if_neg hin])
            have hin2 : ¬ (0 ≤ y) ∨ (0 ≤ y ∧ ¬ y < (k : Int)) := by omega
            clear HMx HMb hin
            rcases hin2 with hy | ⟨hy, hy2⟩
            all_goals
              go_wp2
              go_roundw
              case rel => exact ⟨j + 1, M, by go_num, by omega, hM0, hM1, HBj.out, HDj, HM2⟩
              case measure => simp [intOf]; omega
        · have hjx : j = x2.length := by omega
          have HMf : Hid (mostOf ds k x2 = M) := Lib.hid (by have := HMo.out; rwa [hjx, List.take_length] at this)
          have HDf : Hid (Has wr w.heap.size 3 (dCells (depths l (k + 1)) m)) := Lib.hid (by rw [HNx.out, HMf.out]; exact HDj.out)
          subst hjx
          clear HMf HMo HNx
          go_wp2
          go_roundw
          case rel => exact ⟨k + 1, by go_num, by omega, HBj.out, HDf⟩
          case measure => simp [intOf]; omega
    · have hkm : k = m := by omega
      subst hkm
      by_cases h0 : k = 0
      · subst h0
        have HF : Hid (deepV l = 0) := Lib.hid (deep_none HM.out)
        go_wp2
        go_ret
        rw [HF.out]
        exact ⟨rfl, HB.out⟩
      · have HF : Hid (deepV l = (depths l k).getD (k - 1) 0) := Lib.hid (deep_last HM.out)
        have dq := (HD.out.cell (k - 1)).trans (dCells_get (ds := depths l k) (m := k) (by omega))
        have dl := HD.out.lt
        rw [← HF.out] at dq
        have h0b : ((k : Int) == 0) = false := by simp; omega
        obtain ⟨p, rfl⟩ : ∃ p, k = p + 1 := ⟨k - 1, by omega⟩
        simp only [Nat.add_sub_cancel] at dq
        clear HF
        go_wp2
        go_ret
        exact ⟨rfl, HB.out⟩
end TreeD
end Go.Proofs.YtakdmlaecidjaaaGreatDoor
