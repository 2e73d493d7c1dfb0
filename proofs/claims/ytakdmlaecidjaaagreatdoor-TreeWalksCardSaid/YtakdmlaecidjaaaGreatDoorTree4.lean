/- The document's Same. -/
import Derived.Test.YtakdmlaecidjaaaGreatDoorTree3
namespace Go.Proofs.YtakdmlaecidjaaaGreatDoor
open Go.RowKit ObjM
namespace TreeD

theorem below_drewN {b : Nat} {w w' : World} (h : Below b w w') (n : Nat) : Below b w (w'.drewN n) := ⟨h.os, h.tape, h.output, h.size, fun k hk => h.block k hk⟩
theorem take_eq_all {a b : List Int} (hl : a.length = b.length) (h : a.take a.length = b.take a.length) : a = b := by
  rw [List.take_length, hl, List.take_length] at h
  exact h
theorem take_next {a b : List Int} {j : Nat} (ha : j < a.length) (hb : j < b.length) (h : a.take j = b.take j) (he : a[j] = b[j]) : a.take (j + 1) = b.take (j + 1) := by
  rw [List.take_succ_eq_append_getElem ha, List.take_succ_eq_append_getElem hb, h, he]
theorem ne_at {a b : List Int} {j : Nat} (ha : j < a.length) (hb : j < b.length) (he : a[j] ≠ b[j]) : (a == b) = false := by
  simp only [beq_eq_false_iff_ne, ne_eq]
  intro e
  subst e
  exact he rfl
set_option maxRecDepth 100000 in
set_option maxHeartbeats 16000000 in
theorem refSame_any (a b : List Nd) (va vb : Value) (w : World) (ha : NdsAt w va a) (hb : NdsAt w vb b) (oka : ∀ n ∈ a, NdOk n) (okb : ∀ n ∈ b, NdOk n) (hla : a.length ≤ 100000) (_hlb : b.length ≤ 100000) :
    Calls Tryz.prog 11 #[va, vb] w fun e w' => e = .returned (.bool (sameV a b)) ∧ Below w.heap.size w w' := by
  obtain ⟨av, ca, rfl⟩ := ha.shape
  obtain ⟨bv, cb, rfl⟩ := hb.shape
  have HA := Lib.hid (fun (W : World) (hb : Below w.heap.size w W) => ha.below (Nat.le_refl _) hb)
  have HB := Lib.hid (fun (W : World) (h : Below w.heap.size w W) => hb.below (Nat.le_refl _) h)
  have HKa := Lib.hid oka
  have HKb := Lib.hid okb
  clear ha hb oka okb
  by_cases hl : a.length = b.length
  · have HD0 : Hid (sameV (a.drop 0) (b.drop 0) = sameV a b) := Lib.hid rfl
    obtain ⟨R, hR⟩ : ∃ R, sameV a b = R := ⟨_, rfl⟩
    rw [hR] at HD0 ⊢
    clear hR
    obtain ⟨m, hm⟩ : ∃ m, b.length = m := ⟨_, rfl⟩
    have hma : a.length = m := by omega
    have HM := Lib.hid (⟨hma, hm⟩ : _ ∧ _)
    have hm9 : m ≤ 100000 := by omega
    go_enter Tryz.func11, Tryz.ntmps11
    rw [hm, hma]
    clear hl hm hma hla
    go_wp2
    go_loopw [14] (fun i wr => ∃ k : Nat, i = .int .i64 (k : Int) ∧ k ≤ m ∧ Below w.heap.size w wr ∧ Hid (sameV (a.drop k) (b.drop k) = R)) (fun i _ => m - (intOf i).toNat)
    case atStart => exact ⟨0, rfl, by omega, Below.refl _ _, HD0⟩
    case round =>
      obtain ⟨k, rfl, hk, hBl, HD⟩ := hrel
      have HBl := Lib.hid hBl
      clear hBl
      by_cases hlt : k < m
      · have hi1 : (k : Int) < (m : Int) := by omega
        have hka : k < a.length := by rw [HM.out.1]; exact hlt
        have hkb : k < b.length := by rw [HM.out.2]; exact hlt
        have HD2 := Lib.hid (sameV_drop hka hkb)
        obtain ⟨ba, oa, ka, rfl, hba, c0, c1, c2, c3, c4⟩ := (HA.out _ HBl.out).at k hka
        obtain ⟨bb, ob, kb, rfl, hbb, d0, d1, d2, d3, d4⟩ := (HB.out _ HBl.out).at k hkb
        have n1 := HKa.out _ (List.getElem_mem hka)
        have n2 := HKb.out _ (List.getElem_mem hkb)
        have HAk := Lib.hid (fun (W : World) (h : Below w.heap.size w W) => (HA.out W h).at k hka)
        have HBk := Lib.hid (fun (W : World) (h : Below w.heap.size w W) => (HB.out W h).at k hkb)
        generalize a[k] = x at HD2 c0 c1 c2 c3 c4 n1 HAk
        generalize b[k] = y at HD2 d0 d1 d2 d3 d4 n2 HBk
        obtain ⟨x0, x1, x2, x3⟩ := x
        obtain ⟨y0, y1, y2, y3⟩ := y
        simp only at c0 c1 c2 c3 c4 d0 d1 d2 d3 d4
        obtain ⟨ak, ck, rfl⟩ := c4.shape
        obtain ⟨bk, dk, rfl⟩ := d4.shape
        have hx9 := n1.2.1
        have hy9 := n2.2.1
        simp only at hx9 hy9
        simp only [ndEq] at HD2
        clear n1 n2 hka hkb c3 d3
        by_cases e0 : x0 = y0
        · subst e0
          by_cases e1 : x1.toList = y1.toList
          · have k1 : (x1.toList == y1.toList) = true := by simpa using e1
            by_cases e2 : x2.length = y2.length
            · rw [e2] at c2 c4
              have k2 : ((y2.length : Int) != (y2.length : Int)) = false := by simp
              have hyi : (y2.length : Int) ≤ 140737488355328 := by omega
              have HL := Lib.hid e2
              clear e2 e1 hx9
              go_wp2
              go_quiet (fail)
              have HC := Lib.hid c4
              have HE := Lib.hid d4
              have HBn := Lib.hid (below_drewN (Below.refl wr.heap.size wr) nq)
              generalize World.drewN wr nq = w5 at HBn ⊢
              have x2c := (HBn.out.cell (p := ⟨ba, oa + k * 4 + 2, none⟩) hba).trans c2
              have hba5 := Nat.lt_of_lt_of_le hba HBn.out.size
              clear c4 d4
              go_wp2
              clear x2c hba5
              go_loopw [62] (fun i wr2 => ∃ j : Nat, i = .int .i64 (j : Int) ∧ j ≤ y2.length ∧ Hid (Below wr.heap.size wr wr2) ∧ Hid (x2.take j = y2.take j)) (fun i _ => y2.length - (intOf i).toNat)
              case atStart => exact ⟨0, rfl, by omega, HBn, Lib.hid rfl⟩
              case round =>
                obtain ⟨j, rfl, hj, HBj, HTk⟩ := hrel
                have HBm := Lib.hid (HBl.out.trans (HBj.out.mono HBl.out.size))
                by_cases hjl : j < y2.length
                · have hj1 : (j : Int) < (y2.length : Int) := by omega
                  have hjx : j < x2.length := by rw [HL.out]; exact hjl
                  have x2c := (HBj.out.cell (p := ⟨ba, oa + k * 4 + 2, none⟩) hba).trans c2
                  have y2c := (HBj.out.cell (p := ⟨bb, ob + k * 4 + 2, none⟩) hbb).trans d2
                  have hba5 := Nat.lt_of_lt_of_le hba HBj.out.size
                  have hbb5 := Nat.lt_of_lt_of_le hbb HBj.out.size
                  obtain ⟨g1, o1, rfl, hg1, z1⟩ := (HC.out.below (Nat.le_refl _) HBj.out).at j hjx
                  obtain ⟨g2, o2, rfl, hg2, z2⟩ := (HE.out.below (Nat.le_refl _) HBj.out).at j hjl
                  have HNx := Lib.hid (take_next hjx hjl HTk.out)
                  have HNe := Lib.hid (ne_at hjx hjl)
                  generalize x2[j] = p1 at z1 HNx HNe
                  generalize y2[j] = p2 at z2 HNx HNe
                  clear hjx c0 c1 c2 d0 d1 d2
                  by_cases he : p1 = p2
                  · have HN2 := Lib.hid (HNx.out he)
                    subst he
                    clear HNx HNe
                    go_wp2
                    go_quiet (fail)
                    go_wp2
                    go_roundw
                    case rel => exact ⟨j + 1, by go_num, by omega, Lib.hid (below_drewN HBj.out _), HN2⟩
                    case measure => simp [intOf]; omega
                  · have hne : (p1 != p2) = true := by simpa using he
                    have h9 := HNe.out he
                    have HF : Hid (R = false) := Lib.hid (by rw [← HD.out, HD2.out, h9]; simp)
                    clear h9
                    obtain rfl := HF.out
                    clear HNx HNe HD HD2 he
                    go_wp2
                    go_quiet (fail)
                    go_wp2
                    go_ret
                    exact ⟨rfl, below_drewN HBm.out _⟩
                · have hjy : j = y2.length := by omega
                  have HN2 : Hid (sameV (a.drop (k + 1)) (b.drop (k + 1)) = R) := Lib.hid (by
                    have he : x2 = y2 := take_eq_all HL.out (by rw [HL.out, ← hjy]; exact HTk.out)
                    rw [← HD.out, HD2.out, he, k1]
                    simp)
                  subst hjy
                  clear HD HD2 c0 c1 c2 d0 d1 d2
                  go_wp2
                  go_roundw
                  case rel => exact ⟨k + 1, by go_num, by omega, HBm.out, HN2⟩
                  case measure => simp [intOf]; omega
            · have k2 : ((x2.length : Int) != (y2.length : Int)) = true := by simp; omega
              have h9 : (x2 == y2) = false := by
                simp only [beq_eq_false_iff_ne, ne_eq]
                intro e
                exact e2 (by rw [e])
              have HF : Hid (R = false) := Lib.hid (by rw [← HD.out, HD2.out, h9]; simp)
              clear h9
              obtain rfl := HF.out
              clear HD HD2 e1
              go_wp2
              go_quiet (fail)
              go_wp2
              go_ret
              exact ⟨rfl, below_drewN HBl.out _⟩
          · have k1 : (x1.toList == y1.toList) = false := by simpa using e1
            have HF : Hid (R = false) := Lib.hid (by rw [← HD.out, HD2.out, k1]; simp)
            obtain rfl := HF.out
            clear HD HD2 e1
            go_wp2
            go_quiet (fail)
            go_wp2
            go_ret
            exact ⟨rfl, below_drewN HBl.out _⟩
        · have k0 : (x0 != y0) = true := by simpa using e0
          have k00 : (x0 == y0) = false := by simpa using e0
          have HF : Hid (R = false) := Lib.hid (by rw [← HD.out, HD2.out, k00]; simp)
          obtain rfl := HF.out
          clear HD HD2 e0
          go_wp2
          go_quiet (fail)
          go_wp2
          go_ret
          exact ⟨rfl, below_drewN HBl.out _⟩
      · have hkm : k = m := by omega
        have HF : Hid (R = true) := Lib.hid (by
          rw [← HD.out, List.drop_eq_nil_of_le (by rw [HM.out.1]; omega), List.drop_eq_nil_of_le (by rw [HM.out.2]; omega)]
          rfl)
        obtain rfl := HF.out
        subst hkm
        go_wp2
        go_ret
        exact ⟨rfl, HBl.out⟩
  · have hne : ((a.length : Int) != (b.length : Int)) = true := by simp; omega
    rw [sameV_len hl]
    go_enter Tryz.func11, Tryz.ntmps11
    go_wp2
    go_ret
    exact ⟨rfl, Below.refl _ _⟩
end TreeD
end Go.Proofs.YtakdmlaecidjaaaGreatDoor
