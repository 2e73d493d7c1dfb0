/- Types: names that rise, a search by a function, the parts that a type must have. -/
import Derived.Test.YthcdbmbimdkcfaaDoorTyFn1
import Derived.Laws.Cover1
namespace Go.Proofs.YthcdbmbimdkcfaaDoor
open Go.RowKit ObjM
namespace TyD
open LexD (nameB WTab name_fn refName_fn)

theorem less_lt : ∀ (x y : List UInt8), Op.bytesLess x y = decide (x < y)
  | [], [] => by simp [Op.bytesLess]
  | _ :: _, [] => by simp [Op.bytesLess]
  | [], _ :: _ => by simp [Op.bytesLess]
  | a :: x, b :: y => by
    rw [Op.bytesLess, less_lt x y, Bool.eq_iff_iff]
    simp [List.cons_lt_cons_iff]
theorem le_str (a b : ByteArray) : (Op.bytesLess a.toList b.toList || (a.toList == b.toList)) = !decide (b.data.toList < a.data.toList) := by
  rw [less_lt, ByteArray.toList_eq, ByteArray.toList_eq]
  rw [Bool.eq_iff_iff]
  simp only [Bool.or_eq_true, decide_eq_true_eq, beq_iff_eq, Bool.not_eq_true', decide_eq_false_iff_not]
  rw [List.not_lt, List.le_iff_lt_or_eq]
theorem rising_no {l : List ByteArray} {k : Nat} (hk : k < l.length) (h : okAt l k = false) : risingB l = false := by
  cases e : risingB l with
  | false => rfl
  | true =>
    unfold risingB risingK at e
    rw [List.all_eq_true] at e
    rw [e k (by simpa using hk)] at h
    cases h
theorem rising_next {l : List ByteArray} {k : Nat} (h : risingK l k = true) (h2 : okAt l k = true) : risingK l (k + 1) = true := by
  unfold risingK at h ⊢
  rw [List.range_succ, List.all_append, h]
  simp [h2]
set_option maxRecDepth 100000 in
set_option maxHeartbeats 8000000 in
theorem rising_any (ns : List ByteArray) (vn : Value) (w : World) (h : StrsAt w vn ns) (hl : ns.length ≤ 140737488355328) (hs : ∀ s ∈ ns, s.size ≤ 140737488355328) (hT : WTab w) :
    Calls Tryd.prog 85 #[vn] w (BoolB w (risingB ns)) := by
  obtain ⟨an, cn, rfl⟩ := h.shape
  have HV := Lib.hid (fun (W : World) (hb : Below w.heap.size w W) => h.below (Nat.le_refl _) hb)
  have HT := Lib.hid hT
  have HS := Lib.hid hs
  obtain ⟨m, hm⟩ : ∃ m, ns.length = m := ⟨_, rfl⟩
  have HM := Lib.hid hm
  obtain ⟨R, hR⟩ : ∃ R, risingB ns = R := ⟨_, rfl⟩
  have HR := Lib.hid hR
  rw [hm] at hl
  go_enter Tryd.func85, Tryd.ntmps85
  rw [hm, hR]
  clear h hm hR hT hs
  go_wp2
  go_loopw [7] (fun i wr => ∃ k : Nat, i = .int .i64 (k : Int) ∧ k ≤ m ∧ Below w.heap.size w wr ∧ Hid (risingK ns k = true)) (fun i _ => m - (intOf i).toNat)
  case atStart => exact ⟨0, rfl, by omega, Below.refl _ _, Lib.hid rfl⟩
  case round =>
    obtain ⟨k, rfl, hk, hB, HK⟩ := hrel
    have HB := Lib.hid hB
    clear hB
    by_cases hlt : k < m
    · have hi1 : (k : Int) < (m : Int) := by omega
      have hkl : k < ns.length := by rw [HM.out]; exact hlt
      obtain ⟨b, o, rfl, hb, c0⟩ := (HV.out _ HB.out).at k hkl
      have HSz := Lib.hid (HS.out _ (List.getElem_mem hkl))
      have HO : Hid (okAt ns k = (nameB ns[k] && (decide (k = 0) || decide ((ns.getD (k - 1) ⟨#[]⟩).data.toList < ns[k].data.toList)))) := Lib.hid (by
        unfold okAt
        simp only [List.getD, List.getElem?_eq_getElem hkl, Option.getD_some]
        rfl)
      have HN := fun W (hW : WTab W) => Lib.hid (name_fn ns[k] HSz.out W hW)
      have HP : Hid (1 ≤ k → (ns.getD (k - 1) ⟨#[]⟩) = ns[k - 1]'(by omega) ∧ ∃ (av : Option Addr), ∀ W, Below w.heap.size w W → W.cell? ⟨b, o + (k - 1), none⟩ = some (.string (ns[k - 1]'(by omega)))) := Lib.hid (fun h1 => ⟨by simp only [List.getD, List.getElem?_eq_getElem (show k - 1 < ns.length by omega), Option.getD_some], none, fun W hW => by
        obtain ⟨b2, o2, e, _, c⟩ := (HV.out W hW).at (k - 1) (by omega)
        injection e with e
        injection e with e1 e2
        subst e1 e2
        exact c⟩)
      generalize ns[k] = s at c0 HSz HO HN
      obtain ⟨q, hq⟩ : ∃ q, nameB s = q := ⟨_, rfl⟩
      rw [hq] at HO HN
      clear hq
      cases q
      · have HF : Hid (R = false) := Lib.hid (HR.out ▸ rising_no hkl (by rw [HO.out]; rfl))
        obtain rfl := HF.out
        clear HP HO hkl
        go_wp2_with fail
        refine ((HN _ (HT.out.below HB.out)).out).mono ?_
        rintro e w1 ⟨rfl, hb1⟩
        have HB1 := Lib.hid (HB.out.trans (hb1.mono HB.out.size))
        clear hb1
        go_wp2
        go_ret
        exact ⟨rfl, HB1.out⟩
      · by_cases h0 : k = 0
        · subst h0
          rw [Nat.add_zero] at c0
          have HF : Hid (risingK ns (0 + 1) = true) := Lib.hid (rising_next HK.out (by rw [HO.out]; rfl))
          clear HP HO hkl
          go_wp2_with fail
          refine ((HN _ (HT.out.below HB.out)).out).mono ?_
          rintro e w1 ⟨rfl, hb1⟩
          have HB1 := Lib.hid (HB.out.trans (hb1.mono HB.out.size))
          clear hb1
          go_wp2
          go_roundw
          case rel => exact ⟨0 + 1, by go_num, by omega, HB1.out, HF⟩
          case measure => simp [intOf]; omega
        · obtain ⟨e1, -, e2⟩ := HP.out (by omega)
          have HO2 := HO.out
          rw [e1, decide_eq_false h0, Bool.true_and, Bool.false_or] at HO2
          have HO3 := Lib.hid HO2
          have HE := Lib.hid e2
          have hle := le_str s (ns[k - 1]'(by omega))
          obtain ⟨j, rfl⟩ : ∃ j, k = j + 1 := ⟨k - 1, by omega⟩
          simp only [Nat.add_sub_cancel] at HO3 HE hle
          generalize ns[j]'(by omega) = p at HO3 HE hle
          obtain ⟨lt, hlt2⟩ : ∃ lt, decide (p.data.toList < s.data.toList) = lt := ⟨_, rfl⟩
          rw [hlt2] at HO3 hle
          have hj0 : (0 : Int) < ((j + 1 : Nat) : Int) := by omega
          have hj2 : (j : Int) < (m : Int) := by omega
          have hj3 : ((j + 1 : Nat) : Int) - 1 = (j : Int) := by omega
          clear HP HO HO2 hlt2 e1 e2
          cases lt
          · have HF : Hid (R = false) := Lib.hid (HR.out ▸ rising_no hkl HO3.out)
            obtain rfl := HF.out
            clear HO3 hkl
            simp only [Bool.not_false] at hle
            go_wp2_with fail
            refine ((HN _ (HT.out.below HB.out)).out).mono ?_
            rintro e w1 ⟨rfl, hb1⟩
            have HB1 := Lib.hid (HB.out.trans (hb1.mono HB.out.size))
            clear hb1
            have cp := HE.out w1 HB1.out
            go_wp2

            go_ret
            exact ⟨rfl, HB1.out⟩
          · have HF : Hid (risingK ns (j + 1 + 1) = true) := Lib.hid (rising_next HK.out HO3.out)
            clear HO3 hkl
            simp only [Bool.not_true] at hle
            go_wp2_with fail
            refine ((HN _ (HT.out.below HB.out)).out).mono ?_
            rintro e w1 ⟨rfl, hb1⟩
            have HB1 := Lib.hid (HB.out.trans (hb1.mono HB.out.size))
            clear hb1
            have cp := HE.out w1 HB1.out
            go_wp2
            go_roundw
            case rel => exact ⟨j + 1 + 1, by go_num, by omega, HB1.out, HF⟩
            case measure => simp [intOf]; omega
    · have hkm : k = m := by omega
      have HF : Hid (R = true) := Lib.hid (by rw [← HR.out]; unfold risingB; rw [HM.out, ← hkm]; exact HK.out)
      obtain rfl := HF.out
      subst hkm
      go_wp2
      go_ret
      exact ⟨rfl, HB.out⟩
end TyD
end Go.Proofs.YthcdbmbimdkcfaaDoor
