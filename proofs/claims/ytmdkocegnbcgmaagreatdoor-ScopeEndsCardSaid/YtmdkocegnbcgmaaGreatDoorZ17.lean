/- Masks: the program's. -/
import Derived.Test.YtmdkocegnbcgmaaGreatDoorZ11
import Derived.Test.YtmdkocegnbcgmaaGreatDoorZ13
import Derived.Test.YtmdkocegnbcgmaaGreatDoorZ16
import Derived.Test.YtmdkocegnbcgmaaGreatDoorShelf
import Derived.Lib.AtoiErrMem
import Derived.Lib.ParseIntBTie
import Derived.Lib.ItoaMem
namespace Go.Proofs.YtmdkocegnbcgmaaGreatDoor
open Go.RowKit ObjM
namespace TreeD

theorem uintM_append (M : Nat) : ∀ (xs : List UInt8) (a v : Nat) (ys : List UInt8), Lib.parseUintM M a xs = .ok v → Lib.parseUintM M a (xs ++ ys) = Lib.parseUintM M v ys
  | [], a, v, ys, h => by
    simp only [Lib.parseUintM] at h
    injection h with h
    rw [h]
    rfl
  | c :: r, a, v, ys, h => by
    rw [List.cons_append]
    simp only [Lib.parseUintM] at h ⊢
    split at h
    · rename_i h1
      rw [if_pos h1]
      split at h
      · cases h
      · rename_i h2
        rw [if_neg h2]
        split at h
        · cases h
        · rename_i h3
          rw [if_neg h3]
          exact uintM_append M r _ v ys h
    · cases h
theorem uintM_digits (u : Nat) : u ≤ 18446744073709551615 → Lib.parseUintM 18446744073709551615 0 (Lib.decDigits u) = .ok u := by
  induction u using Nat.strongRecOn with
  | _ u ih =>
    intro hu
    have hd : ∀ d, d < 10 → (UInt8.ofNat (48 + d)).toNat = 48 + d := fun d h => by rw [UInt8.toNat_ofNat']; omega
    by_cases h : u < 10
    · rw [Lib.decDigits, dif_pos h]
      unfold Lib.parseUintM
      rw [hd u h, if_pos (by omega), if_neg (by omega), if_neg (by omega)]
      unfold Lib.parseUintM
      congr 1
      omega
    · rw [Lib.decDigits, dif_neg h, uintM_append _ _ _ _ _ (ih (u / 10) (by omega) (by omega))]
      unfold Lib.parseUintM
      rw [hd (u % 10) (by omega), if_pos (by omega), if_neg (by omega), if_neg (by omega)]
      unfold Lib.parseUintM
      congr 1
      omega
theorem digits_head (u : Nat) : ∃ c r, Lib.decDigits u = c :: r ∧ 48 ≤ c.toNat ∧ c.toNat ≤ 57 := by
  cases h : Lib.decDigits u with
  | nil => exact absurd h (NumM.digits_ne u)
  | cons c r =>
    have := NumM.digit_of u c (by rw [h]; simp)
    exact ⟨c, r, rfl, this.1, this.2⟩
theorem parse_back {n : Int} (h0 : -9223372036854775808 ≤ n) (h1 : n ≤ 9223372036854775807) : Lib.parseIntB 64 (Lib.itoa n) = .ok n := by
  by_cases hn : n < 0
  · have e : Lib.itoa n = 45 :: Lib.decDigits n.natAbs := by unfold Lib.itoa; rw [if_pos hn]
    rw [e]
    unfold Lib.parseIntB
    have e45 : (45 : UInt8).toNat = 45 := rfl
    simp only [e45]
    rw [if_pos (by simp)]
    have hp : Lib.parseUintB 64 (Lib.decDigits n.natAbs) = .ok n.natAbs := by
      unfold Lib.parseUintB
      rw [if_neg (NumM.digits_ne _)]
      exact uintM_digits _ (by omega)
    rw [hp]
    simp only
    rw [if_neg (by simp), if_neg (by simp; omega), if_pos trivial]
    congr 1
    omega
  · have e : Lib.itoa n = Lib.decDigits n.toNat := by unfold Lib.itoa; rw [if_neg hn]
    rw [e]
    obtain ⟨c, r, hc, l1, l2⟩ := digits_head n.toNat
    have hp : Lib.parseUintB 64 (Lib.decDigits n.toNat) = .ok n.toNat := by
      unfold Lib.parseUintB
      rw [if_neg (NumM.digits_ne _)]
      exact uintM_digits _ (by omega)
    rw [hc] at hp ⊢
    unfold Lib.parseIntB
    simp only
    rw [if_neg (by omega), hp]
    simp only
    rw [if_neg (by simp; omega), if_neg (by omega), if_neg (by omega)]
    congr 1
    omega
/-- What the library's texts lay. -/
structure Tm (w : World) : Prop where
  tab : NumD.Tab w
  syn : ∃ ev, w.cell? ⟨10, 0, none⟩ = some ev ∧ (ev = .nilIface ∨ ∃ te pe, ev = .iface te pe)
  rng : ∃ ev, w.cell? ⟨11, 0, none⟩ = some ev ∧ (ev = .nilIface ∨ ∃ te pe, ev = .iface te pe)
  lt : 10 < w.heap.size ∧ 11 < w.heap.size
theorem Tm.below {w w' : World} (h : Tm w) (hb : Below w.heap.size w w') : Tm w' := by
  obtain ⟨e1, c1, d1⟩ := h.syn
  obtain ⟨e2, c2, d2⟩ := h.rng
  have := hb.size
  exact ⟨h.tab.below hb, ⟨e1, (hb.cell (p := ⟨_, 0, none⟩) h.lt.1).trans c1, d1⟩, ⟨e2, (hb.cell (p := ⟨_, 0, none⟩) h.lt.2).trans c2, d2⟩, by have := h.lt; omega, by have := h.lt; omega⟩
theorem mask_ok {s : ByteArray} {v : Int} (h : Lib.parseIntB 64 s.data.toList = .ok v) : maskB s = decide (s.data.toList = Lib.itoa v) := by
  have hb := Lib.parseIntB_bounds h
  unfold maskB
  rw [decide_eq_decide]
  constructor
  · rintro ⟨n, h0, h1, e⟩
    rw [e, parse_back h0 h1] at h
    injection h with h
    rw [e, h]
  · intro e
    exact ⟨v, by simpa using hb.1, by have := hb.2; omega, e⟩
theorem mask_no {s : ByteArray} (h : ∀ v, Lib.parseIntB 64 s.data.toList ≠ .ok v) : maskB s = false := by
  unfold maskB
  rw [decide_eq_false_iff_not]
  rintro ⟨n, h0, h1, e⟩
  exact h n (by rw [e, parse_back h0 h1])
theorem text_eq (l : List UInt8) (s : ByteArray) : ((⟨l.toArray⟩ : ByteArray).toList == s.toList) = decide (s.data.toList = l) := by
  rw [ByteArray.toList_eq, ByteArray.toList_eq]
  by_cases h : s.data.toList = l
  · rw [decide_eq_true h, h]
    simp
  · rw [decide_eq_false h]
    simp only [beq_eq_false_iff_ne, ne_eq]
    intro e
    exact h e.symm
set_option maxRecDepth 100000 in
set_option maxHeartbeats 4000000 in
theorem mask_any (s : ByteArray) (hs : s.size ≤ 140737488355328) (w : World) (hT : Tm w) : Calls Tryz.prog 105 #[.string s] w fun e w' => e = .returned (.bool (maskB s)) ∧ Below w.heap.size w w' := by
  have HT := Lib.hid (fun (W : World) (hb : Below w.heap.size w W) => hT.below hb)
  cases hA : Lib.parseIntB 64 s.data.toList with
  | ok v =>
    have hb := Lib.parseIntB_bounds hA
    have h0 : -9223372036854775808 ≤ v := by simpa using hb.1
    have h1 : v ≤ 9223372036854775807 := by have := hb.2; omega
    have HM := Lib.hid (mask_ok hA)
    have HP := Lib.hid (Tryz.strconv_ParseInt_10_at64_ok s (by omega) v hA w)
    have HTe := Lib.hid (text_eq (Lib.itoa v) s)
    have HS := Lib.hid (fun (W : World) (hb : Below w.heap.size w W) => NumD.show_any v h0 h1 W (HT.out W hb).tab)
    obtain ⟨r, hr⟩ : ∃ r, decide (s.data.toList = Lib.itoa v) = r := ⟨_, rfl⟩
    rw [hr] at HM HTe
    obtain ⟨t, ht⟩ : ∃ t : ByteArray, (⟨(Lib.itoa v).toArray⟩ : ByteArray) = t := ⟨_, rfl⟩
    rw [ht] at HTe HS
    rw [HM.out]
    clear hA hb HM hT hr ht h0 h1
    go_enter Tryz.func105, Tryz.ntmps105
    go_wp2_with fail
    refine (HP.out).mono ?_
    rintro e w1 ⟨rfl, hw⟩
    have HB1 : Hid (Below w.heap.size w w1) := Lib.hid (by
      rcases hw with rfl | ⟨t, rfl⟩
      · exact Below.refl _ _
      · exact Lib.bytesWorld_below _ _ _)
    clear hw
    have hte := HTe.out
    go_wp2_with fail
    refine (HS.out _ HB1.out).mono ?_
    rintro e w2 ⟨rfl, hb2⟩
    have HB2 := Lib.hid (HB1.out.trans (hb2.mono HB1.out.size))
    clear hb2
    go_wp2
    go_ret
    exact ⟨rfl, HB2.out⟩
  | range =>
    have HM := Lib.hid (mask_no (s := s) (by rw [hA]; intro v h; cases h))
    obtain ⟨ev, hev1, hev2⟩ := hT.rng
    have HP := Lib.hid (Tryz.strconv_ParseInt_10_at64_range s (by omega) hA ev w hev1 hev2)
    rw [HM.out]
    clear hA HM hT hev1 hev2
    go_enter Tryz.func105, Tryz.ntmps105
    go_wp2_with fail
    refine (HP.out).mono ?_
    rintro e w2 ⟨N, rfl, -, -, hb2⟩
    go_wp2
    go_ret
    exact ⟨rfl, hb2⟩
  | _ =>
    have HM := Lib.hid (mask_no (s := s) (by rw [hA]; intro v h; cases h))
    obtain ⟨ev, hev1, hev2⟩ := hT.syn
    have HP := Lib.hid (Any.strconv_ParseInt_10_at64_syntax Tryz.laysC174 s (by omega) hA ev w hev1 hev2)
    rw [HM.out]
    clear hA HM hT hev1 hev2
    go_enter Tryz.func105, Tryz.ntmps105
    go_wp2_with fail
    refine (HP.out).mono ?_
    rintro e w2 ⟨N, rfl, -, -, hb2⟩
    go_wp2
    go_ret
    exact ⟨rfl, hb2⟩
end TreeD
end Go.Proofs.YtmdkocegnbcgmaaGreatDoor
