/- The statement LexNames. -/
import Derived.Test.YthlclmjcdpffbaaDoorLex21
namespace Go.Proofs.YthlclmjcdpffbaaDoor
open Go.RowKit ObjM Go.Maps Go.ChangeShapes
namespace LexD

def nameB (s : ByteArray) : Bool := match s.data.toList with
  | [] => false
  | c :: r => letB c.toNat && decide (runN (c :: r) = s.size) && !wordB 18 (key8 s)
theorem name_empty : nameB ⟨#[]⟩ = false := rfl
theorem name_of {s : ByteArray} (h0 : 0 < s.size) : nameB s = (letB s[0].toNat && decide (runN s.data.toList = s.size) && !wordB 18 (key8 s)) := by
  obtain ⟨r, hr⟩ := list_zero h0
  unfold nameB
  rw [hr]
theorem empty_no {s : ByteArray} (h0 : 0 < s.size) : s.toList.isEmpty = false := by
  obtain ⟨r, hr⟩ := list_zero h0
  rw [ByteArray.toList_eq, hr]
  rfl
theorem size_zero {s : ByteArray} (h : s.size = 0) : s = ⟨#[]⟩ := by
  cases s with
  | mk d =>
    congr 1
    exact Array.eq_empty_of_size_eq_zero h
theorem word_step {s : ByteArray} {k : Nat} (hk : k < 18) (h : wordB k (key8 s) = false) : wordB (k + 1) (key8 s) = ((WL.getD k ⟨#[]⟩).toList == s.toList) := by
  have hl : k < WL.length := hk
  have ht : WL.take (k + 1) = WL.take k ++ [WL[k]] := by rw [List.take_succ_eq_append_getElem hl]
  unfold wordB at h ⊢
  rw [ht, List.any_append, h]
  have : WL.getD k ⟨#[]⟩ = WL[k] := by simp [List.getD, hl]
  rw [this, ByteArray.toList_eq, ByteArray.toList_eq]
  simp [key8]
theorem word_more {s : ByteArray} {k : Nat} (hk : k ≤ 18) (h : wordB k (key8 s) = true) : wordB 18 (key8 s) = true := by
  unfold wordB at h ⊢
  rw [List.any_eq_true] at h ⊢
  obtain ⟨x, hx, e⟩ := h
  exact ⟨x, (List.take_subset_take_left WL hk) hx, e⟩
set_option maxRecDepth 100000 in
set_option maxHeartbeats 8000000 in
theorem name_fn (s : ByteArray) (hs : s.size ≤ 1000000) (w : World) (hT : WTab w) : Calls Tryd.prog 13 #[.string s] w fun e w' => e = .returned (.bool (nameB s)) ∧ Below w.heap.size w w' := by
  by_cases h0 : 0 < s.size
  · have hnm := name_of h0
    have hem := empty_no h0
    have hi0 : (0 : Int) < (s.size : Int) := by omega
    have HL := fun W => Lib.hid (letter_any (s[0].toNat : Int) W)
    have HR := fun W => Lib.hid (run_any s (by omega) W)
    have hrl := runN_list s
    have hsz : (s.extract 0 (runN s.data.toList)).size = runN s.data.toList := by simp; omega
    obtain ⟨lb, hlb⟩ : ∃ b, letB s[0].toNat = b := ⟨_, rfl⟩
    rw [hlb] at HL hnm
    cases lb
    · rw [hnm]
      simp only [Bool.false_and]
      clear hnm hlb hsz hrl HR
      go_enter Tryd.func13, Tryd.ntmps13
      go_wp2_with fail
      refine ((HL _).out).mono ?_
      rintro e w1 ⟨rfl, rfl⟩
      go_wp2
      go_ret
      exact ⟨rfl, Below.refl _ _⟩
    · by_cases hr : runN s.data.toList = s.size
      · have hd : decide (runN s.data.toList = s.size) = true := decide_eq_true hr
        rw [hd] at hnm
        simp only [Bool.true_and] at hnm
        rw [hr] at HR hsz
        rw [hnm]
        have c0 := hT.2 0 _ rfl
        have c1 := hT.2 1 _ rfl
        have c2 := hT.2 2 _ rfl
        have c3 := hT.2 3 _ rfl
        have c4 := hT.2 4 _ rfl
        have c5 := hT.2 5 _ rfl
        have c6 := hT.2 6 _ rfl
        have c7 := hT.2 7 _ rfl
        have c8 := hT.2 8 _ rfl
        have c9 := hT.2 9 _ rfl
        have c10 := hT.2 10 _ rfl
        have c11 := hT.2 11 _ rfl
        have c12 := hT.2 12 _ rfl
        have c13 := hT.2 13 _ rfl
        have c14 := hT.2 14 _ rfl
        have c15 := hT.2 15 _ rfl
        have c16 := hT.2 16 _ rfl
        have c17 := hT.2 17 _ rfl
        have gl := hT.1
        clear hT hnm hd hlb hrl hr
        go_enter Tryd.func13, Tryd.ntmps13
        go_wp2_with fail
        refine ((HL _).out).mono ?_
        rintro e w1 ⟨rfl, rfl⟩
        go_wp2_with fail
        refine ((HR _).out).mono ?_
        rintro e w1 ⟨rfl, rfl⟩
        go_wp2
        clear c0 c1 c2 c3 c4 c5 c6 c7 c8 c9 c10 c11 c12 c13 c14 c15 c16 c17 gl HL HR
        go_loopw [22] (fun i wr => ∃ k : Nat, i = .int .i64 k ∧ k ≤ 18 ∧ Hid (wr = w) ∧ Hid (wordB k (key8 s) = false)) (fun i _ => 18 - (intOf i).toNat)
        case atStart => exact ⟨0, rfl, by omega, Lib.hid rfl, Lib.hid rfl⟩
        case round =>
          obtain ⟨k, rfl, hk, HW, HN⟩ := hrel
          obtain rfl := HW.out
          clear HW
          by_cases hlt : k < 18
          · have HI : ∀ W, (Instr.index 47 (.agg #[.string ⟨#[97, 110, 100]⟩, .string ⟨#[98, 114, 101, 97, 107]⟩, .string ⟨#[99, 104, 97, 110, 110, 101, 108]⟩, .string ⟨#[100, 111]⟩, .string ⟨#[101, 108, 115, 101]⟩, .string ⟨#[101, 108, 115, 101, 105, 102]⟩, .string ⟨#[101, 110, 100]⟩, .string ⟨#[102, 97, 108, 115, 101]⟩, .string ⟨#[102, 117, 110, 99, 116, 105, 111, 110]⟩, .string ⟨#[105, 102]⟩, .string ⟨#[108, 111, 99, 97, 108]⟩, .string ⟨#[110, 105, 108]⟩, .string ⟨#[110, 111, 116]⟩, .string ⟨#[111, 114]⟩, .string ⟨#[114, 101, 116, 117, 114, 110]⟩, .string ⟨#[116, 104, 101, 110]⟩, .string ⟨#[116, 114, 117, 101]⟩, .string ⟨#[119, 104, 105, 108, 101]⟩]) (.int .i64 (k : Int))).run Tryd.prog W = .ok (.string (WL.getD k ⟨#[]⟩)) W := fun W => index_word k hlt W
            have HSt := Lib.hid (word_step hlt HN.out)
            have HMo := Lib.hid (word_more (s := s) (k := k + 1) (by omega))
            generalize WL.getD k ⟨#[]⟩ = wk at HI HSt
            obtain ⟨eb, heb⟩ : ∃ b, (wk.toList == s.toList) = b := ⟨_, rfl⟩
            rw [heb] at HSt
            cases eb
            · go_wp2
              go_roundw
              case rel => exact ⟨k + 1, by go_num, by omega, (by first | exact Lib.hid rfl | exact Lib.hid trivial), HSt⟩
              case measure => simp [intOf]; omega
            · have HF := Lib.hid (HMo.out HSt.out)
              clear HSt HMo
              go_wp2
              go_ret
              rw [HF.out]
              exact ⟨rfl, Below.refl _ _⟩
          · have hk18 : k = 18 := by omega
            subst hk18
            go_wp2
            go_ret
            rw [HN.out]
            exact ⟨rfl, Below.refl _ _⟩
      · have hd : decide (runN s.data.toList = s.size) = false := decide_eq_false hr
        rw [hd] at hnm
        simp only [Bool.and_false, Bool.false_and] at hnm
        rw [hnm]
        have hne : ((runN s.data.toList : Int) != (s.size : Int)) = true := by simp; omega
        generalize runN s.data.toList = rn at *
        clear hnm hd hr
        go_enter Tryd.func13, Tryd.ntmps13
        go_wp2_with fail
        refine ((HL _).out).mono ?_
        rintro e w1 ⟨rfl, rfl⟩
        go_wp2_with fail
        refine ((HR _).out).mono ?_
        rintro e w1 ⟨rfl, rfl⟩
        go_wp2
        go_ret
        exact ⟨rfl, Below.refl _ _⟩
  · have := size_zero (s := s) (by omega)
    subst this
    rw [name_empty]
    go_enter Tryd.func13, Tryd.ntmps13
    go_wp2
    go_ret
    exact ⟨rfl, Below.refl _ _⟩
set_option maxRecDepth 100000 in
set_option maxHeartbeats 8000000 in
theorem refName_fn (s : ByteArray) (hs : s.size ≤ 1000000) (w : World) : Calls Tryd.prog 14 #[.string s] w fun e w' => e = .returned (.bool (nameB s)) ∧ Below w.heap.size w w' := by
  by_cases h0 : 0 < s.size
  · have hnm := name_of h0
    have hem := empty_no h0
    have hi0 : (0 : Int) < (s.size : Int) := by omega
    have HL := fun W => Lib.hid (refLetter_any (s[0].toNat : Int) W)
    have HW := fun W => Lib.hid (refWord_any s W)
    obtain ⟨lb, hlb⟩ : ∃ b, letB s[0].toNat = b := ⟨_, rfl⟩
    obtain ⟨wb, hwb⟩ : ∃ b, wordB 18 (key8 s) = b := ⟨_, rfl⟩
    rw [hlb] at HL
    rw [hwb] at HW
    rw [hlb, hwb] at hnm
    clear hlb hwb
    cases lb
    · rw [hnm]
      simp only [Bool.false_and]
      clear hnm HW
      go_enter Tryd.func14, Tryd.ntmps14
      go_wp2_with fail
      refine ((HL _).out).mono ?_
      rintro e w1 ⟨rfl, rfl⟩
      go_wp2
      go_ret
      exact ⟨rfl, Below.refl _ _⟩
    · cases wb
      · simp only [Bool.true_and, Bool.not_false, Bool.and_true] at hnm
        rw [hnm]
        have HStop : Hid (∀ k (hk : k < s.size), (∀ j (hj : j < k), parB ((s[j]'(by omega)).toNat : Int) = true) → parB (s[k].toNat : Int) = false → runN s.data.toList = k) := Lib.hid fun k hk ha hs => runN_stop (l := s.data.toList) (by simpa using hk) (fun j hj => ha j hj) hs
        have HAll : Hid ((∀ j (hj : j < s.size), parB (s[j].toNat : Int) = true) → runN s.data.toList = s.size) := Lib.hid fun ha => by
          have := runN_all (l := s.data.toList) fun j hj => ha j (by simpa using hj)
          simpa using this
        generalize runN s.data.toList = m at HStop HAll ⊢
        clear hnm
        go_enter Tryd.func14, Tryd.ntmps14
        go_wp2_with fail
        refine ((HL _).out).mono ?_
        rintro e w1 ⟨rfl, rfl⟩
        go_wp2_with fail
        refine ((HW _).out).mono ?_
        rintro e w1 ⟨rfl, rfl⟩
        go_wp2
        clear HL HW
        go_loop [3] (fun i => ∃ k : Nat, i = .int .i64 k ∧ k ≤ s.size ∧ Hid (∀ j (hj : j < k) (hk : j < s.size), parB (s[j].toNat : Int) = true)) (fun i => s.size - (intOf i).toNat)
        case atStart => exact ⟨0, rfl, Nat.zero_le _, Lib.hid (fun j hj => by omega)⟩
        case round =>
          obtain ⟨k, rfl, hk, HF⟩ := hrel
          by_cases hlt : k < s.size
          · have HP := fun W => Lib.hid (refPart_any (s[k].toNat : Int) W)
            obtain ⟨pb, hpb⟩ : ∃ b, parB (s[k].toNat : Int) = b := ⟨_, rfl⟩
            rw [hpb] at HP
            have HPb := Lib.hid hpb
            have HG : Hid (parB (s[k].toNat : Int) = true → ∀ j (hj : j < k + 1) (hk : j < s.size), parB (s[j].toNat : Int) = true) := Lib.hid fun h j hj hjs => by
              by_cases hjk : j < k
              · exact HF.out j hjk hjs
              · have : j = k := by omega
                subst this
                exact h
            clear hpb
            cases pb
            · have HR := Lib.hid (HStop.out k hlt (fun j hj => HF.out j hj (by omega)) HPb.out)
              clear HStop HAll HG
              go_wp2_with fail
              refine ((HP _).out).mono ?_
              rintro e w1 ⟨rfl, rfl⟩
              go_wp2
              go_ret
              refine ⟨?_, Below.refl _ _⟩
              rw [HR.out, decide_eq_false (by omega)]
              rfl
            · have HF2 := Lib.hid (HG.out HPb.out)
              clear HStop HAll HG
              go_wp2_with fail
              refine ((HP _).out).mono ?_
              rintro e w1 ⟨rfl, rfl⟩
              go_wp2
              go_round
              case rel => exact ⟨k + 1, by go_num, by omega, HF2⟩
              case measure => simp [intOf]; omega
          · have hks : k = s.size := by omega
            have HR := Lib.hid (HAll.out (fun j hj => HF.out j (by omega) hj))
            clear HStop HAll
            subst hks
            go_wp2
            go_ret
            refine ⟨?_, Below.refl _ _⟩
            rw [HR.out, decide_eq_true rfl]
            rfl
      · simp only [Bool.not_true, Bool.and_false] at hnm
        rw [hnm]
        clear hnm
        go_enter Tryd.func14, Tryd.ntmps14
        go_wp2_with fail
        refine ((HL _).out).mono ?_
        rintro e w1 ⟨rfl, rfl⟩
        go_wp2_with fail
        refine ((HW _).out).mono ?_
        rintro e w1 ⟨rfl, rfl⟩
        go_wp2
        go_ret
        exact ⟨rfl, Below.refl _ _⟩
  · have := size_zero (s := s) (by omega)
    subst this
    rw [name_empty]
    go_enter Tryd.func14, Tryd.ntmps14
    go_wp2
    go_ret
    exact ⟨rfl, Below.refl _ _⟩
set_option maxRecDepth 100000 in
set_option maxHeartbeats 4000000 in
theorem lexNames_u (s : ByteArray) (hs : s.size ≤ 9223372036854775807) (w : World) (hT : WTab w) :
    Calls Tryd.prog 4 #[.string s] w fun e w' => e = .returned (.bool true) ∧ Below w.heap.size w w' := by
  have HA := Lib.hid (awake_any w hT)
  have HT := Lib.hid hT
  clear hT
  by_cases h3 : 1000 < s.size
  · have h3i : (1000 : Int) < (s.size : Int) := by omega
    go_enter Tryd.func4, Tryd.ntmps4
    go_wp2_with fail
    refine (HA.out).mono ?_
    rintro e w1 ⟨rfl, hb⟩
    go_wp2
    go_ret
    exact ⟨rfl, hb⟩
  · have h3i : ¬ (1000 : Int) < (s.size : Int) := by omega
    have HQ := fun W (h : WTab W) => Lib.hid (name_fn s (by omega) W h)
    have HR := fun W => Lib.hid (refName_fn s (by omega) W)
    generalize nameB s = q at HQ HR
    go_enter Tryd.func4, Tryd.ntmps4
    go_wp2_with fail
    refine (HA.out).mono ?_
    rintro e w1 ⟨rfl, hb⟩
    have HB := Lib.hid hb
    clear hb
    go_wp2_with fail
    refine ((HQ _ (HT.out.below HB.out)).out).mono ?_
    rintro e w2 ⟨rfl, hb⟩
    have HB2 := Lib.hid (HB.out.trans (hb.mono HB.out.size))
    clear hb
    go_wp2_with fail
    refine ((HR _).out).mono ?_
    rintro e w3 ⟨rfl, hb⟩
    have HB3 := Lib.hid (HB2.out.trans (hb.mono HB2.out.size))
    clear hb
    cases q
    all_goals
      go_wp2
      go_ret
      exact ⟨rfl, HB3.out⟩
end LexD
end Go.Proofs.YthlclmjcdpffbaaDoor
