/- Letters, digits, what a text begins with. -/
import Derived.Test.YtmdkocegnbcgmaaGreatDoorZ4
import Derived.Lib.Strings
import Derived.LoopTactic
import Derived.WalkKit
namespace Go.Proofs.YtmdkocegnbcgmaaGreatDoor
open Go.RowKit ObjM
namespace LexD

def letB (n : Int) : Bool := (decide (97 ≤ n) && decide (n ≤ 122)) || (decide (65 ≤ n) && decide (n ≤ 90)) || decide (n = 95)
def digB (n : Int) : Bool := decide (48 ≤ n) && decide (n ≤ 57)
def parB (n : Int) : Bool := letB n || digB n
def BoolIs (w : World) (b : Bool) (e : Ending) (w' : World) : Prop := e = .returned (.bool b) ∧ w = w'
theorem BoolIs.mk {w : World} {b c : Bool} (h : c = b) : BoolIs w b (.returned (.bool c)) w := ⟨by rw [h], rfl⟩
set_option maxHeartbeats 1000000 in
theorem letter_any (n : Int) (w : World) : Calls Tryz.prog 132 #[.int .u8 n] w (BoolIs w (letB n)) := by
  go_enter Tryz.func132, Tryz.ntmps132
  go_wp2
  all_goals
    go_ret
    refine BoolIs.mk ?_
    unfold letB
    rw [Bool.eq_iff_iff]
    simp
    try omega
set_option maxHeartbeats 1000000 in
theorem digit_any (n : Int) (w : World) : Calls Tryz.prog 155 #[.int .u8 n] w (BoolIs w (digB n)) := by
  go_enter Tryz.func155, Tryz.ntmps155
  go_wp2
  all_goals
    go_ret
    refine BoolIs.mk ?_
    unfold digB
    rw [Bool.eq_iff_iff]
    simp
    try omega
set_option maxHeartbeats 1000000 in
theorem refLetter_any (n : Int) (w : World) : Calls Tryz.prog 75 #[.int .u8 n] w (BoolIs w (letB n)) := by
  go_enter Tryz.func75, Tryz.ntmps75
  go_wp2
  all_goals
    go_ret
    refine BoolIs.mk ?_
    unfold letB
    rw [Bool.eq_iff_iff]
    simp
    try omega
set_option maxHeartbeats 1000000 in
theorem refPart_any (n : Int) (w : World) : Calls Tryz.prog 77 #[.int .u8 n] w (BoolIs w (parB n)) := by
  obtain ⟨b, hb⟩ : ∃ b, letB n = b := ⟨_, rfl⟩
  have HL := fun W => Lib.hid (refLetter_any n W)
  unfold parB
  rw [hb] at HL ⊢
  clear hb
  cases b
  · go_enter Tryz.func77, Tryz.ntmps77
    go_wp2_with fail
    refine ((HL _).out).mono ?_
    rintro e w1 ⟨rfl, rfl⟩
    go_wp2
    all_goals
      go_ret
      refine BoolIs.mk ?_
      unfold digB
      rw [Bool.eq_iff_iff]
      simp
      try omega
  · go_enter Tryz.func77, Tryz.ntmps77
    go_wp2_with fail
    refine ((HL _).out).mono ?_
    rintro e w1 ⟨rfl, rfl⟩
    go_wp2
    all_goals
      go_ret
      exact BoolIs.mk (by simp)
/-- How many letters and digits stand at the beginning. -/
def runN (l : List UInt8) : Nat := (l.takeWhile fun c => parB (c.toNat : Int)).length
theorem runN_le (l : List UInt8) : runN l ≤ l.length := by
  unfold runN
  exact (List.takeWhile_prefix _).length_le
theorem runN_stop {l : List UInt8} {k : Nat} (hk : k < l.length) (ha : ∀ j (hj : j < k), parB ((l[j]'(by omega)).toNat : Int) = true) (hs : parB (l[k].toNat : Int) = false) : runN l = k := by
  unfold runN
  induction l generalizing k with
  | nil => simp at hk
  | cons a r ih =>
    rw [List.takeWhile_cons]
    cases k with
    | zero =>
      have : parB (a.toNat : Int) = false := hs
      rw [this]
      rfl
    | succ k =>
      have h0 : parB (a.toNat : Int) = true := ha 0 (by omega)
      rw [h0]
      have := ih (k := k) (by simpa using hk) (fun j hj => ha (j + 1) (by omega)) hs
      simpa using this
theorem runN_all {l : List UInt8} (ha : ∀ j (hj : j < l.length), parB (l[j].toNat : Int) = true) : runN l = l.length := by
  unfold runN
  induction l with
  | nil => rfl
  | cons a r ih =>
    rw [List.takeWhile_cons]
    have h0 : parB (a.toNat : Int) = true := ha 0 (by simp)
    rw [h0]
    have := ih fun j hj => ha (j + 1) (by simpa using hj)
    simpa using this
def StrIs (w : World) (s : ByteArray) (e : Ending) (w' : World) : Prop := e = .returned (.string s) ∧ w = w'
set_option maxRecDepth 100000 in
set_option maxHeartbeats 2000000 in
theorem run_any (s : ByteArray) (hs : s.size ≤ 140737488355328) (w : World) : Calls Tryz.prog 133 #[.string s] w (StrIs w (s.extract 0 (runN s.data.toList))) := by
  have HStop : Hid (∀ k (hk : k < s.size), (∀ j (hj : j < k), parB ((s[j]'(by omega)).toNat : Int) = true) → parB (s[k].toNat : Int) = false → runN s.data.toList = k) := Lib.hid fun k hk ha hs => runN_stop (l := s.data.toList) (by simpa using hk) (fun j hj => ha j hj) hs
  have HAll : Hid ((∀ j (hj : j < s.size), parB (s[j].toNat : Int) = true) → runN s.data.toList = s.size) := Lib.hid fun ha => by
    have := runN_all (l := s.data.toList) fun j hj => ha j (by simpa using hj)
    simpa using this
  obtain ⟨m, hm⟩ : ∃ m, runN s.data.toList = m := ⟨_, rfl⟩
  rw [hm] at HStop HAll ⊢
  clear hm
  go_enter Tryz.func133, Tryz.ntmps133
  go_wp2
  go_loop [3] (fun i => ∃ k : Nat, i = .int .i64 k ∧ k ≤ s.size ∧ Hid (∀ j (hj : j < k) (hk : j < s.size), parB (s[j].toNat : Int) = true)) (fun i => s.size - (intOf i).toNat)
  case atStart => exact ⟨0, rfl, Nat.zero_le _, Lib.hid (fun j hj => by omega)⟩
  case round =>
    obtain ⟨k, rfl, hk, HF⟩ := hrel
    by_cases hlt : k < s.size
    · have HL := fun W => Lib.hid (letter_any (s[k].toNat : Int) W)
      have HD := fun W => Lib.hid (digit_any (s[k].toNat : Int) W)
      have hpb : parB (s[k].toNat : Int) = (letB (s[k].toNat : Int) || digB (s[k].toNat : Int)) := rfl
      obtain ⟨lb, hlb⟩ : ∃ b, letB (s[k].toNat : Int) = b := ⟨_, rfl⟩
      obtain ⟨db, hdb⟩ : ∃ b, digB (s[k].toNat : Int) = b := ⟨_, rfl⟩
      rw [hlb, hdb] at hpb
      rw [hlb] at HL
      rw [hdb] at HD
      have HP := Lib.hid hpb
      clear hlb hdb hpb
      have HG : Hid (parB (s[k].toNat : Int) = true → ∀ j (hj : j < k + 1) (hk : j < s.size), parB (s[j].toNat : Int) = true) := Lib.hid fun h j hj hjs => by
        by_cases hjk : j < k
        · exact HF.out j hjk hjs
        · have : j = k := by omega
          subst this
          exact h
      go_wp2_with fail
      refine ((HL _).out).mono ?_
      rintro e w1 ⟨rfl, rfl⟩
      cases lb
      · go_wp2_with fail
        refine ((HD _).out).mono ?_
        rintro e w1 ⟨rfl, rfl⟩
        cases db
        · have hr := HStop.out k hlt (fun j hj => HF.out j hj (by omega)) HP.out
          subst hr
          go_wp2
          go_ret
          exact ⟨rfl, rfl⟩
        · go_wp2
          go_round
          case rel => exact ⟨k + 1, by go_num, by omega, Lib.hid (HG.out HP.out)⟩
          case measure => simp [intOf]; omega
      · go_wp2
        go_round
        case rel => exact ⟨k + 1, by go_num, by omega, Lib.hid (HG.out HP.out)⟩
        case measure => simp [intOf]; omega
    · have : k = s.size := by omega
      subst this
      have hr := HAll.out (fun j hj => HF.out j hj hj)
      subst hr
      go_wp2
      go_ret
      exact ⟨rfl, rfl⟩
end LexD
end Go.Proofs.YtmdkocegnbcgmaaGreatDoor
