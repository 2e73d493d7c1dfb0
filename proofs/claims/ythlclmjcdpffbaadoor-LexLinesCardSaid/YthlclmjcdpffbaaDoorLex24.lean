/- The statement LexLines. -/
import Derived.Test.YthlclmjcdpffbaaDoorLex21
import Derived.Lib.LastIndexByte
namespace Go.Proofs.YthlclmjcdpffbaaDoor
open Go.RowKit ObjM Go.Maps Go.ChangeShapes
namespace LexD

theorem last_ext (s : ByteArray) (c : Int) (m : Nat) (hm : m ≤ s.size) : ∀ k, k ≤ m → Lib.lastIdx (s.extract 0 m) c k = Lib.lastIdx s c k
  | 0, _ => rfl
  | k + 1, hk => by
    have h1 : (s.extract 0 m).data[k]! = s.data[k]! := by
      have hk2 : k < s.data.size := by show k < s.size; omega
      have hk3 : k < (s.extract 0 m).data.size := by show k < (s.extract 0 m).size; simp; omega
      rw [getElem!_pos _ k hk3, getElem!_pos _ k hk2]
      simp [ByteArray.data_extract]
    unfold Lib.lastIdx
    rw [h1, last_ext s c m hm k (by omega)]
theorem last_lo (s : ByteArray) (c : Int) (k : Nat) : -1 ≤ Lib.lastIdx s c k ∧ Lib.lastIdx s c k < (k : Int) := by
  rcases Lib.lastIdx_spec s c k with ⟨e, _⟩ | ⟨i, hi, e, _⟩
  · rw [e]; omega
  · rw [e]; omega
def lineN (s : ByteArray) (m : Nat) : Nat := (s.data.toList.take m).count 10
theorem lineN_next {s : ByteArray} {k : Nat} (hk : k < s.size) : lineN s (k + 1) = lineN s k + if s[k] = 10 then 1 else 0 := by
  unfold lineN
  have hk2 : k < s.data.toList.length := by simpa using hk
  rw [List.take_succ_eq_append_getElem hk2, List.count_append]
  congr 1
  have e : s.data.toList[k] = s[k] := rfl
  rw [e]
  by_cases h : s[k] = 10
  · rw [h]; rfl
  · rw [if_neg h]
    simp [h]
theorem last_next {s : ByteArray} {k : Nat} (hk : k < s.size) : Lib.lastIdx s 10 (k + 1) = if s[k] = 10 then (k : Int) else Lib.lastIdx s 10 k := by
  have hk2 : k < s.data.size := hk
  have e : s.data[k]! = s[k] := by rw [getElem!_pos _ k hk2]; rfl
  by_cases h : s[k] = 10
  · rw [if_pos h]
    exact Lib.lastIdx_hit s 10 k (by rw [e, h]; rfl)
  · rw [if_neg h]
    refine Lib.lastIdx_miss s 10 k (fun h2 => h ?_)
    rw [e] at h2
    apply UInt8.toNat_inj.1
    have : s[k].toNat = 10 := by omega
    rw [this]
    rfl
/-- The place that counts. -/
def placeN (x : Int) (n : Nat) : Nat := min x.toNat n
theorem place_cases (x : Int) (n : Nat) : (x ≤ 0 ∧ placeN x n = 0) ∨ (0 < x ∧ x ≤ (n : Int) ∧ x = (placeN x n : Int)) ∨ (0 < x ∧ (n : Int) < x ∧ placeN x n = n) := by
  unfold placeN
  omega
theorem line_count (s : ByteArray) (m : Nat) : Lib.countByte (s.extract 0 m).data.toList 10 = lineN s m := by
  unfold Lib.countByte lineN
  rw [ext_toList]
  simp
set_option maxRecDepth 100000 in
set_option maxHeartbeats 4000000 in
theorem line_any (s : ByteArray) (x : Int) (hs : s.size ≤ 1000000) (w : World) :
    Calls Tryd.prog 17 #[.string s, .int .i64 x] w fun e w' => e = .returned (.tuple #[.int .i64 ((lineN s (placeN x s.size) : Int) + 1), .int .i64 ((placeN x s.size : Int) - Lib.lastIdx s 10 (placeN x s.size))]) ∧ Below w.heap.size w w' := by
  have hpl : placeN x s.size ≤ s.size := Nat.min_le_right _ _
  have hpc := place_cases x s.size
  have hlo := last_lo s 10 (placeN x s.size)
  have hln : lineN s (placeN x s.size) ≤ s.size := by
    have h1 : (s.data.toList.take (placeN x s.size)).count 10 ≤ (s.data.toList.take (placeN x s.size)).length := List.count_le_length
    have h2 : (s.data.toList.take (placeN x s.size)).length ≤ s.data.toList.length := by simp; omega
    have h3 : s.data.toList.length = s.size := Array.length_toList
    unfold lineN
    omega
  have HC := fun W => Lib.hid (Tryd.strings_Count_one (s.extract 0 (placeN x s.size)) 10 W)
  have HL := fun W => Lib.hid (Tryd.strings_LastIndexByte (s.extract 0 (placeN x s.size)) 10 (by simp; omega) W)
  have hle : Lib.lastIndexByte (s.extract 0 (placeN x s.size)) 10 = Lib.lastIdx s 10 (placeN x s.size) := by
    unfold Lib.lastIndexByte
    have : (s.extract 0 (placeN x s.size)).size = placeN x s.size := by simp; omega
    rw [this, last_ext s 10 _ hpl _ (Nat.le_refl _)]
  rw [line_count] at HC
  rw [hle] at HL
  generalize Lib.lastIdx s 10 (placeN x s.size) = la at *
  generalize lineN s (placeN x s.size) = li at *
  have hxs : (s.extract 0 (placeN x s.size)).size = placeN x s.size := by simp; omega
  have hme : (max 0 (min x (s.size : Int))).toNat = placeN x s.size := by unfold placeN; omega
  generalize hm : placeN x s.size = m at *
  clear hm hle hpc
  have HX := Lib.hid hxs
  have q1 : IntKind.i64.wrap ((li : Int) + 1) = (li : Int) + 1 := by rw [IntKind.wrap_i64]; omega
  have q2 : IntKind.i64.wrap ((m : Int) - la) = (m : Int) - la := by rw [IntKind.wrap_i64]; omega
  go_enter Tryd.func17, Tryd.ntmps17
  go_wp2_with fail
  refine ((HC _).out).mono ?_
  rintro e w1 ⟨rfl, hw⟩
  subst hw
  go_wp2_with fail
  refine ((HL _).out).mono ?_
  rintro e w1 ⟨rfl, hw⟩
  subst hw
  go_wp2
  go_ret2
  exact ⟨rfl, Below.refl _ _⟩
set_option maxRecDepth 100000 in
set_option maxHeartbeats 4000000 in
theorem refLine_any (s : ByteArray) (x : Int) (hs : s.size ≤ 1000000) (w : World) :
    Calls Tryd.prog 18 #[.string s, .int .i64 x] w fun e w' => e = .returned (.tuple #[.int .i64 ((lineN s (placeN x s.size) : Int) + 1), .int .i64 ((placeN x s.size : Int) - Lib.lastIdx s 10 (placeN x s.size))]) ∧ Below w.heap.size w w' := by
  have hpl : placeN x s.size ≤ s.size := Nat.min_le_right _ _
  have hme : min (max x 0) (s.size : Int) = (placeN x s.size : Int) := by unfold placeN; omega
  generalize hm : placeN x s.size = m at *
  clear hm
  have H0 : Hid (lineN s 0 = 0 ∧ Lib.lastIdx s 10 0 = -1) := Lib.hid ⟨rfl, rfl⟩
  go_enter Tryd.func18, Tryd.ntmps18
  go_wp2
  go_loop [6, 7, 8] (fun a b i => ∃ (k li : Nat) (la : Int), a = .int .i64 ((li : Int) + 1) ∧ b = .int .i64 ((k : Int) - la) ∧ i = .int .i64 (k : Int) ∧ k ≤ m ∧ li ≤ k ∧ -1 ≤ la ∧ la < (k : Int) ∧ Hid (lineN s k = li ∧ Lib.lastIdx s 10 k = la)) (fun _ _ i => m - (intOf i).toNat)
  case atStart => exact ⟨0, 0, -1, rfl, rfl, rfl, by omega, by omega, by omega, by omega, H0⟩
  case round =>
    obtain ⟨k, li, la, rfl, rfl, rfl, hk, hli, hla, hlb, HH⟩ := hrel
    by_cases hlt : k < m
    · have hi1 : (k : Int) < (m : Int) := by omega
      have hks : k < s.size := by omega
      have hi2 : (k : Int) < (s.size : Int) := by omega
      have e1 := lineN_next hks
      have e2 := last_next hks
      obtain ⟨n, hn⟩ : ∃ n, s[k].toNat = n := ⟨_, rfl⟩
      have hU : s[k] = UInt8.ofNat n := by rw [← hn]; simp
      have hn256 : n < 256 := by rw [← hn]; exact UInt8.toNat_lt _
      rw [hU] at e1 e2
      by_cases h10 : n = 10
      · subst h10
        have HN : Hid (lineN s (k + 1) = li + 1 ∧ Lib.lastIdx s 10 (k + 1) = (k : Int)) := Lib.hid ⟨by rw [e1, HH.out.1]; rfl, by rw [e2]; rfl⟩
        clear e1 e2 hU
        go_wp2
        go_round
        case rel => exact ⟨k + 1, li + 1, (k : Int), by go_num, by simp; omega, by go_num, by omega, by omega, by omega, by omega, HN⟩
        case measure => simp [intOf]; omega
      · have h10b : ((n : Int) == 10) = false := by simp; omega
        have hne : ¬ UInt8.ofNat n = 10 := ofNat_ne hn256 (k := 10) (by omega) h10
        have HN : Hid (lineN s (k + 1) = li ∧ Lib.lastIdx s 10 (k + 1) = la) := Lib.hid ⟨by rw [e1, HH.out.1]; exact (by rw [if_neg hne]; rfl), by rw [e2]; exact (by rw [if_neg hne]; exact HH.out.2)⟩
        clear e1 e2 hU hne
        go_wp2
        go_round
        case rel => exact ⟨k + 1, li, la, by go_num, by go_num, by go_num, by omega, by omega, by omega, by omega, HN⟩
        case measure => simp [intOf]; omega
    · have hkm : k = m := by omega
      subst hkm
      have HL := HH
      go_wp2
      go_ret2
      refine ⟨?_, Below.refl _ _⟩
      rw [HL.out.1, HL.out.2]
      rfl
set_option maxRecDepth 100000 in
set_option maxHeartbeats 4000000 in
theorem lexLines_u (s : ByteArray) (x : Int) (hs : s.size ≤ 9223372036854775807) (_hx : -9223372036854775808 ≤ x ∧ x ≤ 9223372036854775807) (w : World) (hT : WTab w) :
    Calls Tryd.prog 6 #[.string s, .int .i64 x] w fun e w' => e = .returned (.bool true) ∧ Below w.heap.size w w' := by
  have HA := Lib.hid (awake_any w hT)
  clear hT
  by_cases h5 : 5000 < s.size
  · have h5i : (5000 : Int) < (s.size : Int) := by omega
    go_enter Tryd.func6, Tryd.ntmps6
    go_wp2_with fail
    refine (HA.out).mono ?_
    rintro e w1 ⟨rfl, hb⟩
    go_wp2
    go_ret
    exact ⟨rfl, hb⟩
  · have h5i : ¬ (5000 : Int) < (s.size : Int) := by omega
    have HL := fun W => Lib.hid (line_any s x (by omega) W)
    have HR := fun W => Lib.hid (refLine_any s x (by omega) W)
    generalize (lineN s (placeN x s.size) : Int) + 1 = a at HL HR
    generalize (placeN x s.size : Int) - Lib.lastIdx s 10 (placeN x s.size) = b at HL HR
    go_enter Tryd.func6, Tryd.ntmps6
    go_wp2_with fail
    refine (HA.out).mono ?_
    rintro e w1 ⟨rfl, hb⟩
    have HB := Lib.hid hb
    clear hb
    go_wp2_with fail
    refine ((HL _).out).mono ?_
    rintro e w2 ⟨rfl, hb⟩
    have HB2 := Lib.hid (HB.out.trans (hb.mono HB.out.size))
    clear hb
    go_wp2_with fail
    refine ((HR _).out).mono ?_
    rintro e w3 ⟨rfl, hb⟩
    have HB3 := Lib.hid (HB2.out.trans (hb.mono HB2.out.size))
    clear hb
    go_wp2
    go_ret
    exact ⟨rfl, HB3.out⟩
end LexD
end Go.Proofs.YthlclmjcdpffbaaDoor
