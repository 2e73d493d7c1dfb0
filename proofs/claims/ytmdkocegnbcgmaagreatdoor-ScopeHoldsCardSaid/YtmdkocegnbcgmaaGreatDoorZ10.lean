/- What a text is as a number: plain functions on lists of bytes. Nothing of the program is named. -/
import Derived.Test.YtmdkocegnbcgmaaGreatDoorZ9
import Derived.Lib.Strings
import Derived.Laws.RangeString
import Derived.Laws.RangeAny
namespace Go.Proofs.YtmdkocegnbcgmaaGreatDoor
open Go.RowKit
namespace NumM

/-- A digit's worth; 16: none. -/
def digV (c : Int) : Int := if 48 ≤ c ∧ c ≤ 57 then c - 48 else if 97 ≤ c ∧ c ≤ 102 then c - 87 else if 65 ≤ c ∧ c ≤ 70 then c - 55 else 16
theorem digV_lo (c : Int) : 0 ≤ digV c := by unfold digV; (repeat' split) <;> omega
theorem digV_hi (c : Int) : digV c ≤ 16 := by unfold digV; (repeat' split) <;> omega
theorem digV_none {c : Int} (h : 103 ≤ c) : digV c = 16 := by unfold digV; (repeat' split) <;> omega
def digB (c : Int) : Bool := decide (digV c ≤ 15)
def digN (c : Int) : Int := if digV c ≤ 15 then digV c else 0
/-- The decimal number that goes on behind n. -/
def decF : List UInt8 → Int → Int × Bool
  | [], n => (n, true)
  | c :: r, n => if 9 < digV c.toNat ∨ (9223372036854775807 - digV c.toNat) / 10 < n then (0, false) else decF r (n * 10 + digV c.toNat)
/-- The hexadecimal number that goes on behind n. -/
def hexF : List UInt8 → Int → Int × Bool
  | [], n => (n, true)
  | c :: r, n => if 15 < digV c.toNat then (0, false) else hexF r (wrap64 (n * 16 + digV c.toNat))
def decV (l : List UInt8) : Int × Bool := if l = [] then (0, false) else decF l 0
def hexV (l : List UInt8) : Int × Bool := if l = [] ∨ 16 < l.length then (0, false) else hexF l 0
def numV (l : List UInt8) : Int × Bool := if Lib.hasPrefix l [48, 120] = true then hexV (l.drop 2) else decV l

theorem dig_way1 {r : Int} (h0 : 48 ≤ r) (h1 : r ≤ 57) : r - 48 = digN r ∧ true = digB r := by
  have : digV r = r - 48 := by unfold digV; rw [if_pos ⟨h0, h1⟩]
  unfold digN digB
  rw [this, if_pos (by omega)]
  exact ⟨rfl, by simp; omega⟩
theorem dig_way2 {r : Int} (h0 : 97 ≤ r) (h1 : r ≤ 102) : r - 97 + 10 = digN r ∧ true = digB r := by
  have : digV r = r - 87 := by unfold digV; rw [if_neg (by omega), if_pos ⟨h0, h1⟩]
  unfold digN digB
  rw [this, if_pos (by omega)]
  exact ⟨by omega, by simp; omega⟩
theorem dig_way3 {r : Int} (h0 : 65 ≤ r) (h1 : r ≤ 70) : r - 65 + 10 = digN r ∧ true = digB r := by
  have : digV r = r - 55 := by unfold digV; rw [if_neg (by omega), if_neg (by omega), if_pos ⟨h0, h1⟩]
  unfold digN digB
  rw [this, if_pos (by omega)]
  exact ⟨by omega, by simp; omega⟩
theorem dig_way4 {r : Int} (h1 : ¬(48 ≤ r ∧ r ≤ 57)) (h2 : ¬(97 ≤ r ∧ r ≤ 102)) (h3 : ¬(65 ≤ r ∧ r ≤ 70)) : 0 = digN r ∧ false = digB r := by
  have : digV r = 16 := by unfold digV; rw [if_neg h1, if_neg h2, if_neg h3]
  unfold digN digB
  rw [this, if_neg (by omega)]
  exact ⟨rfl, by simp⟩

theorem drop_cons {l : List UInt8} {k : Nat} (h : k < l.length) : l.drop k = l[k] :: l.drop (k + 1) := List.drop_eq_getElem_cons h
/-- What a rune of a text counts is what its first byte counts; where it counts, it is one byte. -/
theorem decode_dig (s : ByteArray) (pos : Nat) (h : pos < s.size) (hl : pos < s.data.toList.length) :
    digV ((Utf8.decode s pos).1 : Int) = digV ((s.data.toList[pos]).toNat : Int) ∧ (digV ((Utf8.decode s pos).1 : Int) ≤ 15 → (Utf8.decode s pos).2 = 1) := by
  have e : s.data.toList[pos] = s[pos]'h := rfl
  rw [e]
  by_cases ha : (s[pos]'h).toNat < 128
  · rw [decode_ascii s pos h ha]
    exact ⟨rfl, fun _ => rfl⟩
  · have hd := (decode_high s pos h (by omega)).1
    have h1 : digV ((Utf8.decode s pos).1 : Int) = 16 := digV_none (by omega)
    have h2 : digV ((s[pos]'h).toNat : Int) = 16 := digV_none (by omega)
    rw [h1, h2]
    exact ⟨rfl, fun h => absurd h (by omega)⟩
theorem digN_lo (r : Int) : 0 ≤ digN r := by unfold digN; have := digV_lo r; split <;> omega
theorem digN_hi (r : Int) : digN r ≤ 15 := by unfold digN; split <;> omega
theorem digB_yes {r : Int} (h : digB r = true) : digV r ≤ 15 ∧ digN r = digV r := by
  have h1 : digV r ≤ 15 := by simpa [digB] using h
  exact ⟨h1, by unfold digN; rw [if_pos h1]⟩
theorem digB_no {r : Int} (h : ¬digB r = true) : 15 < digV r := by simpa [digB] using h
theorem ne_nil {l : List UInt8} {k : Nat} (h : k < l.length) : l ≠ [] := by rintro rfl; simp at h

theorem dec_stop {l : List UInt8} {pos : Nat} {n : Int} (h : pos < l.length) (H : decF (l.drop pos) n = decF l 0)
    (hb : 9 < digV (l[pos]).toNat ∨ (9223372036854775807 - digV (l[pos]).toNat) / 10 < n) : decV l = (0, false) := by
  unfold decV
  rw [if_neg (ne_nil h), ← H, drop_cons h, decF, if_pos hb]
theorem dec_go {l : List UInt8} {pos : Nat} {n : Int} (h : pos < l.length) (H : decF (l.drop pos) n = decF l 0)
    (h1 : digV (l[pos]).toNat ≤ 9) (h2 : n ≤ (9223372036854775807 - digV (l[pos]).toNat) / 10) : decF (l.drop (pos + 1)) (n * 10 + digV (l[pos]).toNat) = decF l 0 := by
  rw [← H, drop_cons h, decF, if_neg (by omega)]
theorem dec_end {l : List UInt8} {pos : Nat} {n : Int} (h : ¬pos < l.length) (H : decF (l.drop pos) n = decF l 0) : decV l = (n, !l.isEmpty) := by
  rw [List.drop_eq_nil_of_le (by omega)] at H
  unfold decV
  cases l with
  | nil =>
    have : n = 0 := by simpa [decF] using H
    simp [this]
  | cons c r =>
    rw [if_neg (by simp), ← H]
    rfl
theorem hex_stop {l : List UInt8} {pos : Nat} {n : Int} (h : pos < l.length) (h16 : l.length ≤ 16) (H : hexF (l.drop pos) n = hexF l 0)
    (hb : 15 < digV (l[pos]).toNat) : hexV l = (0, false) := by
  unfold hexV
  rw [if_neg (by have := ne_nil h; simp only [this, false_or]; omega), ← H, drop_cons h, hexF, if_pos hb]
theorem hex_go {l : List UInt8} {pos : Nat} {n : Int} (h : pos < l.length) (H : hexF (l.drop pos) n = hexF l 0)
    (h1 : digV (l[pos]).toNat ≤ 15) : hexF (l.drop (pos + 1)) (wrap64 (n * 16 + digV (l[pos]).toNat)) = hexF l 0 := by
  rw [← H, drop_cons h, hexF, if_neg (by omega)]
theorem hex_end {l : List UInt8} {pos : Nat} {n : Int} (h : ¬pos < l.length) (h16 : l.length ≤ 16) (h0 : l ≠ []) (H : hexF (l.drop pos) n = hexF l 0) : hexV l = (n, true) := by
  rw [List.drop_eq_nil_of_le (by omega)] at H
  unfold hexV
  rw [if_neg (by simp only [h0, false_or]; omega), ← H]
  rfl
end NumM
end Go.Proofs.YtmdkocegnbcgmaaGreatDoor
