/- A word as a sum of its fields; the two ways of writing and reading words come to the same. Nothing of the program is named. -/
import Derived.Test.YtmebhdffgpnplaaDoorInstrMath
namespace Go.Proofs.YtmebhdffgpnplaaDoor
open Go.RowKit
namespace InstrM

theorem or_add (word m sh : Nat) (hs : sh ≤ 24) (hw : word < 2 ^ sh) (hm : m < 2 ^ (32 - sh)) : bits .or .u32 (word : Int) ((m * 2 ^ sh : Nat) : Int) = ((word + m * 2 ^ sh : Nat) : Int) := by
  have hp : 2 ^ 32 = 2 ^ (32 - sh) * 2 ^ sh := by rw [← Nat.pow_add]; congr 1; omega
  have h1 : m * 2 ^ sh + 2 ^ sh ≤ 2 ^ 32 := by
    rw [hp, ← Nat.succ_mul]
    exact Nat.mul_le_mul_right _ hm
  have e1 : (BitVec.ofInt 32 (word : Int)).toNat = word := by
    rw [BitVec.ofInt_natCast, BitVec.toNat_ofNat]
    exact Nat.mod_eq_of_lt (by omega)
  have e2 : (BitVec.ofInt 32 ((m * 2 ^ sh : Nat) : Int)).toNat = m * 2 ^ sh := by
    rw [BitVec.ofInt_natCast, BitVec.toNat_ofNat]
    exact Nat.mod_eq_of_lt (by omega)
  show IntKind.u32.wrap ((BitVec.ofInt 32 (word : Int) ||| BitVec.ofInt 32 ((m * 2 ^ sh : Nat) : Int)).toNat : Int) = _
  rw [BitVec.toNat_or, e1, e2, IntKind.wrap_u32, Nat.or_comm, Nat.mul_comm m, ← Nat.two_pow_add_eq_or_of_lt hw, Nat.mul_comm (2 ^ sh)]
  omega
theorem orW8 {word n : Int} (h0 : 0 ≤ word) (h1 : word < 256) (n0 : 0 ≤ n) (n1 : n ≤ 255) : orW word n 8 = word + n * 256 := by
  unfold orW
  have h := or_add word.toNat n.toNat 8 (by decide) (by omega) (by omega)
  rw [show (word.toNat : Int) = word by omega] at h
  rw [show n % 4294967296 * 2 ^ (8 : Int).toNat % 4294967296 = ((n.toNat * 2 ^ 8 : Nat) : Int) by simp only [show (8 : Int).toNat = 8 from rfl]; omega, h]
  omega
theorem orW16 {word n : Int} (h0 : 0 ≤ word) (h1 : word < 65536) : orW word n 16 = word + n % 65536 * 65536 := by
  unfold orW
  have h := or_add word.toNat (n % 65536).toNat 16 (by decide) (by omega) (by omega)
  rw [show (word.toNat : Int) = word by omega] at h
  rw [show n % 4294967296 * 2 ^ (16 : Int).toNat % 4294967296 = (((n % 65536).toNat * 2 ^ 16 : Nat) : Int) by simp only [show (16 : Int).toNat = 16 from rfl]; omega, h]
  omega
theorem orW24 {word n : Int} (h0 : 0 ≤ word) (h1 : word < 16777216) (n0 : 0 ≤ n) (n1 : n ≤ 255) : orW word n 24 = word + n * 16777216 := by
  unfold orW
  have h := or_add word.toNat n.toNat 24 (by decide) (by omega) (by omega)
  rw [show (word.toNat : Int) = word by omega] at h
  rw [show n % 4294967296 * 2 ^ (24 : Int).toNat % 4294967296 = ((n.toNat * 2 ^ 24 : Nat) : Int) by simp only [show (24 : Int).toNat = 24 from rfl]; omega, h]
  omega

/-- The forms that there are. -/
theorem formL_cases (k : Nat) : formL k = [] ∨ ((formL k = [65] ∨ formL k = [65, 66] ∨ formL k = [65, 66, 67] ∨ formL k = [65, 68] ∨ formL k = [68]) ∧ k < 63) := by
  by_cases h : k < 63
  · exact (show ∀ k < 63, formL k = [] ∨ ((formL k = [65] ∨ formL k = [65, 66] ∨ formL k = [65, 66, 67] ∨ formL k = [65, 68] ∨ formL k = [68]) ∧ k < 63) by decide +kernel) k h
  · exact .inl (formL_big (by omega))
theorem form_cases (op : Int) : formOf op = [] ∨ ((formOf op = [65] ∨ formOf op = [65, 66] ∨ formOf op = [65, 66, 67] ∨ formOf op = [65, 68] ∨ formOf op = [68]) ∧ 0 ≤ op ∧ op < 63) := by
  unfold formOf
  split
  · rcases formL_cases op.toNat with h | ⟨h, hk⟩
    · exact .inl h
    · exact .inr ⟨h, by omega, by omega⟩
  · exact .inl rfl

/-- Whether an instruction has a word, told field by field. -/
def validB (F : List UInt8) (a b c d : Int) : Bool :=
  decide (F ≠ []) && (decide (0 ≤ a ∧ a ≤ 255) && decide (a = 0 ∨ 65 ∈ F)) && (decide (0 ≤ b ∧ b ≤ 255) && decide (b = 0 ∨ 66 ∈ F)) && (decide (0 ≤ c ∧ c ≤ 255) && decide (c = 0 ∨ 67 ∈ F)) && (decide (-32768 ≤ d ∧ d ≤ 32767) && decide (d = 0 ∨ 68 ∈ F))
def sumW (op a b c d : Int) : Int := op + a * 256 + b * 65536 + c * 16777216 + d % 65536 * 65536
def wordV (op a b c d : Int) : Int × Int := if validB (formOf op) a b c d = true then (sumW op a b c d, 0) else (0, 1)

theorem encV_eq (op a b c d : Int) : encV op a b c d = wordV op a b c d := by
  unfold encV wordV sumW
  rcases form_cases op with h | ⟨h, o0, o1⟩
  · rw [h]
    simp [validB]
  · have e : op % 4294967296 = op := by omega
    rw [e]
    rcases h with h | h | h | h | h <;> rw [h]
    all_goals
      rw [if_neg (by simp)]
      simp only [encF, show ((65 : UInt8).toNat : Int) = 65 from rfl, show ((66 : UInt8).toNat : Int) = 66 from rfl, show ((67 : UInt8).toNat : Int) = 67 from rfl, show ((68 : UInt8).toNat : Int) = 68 from rfl, fld, fitsB, shiftV]
      simp [validB]
      (repeat' split)
      all_goals first
        | rfl
        | (exfalso; omega)
        | (congr 1; rw [orW8 o0 (by omega) (by omega) (by omega)]; omega)
        | (congr 1; rw [orW8 o0 (by omega) (by omega) (by omega), orW16 (by omega) (by omega)]; omega)
        | (congr 1; rw [orW8 o0 (by omega) (by omega) (by omega), orW16 (by omega) (by omega), orW24 (by omega) (by omega) (by omega) (by omega)]; omega)
        | (congr 1; rw [orW16 o0 (by omega)]; omega)
def keysL : List Int := [11, 12, 13, 14, 15, 16, 17, 18, 19, 21, 22, 23, 24, 25, 26, 27, 30, 31, 32, 34, 35, 36, 37, 40, 41, 42, 43, 44, 45, 46, 47, 49, 50, 51, 52, 53, 54, 55, 56, 57, 58, 59, 60, 61, 62]
def namesL : List (List UInt8) := [[97, 100, 100], [115, 117, 98], [109, 117, 108], [100, 105, 118], [109, 111, 100], [108, 116], [108, 101], [101, 113], [99, 97, 116], [97, 100, 100, 105], [115, 117, 98, 105], [109, 117, 108, 105], [100, 105, 118, 105], [109, 111, 100, 105], [108, 116, 105], [108, 101, 105], [110, 101, 103], [110, 111, 116], [108, 101, 110], [106, 117, 109, 112], [98, 114, 102], [98, 114, 116], [106, 111, 105, 110], [99, 108, 111, 115, 117, 114, 101], [99, 97, 108, 108], [114, 101, 116, 117, 114, 110], [116, 97, 98, 108, 101], [115, 116, 97, 109, 112], [103, 101, 116, 102], [103, 101, 116, 115], [115, 101, 116, 102], [103, 101, 116, 105], [115, 101, 116, 105], [114, 101, 97, 100], [119, 114, 105, 116, 101], [116, 121, 112, 101], [107, 101, 121], [112, 99, 97, 108, 108], [101, 114, 114, 111, 114], [99, 114, 101, 97, 116, 101], [114, 101, 115, 117, 109, 101], [121, 105, 101, 108, 100], [115, 116, 97, 116, 117, 115], [99, 97, 115, 116], [98, 111, 117, 110, 100]]
def formsL : List (List UInt8) := [[65, 66, 67], [65, 66, 67], [65, 66, 67], [65, 66, 67], [65, 66, 67], [65, 66, 67], [65, 66, 67], [65, 66, 67], [65, 66, 67], [65, 66, 67], [65, 66, 67], [65, 66, 67], [65, 66, 67], [65, 66, 67], [65, 66, 67], [65, 66, 67], [65, 66], [65, 66], [65, 66], [68], [65, 68], [65, 68], [68], [65, 68], [65, 66, 67], [65], [65], [65, 68], [65, 66, 67], [65, 66, 67], [65, 66, 67], [65, 66, 67], [65, 66, 67], [65, 68], [65, 68], [65, 66], [65, 66, 67], [65], [65], [65], [65, 66], [65], [65, 66], [65, 68], [65, 68]]
theorem keys_at : ∀ k < 45, nameOf (keysL.getD k 0) = namesL.getD k [] ∧ formOf (keysL.getD k 0) = formsL.getD k [] := by decide +kernel
theorem keys_none {op : Int} (h : 11 ≤ op) (hn : ∀ k < 45, keysL.getD k 0 ≠ op) : nameOf op = [] ∧ formOf op = [] := by
  by_cases h63 : op < 63
  · obtain ⟨n, rfl⟩ := Int.eq_ofNat_of_zero_le (show 0 ≤ op by omega)
    have hd := (show ∀ n : Nat, n < 63 → 11 ≤ n → (n : Int) ∈ keysL ∨ (nameOf (n : Int) = [] ∧ formOf (n : Int) = []) by decide +kernel) n (by omega) (by omega)
    rcases hd with hm | hd
    · obtain ⟨k, hk, e⟩ := List.mem_iff_getElem.1 hm
      exact absurd (by rw [List.getD_eq_getElem?_getD, List.getElem?_eq_getElem hk]; exact e) (hn k hk)
    · exact hd
  · unfold nameOf formOf
    rw [if_pos (by omega), if_pos (by omega)]
    exact ⟨nameL_big (by omega), formL_big (by omega)⟩
theorem first_none {op : Int} (h : op < 11) (hn : ∀ k : Nat, k < 10 → 1 ≤ k → (k : Int) ≠ op) : nameOf op = [] ∧ formOf op = [] := by
  by_cases h0 : 0 ≤ op
  · obtain ⟨n, rfl⟩ := Int.eq_ofNat_of_zero_le h0
    have hd := (show ∀ n : Nat, n < 11 → (n < 10 ∧ 1 ≤ n) ∨ (nameOf ((n : Nat) : Int) = [] ∧ formOf ((n : Nat) : Int) = []) by decide +kernel) n (by omega)
    rcases hd with hd | hd
    · exact absurd rfl (hn n hd.1 hd.2)
    · exact hd
  · unfold nameOf formOf
    rw [if_neg h0, if_neg h0]
    exact ⟨rfl, rfl⟩
end InstrM
end Go.Proofs.YtmebhdffgpnplaaDoor
