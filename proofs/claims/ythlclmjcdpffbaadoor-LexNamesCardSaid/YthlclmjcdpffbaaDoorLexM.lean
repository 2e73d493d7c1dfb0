/- What a text is as tokens: plain functions on lists of bytes. Nothing of the program is named but one type's mark. -/
import Derived.Test.YthlclmjcdpffbaaDoorLex2
import Derived.Test.YthlclmjcdpffbaaDoorNumReadMath
namespace Go.Proofs.YthlclmjcdpffbaaDoor
open Go.RowKit ObjM Go.Maps
namespace LexD

/-- A blank. -/
def blankB (c : UInt8) : Bool := decide (c = 32) || decide (c = 9) || decide (c = 10) || decide (c = 13)
/-- How many bytes a note has. -/
def noteN (l : List UInt8) : Nat := (l.takeWhile fun c => c != 10).length
/-- How many bytes a blank or a note at the beginning has. -/
def stepB : List UInt8 → Option Nat
  | [] => none
  | c :: r => if blankB c = true then some 1 else if Lib.hasPrefix (c :: r) [45, 45] = true then some (noteN (c :: r)) else none
/-- The byte that is written at the beginning of a string's rest, and how long it is written. -/
def pieceV : List UInt8 → Option (UInt8 × Nat)
  | [] => none
  | c :: r => if c.toNat < 32 ∨ 126 < c.toNat then none else if c ≠ 92 then some (c, 1) else match r with
    | [] => none
    | d :: q => if d = 110 then some (10, 2) else if d = 92 ∨ d = 34 then some (d, 2) else if d = 120 then match q with
      | a :: b :: _ => if NumM.digV a.toNat ≤ 15 ∧ NumM.digV b.toNat ≤ 15 then some (UInt8.ofNat (16 * NumM.digV a.toNat + NumM.digV b.toNat).toNat, 4) else none
      | _ => none
      else none
/-- A string's bytes behind its first quote, and how long it is written, with its last quote; the first k bytes are passed over. -/
def bodyK : Nat → List UInt8 → Option (List UInt8 × Nat)
  | _, [] => none
  | k + 1, _ :: r => (bodyK k r).map fun x => (x.1, x.2 + 1)
  | 0, c :: r => if c = 34 then some ([], 1) else match pieceV (c :: r) with
    | none => none
    | some (b, n) => (bodyK (n - 1) r).map fun x => (b :: x.1, x.2 + 1)
/-- How many bytes a sign at the beginning has. -/
def signN : List UInt8 → Nat
  | [] => 0
  | c :: r => if (c :: r).take 2 ∈ [[61, 61], [126, 61], [60, 61], [62, 61], [47, 47], [46, 46], [45, 62]] then 2
    else if c ∈ [43, 45, 42, 37, 60, 62, 61, 40, 41, 123, 125, 91, 93, 44, 58, 59, 46, 35, 124, 64] then 1 else 0
def bytes (l : List UInt8) : ByteArray := ⟨l.toArray⟩
/-- The token at the beginning and how many bytes it has, or its error. -/
def tokV (p : Nat) : List UInt8 → Except Int (Tok × Nat)
  | [] => .error 50
  | c :: r =>
    if letB c.toNat = true then .ok (⟨if wordB 18 ((c :: r).take (runN (c :: r))) = true then 2 else 1, bytes ((c :: r).take (runN (c :: r))), p, p + runN (c :: r), 0⟩, runN (c :: r))
    else if digB c.toNat = true then match NumM.numV ((c :: r).take (runN (c :: r))) with
      | (n, true) => .ok (⟨3, bytes ((c :: r).take (runN (c :: r))), p, p + runN (c :: r), n⟩, runN (c :: r))
      | (_, false) => .error 51
    else if c = 34 then match bodyK 0 r with
      | some (x, n) => .ok (⟨4, bytes x, p, p + (n + 1 : Nat), 0⟩, n + 1)
      | none => .error 52
    else if signN (c :: r) = 0 then .error 50 else .ok (⟨5, bytes ((c :: r).take (signN (c :: r))), p, p + signN (c :: r), 0⟩, signN (c :: r))
/-- All tokens; or the place of the first that is wrong, and its error. The first k bytes are passed over. -/
def scanK : Nat → Nat → List UInt8 → Except (Nat × Int) (List Tok)
  | _, _, [] => .ok []
  | k + 1, p, _ :: r => scanK k (p + 1) r
  | 0, p, c :: r => match stepB (c :: r) with
    | some k => scanK (k - 1) (p + 1) r
    | none => match tokV p (c :: r) with
      | .error e => .error (p, e)
      | .ok (t, n) => match scanK (n - 1) (p + 1) r with
        | .error e => .error e
        | .ok ts => .ok (t :: ts)
theorem scanK_nil (k p : Nat) : scanK k p [] = .ok [] := by cases k <;> rfl
theorem scanK_drop (k p : Nat) (l : List UInt8) : scanK k p l = scanK 0 (p + k) (l.drop k) := by
  induction k generalizing p l with
  | zero => rfl
  | succ k ih =>
    cases l with
    | nil => simp [scanK_nil]
    | cons c r =>
      show scanK k (p + 1) r = _
      rw [ih, List.drop_succ_cons]
      congr 1
      omega
theorem bodyK_drop (k : Nat) (l : List UInt8) : bodyK k l = (bodyK 0 (l.drop k)).map fun x => (x.1, x.2 + k) := by
  induction k generalizing l with
  | zero => simp
  | succ k ih =>
    cases l with
    | nil => simp [bodyK]
    | cons c r =>
      show (bodyK k r).map _ = _
      rw [ih, List.drop_succ_cons, Option.map_map]
      congr 1
/-- All of a text. -/
def scanV (s : ByteArray) : Except (Nat × Int) (List Tok) := scanK 0 0 s.data.toList
/-- What the tokens behind come to. -/
def andTok (ts : List Tok) : Except (Nat × Int) (List Tok) → Except (Nat × Int) (List Tok)
  | .error e => .error e
  | .ok us => .ok (ts ++ us)
theorem andTok_nil (x : Except (Nat × Int) (List Tok)) : andTok [] x = x := by cases x <;> rfl
theorem andTok_snoc (ts : List Tok) (t : Tok) (x : Except (Nat × Int) (List Tok)) : andTok (ts ++ [t]) x = andTok ts (match x with | .error e => .error e | .ok us => .ok (t :: us)) := by
  cases x <;> simp [andTok]
/-- One step at a place: blanks. -/
theorem scan_blank {l : List UInt8} {p k : Nat} (hk : 1 ≤ k) (h : stepB (l.drop p) = some k) : scanK 0 p (l.drop p) = scanK 0 (p + k) (l.drop (p + k)) := by
  cases e : l.drop p with
  | nil => rw [e] at h; cases h
  | cons c r =>
    rw [e] at h
    rw [scanK]
    simp only [h]
    rw [scanK_drop]
    have h2 : l.drop (p + k) = r.drop (k - 1) := by
      rw [← List.drop_drop, e]
      cases k with
      | zero => omega
      | succ k => simp
    rw [h2]
    congr 1
    omega
/-- One step at a place: a token. -/
theorem scan_tok {l : List UInt8} {p k : Nat} {t : Tok} (hk : 1 ≤ k) (h0 : stepB (l.drop p) = none) (h : tokV p (l.drop p) = .ok (t, k)) :
    scanK 0 p (l.drop p) = (match scanK 0 (p + k) (l.drop (p + k)) with | .error e => .error e | .ok us => .ok (t :: us)) := by
  cases e : l.drop p with
  | nil => rw [e] at h; cases h
  | cons c r =>
    rw [e] at h h0
    have h2 : l.drop (p + k) = r.drop (k - 1) := by
      rw [← List.drop_drop, e]
      cases k with
      | zero => omega
      | succ k => simp
    have h3 := scanK_drop (k - 1) (p + 1) r
    rw [show p + 1 + (k - 1) = p + k by omega, ← h2] at h3
    rw [← h3, scanK]
    simp only [h0, h]
theorem scan_err {l : List UInt8} {p : Nat} {e : Int} (h0 : stepB (l.drop p) = none) (h : tokV p (l.drop p) = .error e) (hp : p < l.length) : scanK 0 p (l.drop p) = .error (p, e) := by
  cases e1 : l.drop p with
  | nil =>
    have := congrArg List.length e1
    simp at this
    omega
  | cons c r =>
    rw [e1] at h h0
    rw [scanK]
    simp only [h0, h]
theorem scan_end {l : List UInt8} {p : Nat} (hp : l.length ≤ p) : scanK 0 p (l.drop p) = .ok [] := by
  rw [List.drop_eq_nil_of_le hp, scanK_nil]
theorem runN_pos {c : UInt8} {r : List UInt8} (h : letB c.toNat = true ∨ digB c.toNat = true) : 1 ≤ runN (c :: r) := by
  have : parB (c.toNat : Int) = true := by unfold parB; rcases h with h | h <;> simp [h]
  unfold runN
  rw [List.takeWhile_cons, this]
  simp
theorem bodyK_pos {l : List UInt8} {x : List UInt8} {n : Nat} (h : bodyK 0 l = some (x, n)) : 1 ≤ n := by
  cases l with
  | nil => cases h
  | cons c r =>
    rw [bodyK] at h
    split at h
    · injection h with h; injection h with _ h; omega
    · split at h
      · cases h
      · cases h1 : bodyK (_ - 1) r with
        | none => rw [h1] at h; cases h
        | some y => rw [h1] at h; injection h with h; injection h with _ h; omega
theorem tokV_pos {p k : Nat} {l : List UInt8} {t : Tok} (h : tokV p l = .ok (t, k)) : 1 ≤ k := by
  cases l with
  | nil => cases h
  | cons c r =>
    rw [tokV] at h
    split at h
    · rename_i hl
      injection h with h; injection h with _ h
      rw [← h]; exact runN_pos (.inl hl)
    · split at h
      · rename_i hd
        split at h
        · injection h with h; injection h with _ h
          rw [← h]; exact runN_pos (.inr hd)
        · cases h
      · split at h
        · split at h
          · injection h with h; injection h with _ h; omega
          · cases h
        · split at h
          · cases h
          · injection h with h; injection h with _ h; omega
theorem noteN_pos {r : List UInt8} : 1 ≤ noteN (45 :: r) := by
  unfold noteN
  rw [List.takeWhile_cons]
  simp
theorem stepB_pos {l : List UInt8} {k : Nat} (h : stepB l = some k) : 1 ≤ k := by
  cases l with
  | nil => cases h
  | cons c r =>
    rw [stepB] at h
    split at h
    · injection h; omega
    · split at h
      · rename_i hp
        have hc : c = 45 := by
          cases r with
          | nil => simp [Lib.hasPrefix] at hp
          | cons d q => simp [Lib.hasPrefix] at hp; exact hp.1.symm
        subst hc
        injection h with h
        rw [← h]; exact noteN_pos
      · cases h
example : (match scanV ⟨#[120, 46, 46, 49]⟩ with | .ok ts => ts.map (fun t => (t.kind, t.lo, t.hi, t.n)) | .error _ => []) = [(1, 0, 1, 0), (5, 1, 3, 0), (3, 3, 4, 1)] := by decide +kernel
example : (match scanV ⟨#[97, 32, 33, 32, 98]⟩ with | .ok _ => (0, 0) | .error e => e) = (2, 50) := by decide +kernel
end LexD
end Go.Proofs.YthlclmjcdpffbaaDoor
