/- The scanner: what it is; a new one. -/
import Derived.Test.YtmdkocegnbcgmaaGreatDoorZ7
import Derived.DeepKeys5
import Derived.Maps.OwnSet
import Derived.Maps.AppendAt
import Derived.Carry
import Derived.RegionTactic
import Derived.BigQuiet
import Derived.Outline
import Derived.Deep.RegionHeld3
import Derived.StillTailTactics
import Derived.Test.YtmdkocegnbcgmaaGreatDoorZ10
namespace Go.Proofs.YtmdkocegnbcgmaaGreatDoor
open Go.RowKit ObjM Go.Maps
namespace LexD

theorem keyedStr : Keyed Tryz.prog 9 := string_keyed Tryz.underlying9
def WL : List ByteArray := [⟨#[97, 110, 100]⟩, ⟨#[98, 114, 101, 97, 107]⟩, ⟨#[99, 104, 97, 110, 110, 101, 108]⟩, ⟨#[100, 111]⟩, ⟨#[101, 108, 115, 101]⟩, ⟨#[101, 108, 115, 101, 105, 102]⟩, ⟨#[101, 110, 100]⟩, ⟨#[102, 97, 108, 115, 101]⟩, ⟨#[102, 117, 110, 99, 116, 105, 111, 110]⟩, ⟨#[105, 102]⟩, ⟨#[108, 111, 99, 97, 108]⟩, ⟨#[110, 105, 108]⟩, ⟨#[110, 111, 116]⟩, ⟨#[111, 114]⟩, ⟨#[114, 101, 116, 117, 114, 110]⟩, ⟨#[116, 104, 101, 110]⟩, ⟨#[116, 114, 117, 101]⟩, ⟨#[119, 104, 105, 108, 101]⟩]
/-- The words as the program's text lays them. -/
def WTab (w : World) : Prop := 1 < w.heap.size ∧ ∀ (i : Nat) (s : ByteArray), WL[i]? = some s → w.cell? ⟨1, i, none⟩ = some (.string s)
theorem WTab.below {w w' : World} (h : WTab w) (hb : Below w.heap.size w w') : WTab w' := ⟨Nat.lt_of_lt_of_le h.1 hb.size, fun i s hs => (hb.cell (p := ⟨_, i, none⟩) h.1).trans (h.2 i s hs)⟩
def key8 (s : ByteArray) : List UInt8 := s.data.toList
def wordB (n : Nat) (k : List UInt8) : Bool := (WL.take n).any fun x => key8 x == k
theorem key_str (s : ByteArray) (hs : s.size ≤ 140737488355328) : keyOf Tryz.prog 9 (.string s) = some (.string (key8 s)) := Go.WideMaps.keyOf_string_mk Tryz.underlying9 (by unfold maxLen; omega)
/-- Block m is a map of the first n words. -/
def WordsOk (w : World) (m n : Nat) : Prop := ∃ (D : DataW Unit), w.ownsMap Tryz.prog 9 (plainElem Tryz.prog 3) m n D ∧ ∀ k : List UInt8, Maps.has D (.string k) = wordB n k
theorem WordsOk.block {w w' : World} {m n : Nat} (h : WordsOk w m n) (hk : w'.heap[m]? = w.heap[m]?) : WordsOk w' m n := by
  obtain ⟨D, ⟨es, cl, hb, h3⟩, hq⟩ := h
  exact ⟨D, ⟨es, cl, hk.trans hb, h3⟩, hq⟩
theorem WordsOk.lt {w : World} {m n : Nat} (h : WordsOk w m n) : m < w.heap.size := by
  obtain ⟨D, hD, _⟩ := h
  exact hD.lt
theorem WordsOk.ne {w : World} {m n G : Nat} {t : TypeId} {cs : List Value} (h : WordsOk w m n) (hG : Has w G t cs) : m ≠ G := by
  obtain ⟨D, ⟨es, cl, hb, _⟩, _⟩ := h
  rintro rfl
  rw [show w.heap[m]? = _ from hG] at hb
  cases hb
theorem wf_i64 {n : Int} (h : -9223372036854775808 ≤ n ∧ n ≤ 9223372036854775807) : (Lit.int .i64 n).wf = true := by
  simp [Lit.wf]
  exact ⟨h.1, h.2⟩
theorem zeroInt (w : World) : (zeroValue 3).run Tryz.prog w = .ok (.int .i64 0) w := by kernel_rfl
theorem put_word {w : World} {m n : Nat} (h : WordsOk w m n) (hn : n < 18) (s : ByteArray) (hs : WL[n]? = some s) :
    ∃ w', (Instr.mapUpdate 102 (.map (some m)) (.string s) (.int .i64 (n : Int))).run Tryz.prog w = .ok () w' ∧ WordsOk w' m (n + 1) ∧ w.mapTurned w' m := by
  have hsz : s.size ≤ 140737488355328 := by
    have : ∀ x ∈ WL, x.size ≤ 140737488355328 := by decide
    exact this s (List.mem_of_getElem? hs)
  have hkl := key_str s hsz
  obtain ⟨D, hD, hq⟩ := h
  obtain ⟨w', hrun, hD', hm⟩ := hD.store keyedStr Tryz.underlying102 (by unfold maxLen; omega) hkl (plainElem_int Tryz.underlying3 (wf_i64 (n := (n : Int)) ⟨by omega, by omega⟩))
  refine ⟨w', hrun, ⟨_, hD', fun k => ?_⟩, hm⟩
  have hmap := hD.isMap
  have hkk := keyedStr.key hkl
  have ht : WL.take (n + 1) = WL.take n ++ [s] := by rw [List.take_add_one, hs]; rfl
  unfold wordB
  rw [ht, List.any_append]
  by_cases e : k = key8 s
  · subst e
    rw [Maps.has_put_same hmap hkk _]
    simp
  · have hne : Lit.string k ≠ Lit.string (key8 s) := fun h => e (by injection h)
    rw [Maps.has_put_other hne, hq k]
    unfold wordB
    have : (key8 s == k) = false := by simpa using fun h => e h.symm
    simp [this]
theorem look_word {w : World} {m : Nat} (h : WordsOk w m 18) (s : ByteArray) (hs : s.size ≤ 140737488355328) :
    ∃ c : Int, (Instr.lookup 102 (.map (some m)) (.string s) true).run Tryz.prog w = .ok (.tuple #[.int .i64 c, .bool (wordB 18 (key8 s))]) w := by
  have hkl := key_str s hs
  obtain ⟨D, hD, hq⟩ := h
  obtain ⟨u, ps, hrun, hu⟩ := hD.look_ok keyedStr Tryz.underlying102 (zeroInt w) (plainElem_int Tryz.underlying3 (by decide)) hkl
  obtain ⟨a, rfl, hz, _⟩ := plainElem_int_inv Tryz.underlying3 hu
  exact ⟨a, by rw [hrun, hq]⟩
/-- A token. -/
structure Tok where
  kind : Int
  text : ByteArray
  lo : Int
  hi : Int
  n : Int
def Tok.cells (t : Tok) : List Value := [.int .i64 t.kind, .string t.text, .int .i64 t.lo, .int .i64 t.hi, .int .i64 t.n]
def rowT (ts : List Tok) : List Value := ts.flatMap Tok.cells
theorem rowT_len (ts : List Tok) : (rowT ts).length = ts.length * 5 := by
  induction ts with
  | nil => rfl
  | cons a r ih => simp [rowT, Tok.cells] at ih ⊢; omega
theorem rowT_snoc (ts : List Tok) (t : Tok) : rowT (ts ++ [t]) = rowT ts ++ t.cells := by simp [rowT]
theorem sizeStr (w : World) : (sizeOf 9).run Tryz.prog w = .ok 1 w := by kernel_rfl
/-- The words as a value. -/
def WVal : Value := .agg #[.string ⟨#[97, 110, 100]⟩, .string ⟨#[98, 114, 101, 97, 107]⟩, .string ⟨#[99, 104, 97, 110, 110, 101, 108]⟩, .string ⟨#[100, 111]⟩, .string ⟨#[101, 108, 115, 101]⟩, .string ⟨#[101, 108, 115, 101, 105, 102]⟩, .string ⟨#[101, 110, 100]⟩, .string ⟨#[102, 97, 108, 115, 101]⟩, .string ⟨#[102, 117, 110, 99, 116, 105, 111, 110]⟩, .string ⟨#[105, 102]⟩, .string ⟨#[108, 111, 99, 97, 108]⟩, .string ⟨#[110, 105, 108]⟩, .string ⟨#[110, 111, 116]⟩, .string ⟨#[111, 114]⟩, .string ⟨#[114, 101, 116, 117, 114, 110]⟩, .string ⟨#[116, 104, 101, 110]⟩, .string ⟨#[116, 114, 117, 101]⟩, .string ⟨#[119, 104, 105, 108, 101]⟩]
theorem index_word0 (w : World) : (Instr.index 123 WVal (.int .i64 0)).run Tryz.prog w = .ok (.string ⟨#[97, 110, 100]⟩) w := by kernel_rfl
theorem index_word1 (w : World) : (Instr.index 123 WVal (.int .i64 1)).run Tryz.prog w = .ok (.string ⟨#[98, 114, 101, 97, 107]⟩) w := by kernel_rfl
theorem index_word2 (w : World) : (Instr.index 123 WVal (.int .i64 2)).run Tryz.prog w = .ok (.string ⟨#[99, 104, 97, 110, 110, 101, 108]⟩) w := by kernel_rfl
theorem index_word3 (w : World) : (Instr.index 123 WVal (.int .i64 3)).run Tryz.prog w = .ok (.string ⟨#[100, 111]⟩) w := by kernel_rfl
theorem index_word4 (w : World) : (Instr.index 123 WVal (.int .i64 4)).run Tryz.prog w = .ok (.string ⟨#[101, 108, 115, 101]⟩) w := by kernel_rfl
theorem index_word5 (w : World) : (Instr.index 123 WVal (.int .i64 5)).run Tryz.prog w = .ok (.string ⟨#[101, 108, 115, 101, 105, 102]⟩) w := by kernel_rfl
theorem index_word6 (w : World) : (Instr.index 123 WVal (.int .i64 6)).run Tryz.prog w = .ok (.string ⟨#[101, 110, 100]⟩) w := by kernel_rfl
theorem index_word7 (w : World) : (Instr.index 123 WVal (.int .i64 7)).run Tryz.prog w = .ok (.string ⟨#[102, 97, 108, 115, 101]⟩) w := by kernel_rfl
theorem index_word8 (w : World) : (Instr.index 123 WVal (.int .i64 8)).run Tryz.prog w = .ok (.string ⟨#[102, 117, 110, 99, 116, 105, 111, 110]⟩) w := by kernel_rfl
theorem index_word9 (w : World) : (Instr.index 123 WVal (.int .i64 9)).run Tryz.prog w = .ok (.string ⟨#[105, 102]⟩) w := by kernel_rfl
theorem index_word10 (w : World) : (Instr.index 123 WVal (.int .i64 10)).run Tryz.prog w = .ok (.string ⟨#[108, 111, 99, 97, 108]⟩) w := by kernel_rfl
theorem index_word11 (w : World) : (Instr.index 123 WVal (.int .i64 11)).run Tryz.prog w = .ok (.string ⟨#[110, 105, 108]⟩) w := by kernel_rfl
theorem index_word12 (w : World) : (Instr.index 123 WVal (.int .i64 12)).run Tryz.prog w = .ok (.string ⟨#[110, 111, 116]⟩) w := by kernel_rfl
theorem index_word13 (w : World) : (Instr.index 123 WVal (.int .i64 13)).run Tryz.prog w = .ok (.string ⟨#[111, 114]⟩) w := by kernel_rfl
theorem index_word14 (w : World) : (Instr.index 123 WVal (.int .i64 14)).run Tryz.prog w = .ok (.string ⟨#[114, 101, 116, 117, 114, 110]⟩) w := by kernel_rfl
theorem index_word15 (w : World) : (Instr.index 123 WVal (.int .i64 15)).run Tryz.prog w = .ok (.string ⟨#[116, 104, 101, 110]⟩) w := by kernel_rfl
theorem index_word16 (w : World) : (Instr.index 123 WVal (.int .i64 16)).run Tryz.prog w = .ok (.string ⟨#[116, 114, 117, 101]⟩) w := by kernel_rfl
theorem index_word17 (w : World) : (Instr.index 123 WVal (.int .i64 17)).run Tryz.prog w = .ok (.string ⟨#[119, 104, 105, 108, 101]⟩) w := by kernel_rfl
theorem index_word (k : Nat) (hk : k < 18) (w : World) : (Instr.index 123 WVal (.int .i64 (k : Int))).run Tryz.prog w = .ok (.string (WL.getD k ⟨#[]⟩)) w := by
  have hcase : k = 0 ∨ k = 1 ∨ k = 2 ∨ k = 3 ∨ k = 4 ∨ k = 5 ∨ k = 6 ∨ k = 7 ∨ k = 8 ∨ k = 9 ∨ k = 10 ∨ k = 11 ∨ k = 12 ∨ k = 13 ∨ k = 14 ∨ k = 15 ∨ k = 16 ∨ k = 17 := by omega
  rcases hcase with rfl | rfl | rfl | rfl | rfl | rfl | rfl | rfl | rfl | rfl | rfl | rfl | rfl | rfl | rfl | rfl | rfl | rfl
  · exact index_word0 w
  · exact index_word1 w
  · exact index_word2 w
  · exact index_word3 w
  · exact index_word4 w
  · exact index_word5 w
  · exact index_word6 w
  · exact index_word7 w
  · exact index_word8 w
  · exact index_word9 w
  · exact index_word10 w
  · exact index_word11 w
  · exact index_word12 w
  · exact index_word13 w
  · exact index_word14 w
  · exact index_word15 w
  · exact index_word16 w
  · exact index_word17 w
end LexD
end Go.Proofs.YtmdkocegnbcgmaaGreatDoor
namespace Go.Proofs.YtmdkocegnbcgmaaGreatDoor
open Go.RowKit ObjM Go.Maps
namespace LexD

/-- A blank. -/
def blankB (c : UInt8) : Bool := decide (c = 32) || decide (c = 9) || decide (c = 10) || decide (c = 13)
/-- How many bytes a note has. -/
def noteN (l : List UInt8) : Nat := (l.takeWhile fun c => c != 10).length
/-- How many bytes a blank or a note at the beginning has. -/
def stepB : List UInt8 → Option Nat
  | [] => none
  | c :: r => if blankB c = true then some 1 else if Lib.hasPrefix (c :: r) [45, 45] = true then some (noteN (c :: r)) else none
/-- The byte that is written at the beginning of a string's rest, and how long it is written. -/
def pieceV : List UInt8 → Option (UInt8 × Nat)
  | [] => none
  | c :: r => if c.toNat < 32 ∨ 126 < c.toNat then none else if c ≠ 92 then some (c, 1) else match r with
    | [] => none
    | d :: q => if d = 110 then some (10, 2) else if d = 92 ∨ d = 34 then some (d, 2) else if d = 120 then match q with
      | a :: b :: _ => if NumM.digV a.toNat ≤ 15 ∧ NumM.digV b.toNat ≤ 15 then some (UInt8.ofNat (16 * NumM.digV a.toNat + NumM.digV b.toNat).toNat, 4) else none
      | _ => none
      else none
/-- A string's bytes behind its first quote, and how long it is written, with its last quote; the first k bytes are passed over. -/
def bodyK : Nat → List UInt8 → Option (List UInt8 × Nat)
  | _, [] => none
  | k + 1, _ :: r => (bodyK k r).map fun x => (x.1, x.2 + 1)
  | 0, c :: r => if c = 34 then some ([], 1) else match pieceV (c :: r) with
    | none => none
    | some (b, n) => (bodyK (n - 1) r).map fun x => (b :: x.1, x.2 + 1)
/-- How many bytes a sign at the beginning has. -/
def signN : List UInt8 → Nat
  | [] => 0
  | c :: r => if (c :: r).take 2 ∈ [[61, 61], [126, 61], [60, 61], [62, 61], [47, 47], [46, 46], [45, 62]] then 2
    else if c ∈ [43, 45, 42, 37, 60, 62, 61, 40, 41, 123, 125, 91, 93, 44, 58, 59, 46, 35, 124, 64] then 1 else 0
def bytes (l : List UInt8) : ByteArray := ⟨l.toArray⟩
/-- The token at the beginning and how many bytes it has, or its error. -/
def tokV (p : Nat) : List UInt8 → Except Int (Tok × Nat)
  | [] => .error 50
  | c :: r =>
    if letB c.toNat = true then .ok (⟨if wordB 18 ((c :: r).take (runN (c :: r))) = true then 2 else 1, bytes ((c :: r).take (runN (c :: r))), p, p + runN (c :: r), 0⟩, runN (c :: r))
    else if digB c.toNat = true then match NumM.numV ((c :: r).take (runN (c :: r))) with
      | (n, true) => .ok (⟨3, bytes ((c :: r).take (runN (c :: r))), p, p + runN (c :: r), n⟩, runN (c :: r))
      | (_, false) => .error 51
    else if c = 34 then match bodyK 0 r with
      | some (x, n) => .ok (⟨4, bytes x, p, p + (n + 1 : Nat), 0⟩, n + 1)
      | none => .error 52
    else if signN (c :: r) = 0 then .error 50 else .ok (⟨5, bytes ((c :: r).take (signN (c :: r))), p, p + signN (c :: r), 0⟩, signN (c :: r))
/-- All tokens; or the place of the first that is wrong, and its error. The first k bytes are passed over. -/
def scanK : Nat → Nat → List UInt8 → Except (Nat × Int) (List Tok)
  | _, _, [] => .ok []
  | k + 1, p, _ :: r => scanK k (p + 1) r
  | 0, p, c :: r => match stepB (c :: r) with
    | some k => scanK (k - 1) (p + 1) r
    | none => match tokV p (c :: r) with
      | .error e => .error (p, e)
      | .ok (t, n) => match scanK (n - 1) (p + 1) r with
        | .error e => .error e
        | .ok ts => .ok (t :: ts)
theorem scanK_nil (k p : Nat) : scanK k p [] = .ok [] := by cases k <;> rfl
theorem scanK_drop (k p : Nat) (l : List UInt8) : scanK k p l = scanK 0 (p + k) (l.drop k) := by
  induction k generalizing p l with
  | zero => rfl
  | succ k ih =>
    cases l with
    | nil => simp [scanK_nil]
    | cons c r =>
      show scanK k (p + 1) r = _
      rw [ih, List.drop_succ_cons]
      congr 1
      omega
theorem bodyK_drop (k : Nat) (l : List UInt8) : bodyK k l = (bodyK 0 (l.drop k)).map fun x => (x.1, x.2 + k) := by
  induction k generalizing l with
  | zero => simp
  | succ k ih =>
    cases l with
    | nil => simp [bodyK]
    | cons c r =>
      show (bodyK k r).map _ = _
      rw [ih, List.drop_succ_cons, Option.map_map]
      congr 1
/-- All of a text. -/
def scanV (s : ByteArray) : Except (Nat × Int) (List Tok) := scanK 0 0 s.data.toList
/-- What the tokens behind come to. -/
def andTok (ts : List Tok) : Except (Nat × Int) (List Tok) → Except (Nat × Int) (List Tok)
  | .error e => .error e
  | .ok us => .ok (ts ++ us)
theorem andTok_nil (x : Except (Nat × Int) (List Tok)) : andTok [] x = x := by cases x <;> rfl
theorem andTok_snoc (ts : List Tok) (t : Tok) (x : Except (Nat × Int) (List Tok)) : andTok (ts ++ [t]) x = andTok ts (match x with | .error e => .error e | .ok us => .ok (t :: us)) := by
  cases x <;> simp [andTok]
/-- One step at a place: blanks. -/
theorem scan_blank {l : List UInt8} {p k : Nat} (hk : 1 ≤ k) (h : stepB (l.drop p) = some k) : scanK 0 p (l.drop p) = scanK 0 (p + k) (l.drop (p + k)) := by
  cases e : l.drop p with
  | nil => rw [e] at h; cases h
  | cons c r =>
    rw [e] at h
    rw [scanK]
    simp only [h]
    rw [scanK_drop]
    have h2 : l.drop (p + k) = r.drop (k - 1) := by
      rw [← List.drop_drop, e]
      cases k with
      | zero => omega
      | succ k => simp
    rw [h2]
    congr 1
    omega
/-- One step at a place: a token. -/
theorem scan_tok {l : List UInt8} {p k : Nat} {t : Tok} (hk : 1 ≤ k) (h0 : stepB (l.drop p) = none) (h : tokV p (l.drop p) = .ok (t, k)) :
    scanK 0 p (l.drop p) = (match scanK 0 (p + k) (l.drop (p + k)) with | .error e => .error e | .ok us => .ok (t :: us)) := by
  cases e : l.drop p with
  | nil => rw [e] at h; cases h
  | cons c r =>
    rw [e] at h h0
    have h2 : l.drop (p + k) = r.drop (k - 1) := by
      rw [← List.drop_drop, e]
      cases k with
      | zero => omega
      | succ k => simp
    have h3 := scanK_drop (k - 1) (p + 1) r
    rw [show p + 1 + (k - 1) = p + k by omega, ← h2] at h3
    rw [← h3, scanK]
    simp only [h0, h]
theorem scan_err {l : List UInt8} {p : Nat} {e : Int} (h0 : stepB (l.drop p) = none) (h : tokV p (l.drop p) = .error e) (hp : p < l.length) : scanK 0 p (l.drop p) = .error (p, e) := by
  cases e1 : l.drop p with
  | nil =>
    have := congrArg List.length e1
    simp at this
    omega
  | cons c r =>
    rw [e1] at h h0
    rw [scanK]
    simp only [h0, h]
theorem scan_end {l : List UInt8} {p : Nat} (hp : l.length ≤ p) : scanK 0 p (l.drop p) = .ok [] := by
  rw [List.drop_eq_nil_of_le hp, scanK_nil]
theorem runN_pos {c : UInt8} {r : List UInt8} (h : letB c.toNat = true ∨ digB c.toNat = true) : 1 ≤ runN (c :: r) := by
  have : parB (c.toNat : Int) = true := by unfold parB; rcases h with h | h <;> simp [h]
  unfold runN
  rw [List.takeWhile_cons, this]
  simp
theorem bodyK_pos {l : List UInt8} {x : List UInt8} {n : Nat} (h : bodyK 0 l = some (x, n)) : 1 ≤ n := by
  cases l with
  | nil => cases h
  | cons c r =>
    rw [bodyK] at h
    split at h
    · injection h with h; injection h with _ h; omega
    · split at h
      · cases h
      · cases h1 : bodyK (_ - 1) r with
        | none => rw [h1] at h; cases h
        | some y => rw [h1] at h; injection h with h; injection h with _ h; omega
theorem tokV_pos {p k : Nat} {l : List UInt8} {t : Tok} (h : tokV p l = .ok (t, k)) : 1 ≤ k := by
  cases l with
  | nil => cases h
  | cons c r =>
    rw [tokV] at h
    split at h
    · rename_i hl
      injection h with h; injection h with _ h
      rw [← h]; exact runN_pos (.inl hl)
    · split at h
      · rename_i hd
        split at h
        · injection h with h; injection h with _ h
          rw [← h]; exact runN_pos (.inr hd)
        · cases h
      · split at h
        · split at h
          · injection h with h; injection h with _ h; omega
          · cases h
        · split at h
          · cases h
          · injection h with h; injection h with _ h; omega
theorem noteN_pos {r : List UInt8} : 1 ≤ noteN (45 :: r) := by
  unfold noteN
  rw [List.takeWhile_cons]
  simp
theorem stepB_pos {l : List UInt8} {k : Nat} (h : stepB l = some k) : 1 ≤ k := by
  cases l with
  | nil => cases h
  | cons c r =>
    rw [stepB] at h
    split at h
    · injection h; omega
    · split at h
      · rename_i hp
        have hc : c = 45 := by
          cases r with
          | nil => simp [Lib.hasPrefix] at hp
          | cons d q => simp [Lib.hasPrefix] at hp; exact hp.1.symm
        subst hc
        injection h with h
        rw [← h]; exact noteN_pos
      · cases h
example : (match scanV ⟨#[120, 46, 46, 49]⟩ with | .ok ts => ts.map (fun t => (t.kind, t.lo, t.hi, t.n)) | .error _ => []) = [(1, 0, 1, 0), (5, 1, 3, 0), (3, 3, 4, 1)] := by decide +kernel
example : (match scanV ⟨#[97, 32, 33, 32, 98]⟩ with | .ok _ => (0, 0) | .error e => e) = (2, 50) := by decide +kernel
end LexD
end Go.Proofs.YtmdkocegnbcgmaaGreatDoor
namespace Go.Proofs.YtmdkocegnbcgmaaGreatDoor
open Go.RowKit ObjM Go.Maps
namespace LexD

theorem WordsOk.keepsT {ts : List TypeId} {w w' : World} {m n : Nat} (h : WordsOk w m n) (k : KeepsT ts w w') : WordsOk w' m n :=
  h.block (k.block m h.lt (fun cs t fr hc => by
    obtain ⟨D, ⟨es, cl, hb, _⟩, _⟩ := h
    rw [hc] at hb
    cases hb))
theorem infoTok : (Tryz.prog.info? 57).map (fun i => (i.zero, i.size, i.bytes)) = some (some (.agg #[.int .i64 0, .string ⟨#[]⟩, .int .i64 0, .int .i64 0, .int .i64 0]), 5, 48) := by kernel_rfl
end LexD
end Go.Proofs.YtmdkocegnbcgmaaGreatDoor
