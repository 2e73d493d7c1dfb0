/- A scanner on its way: what stays true of it. -/
import Derived.Test.YthlclmjcdpffbaaDoorLex3
import Derived.BigQuiet
import Derived.WalkSmall
import Derived.Lib.Bytealg
namespace Go.Proofs.YthlclmjcdpffbaaDoor
open Go.RowKit ObjM Go.Maps
namespace LexD

theorem ext_toList (s : ByteArray) (i j : Nat) : (s.extract i j).data.toList = (s.data.toList.drop i).take (j - i) := by
  simp [ByteArray.data_extract, List.extract]
theorem ext_drop (s : ByteArray) (p : Nat) : (s.extract p s.size).data.toList = s.data.toList.drop p := by
  rw [ext_toList, List.take_of_length_le]
  simp
theorem bytes_toList (s : ByteArray) : bytes s.data.toList = s := by
  unfold bytes
  simp
theorem ext_bytes (s : ByteArray) (p k : Nat) : (s.extract p s.size).extract 0 k = bytes ((s.data.toList.drop p).take k) := by
  rw [← bytes_toList ((s.extract p s.size).extract 0 k), ext_toList, ext_drop]
  simp
theorem Moved.refl {w : World} {B P m : Nat} {s : ByteArray} {at_ : Int} {ts : List Tok} {tv : Value} (h : ScAt w B P m s at_ ts tv) : Moved w B P m s at_ ts w := ⟨tv, h, KeepsT.refl _ _, Below.refl _ _⟩
theorem Moved.after {w w1 w2 : World} {B P m : Nat} {s : ByteArray} {at_ a2 : Int} {ts t2 : List Tok} (h : Moved w B P m s at_ ts w1) (k : Moved w1 B P m s a2 t2 w2) : Moved w B P m s a2 t2 w2 := by
  obtain ⟨tv, h1, h2, h3⟩ := h
  obtain ⟨tv2, k1, k2, k3⟩ := k
  exact ⟨tv2, k1, h2.trans k2 (fun x hx => hx), h3.trans k3⟩
theorem Moved.drewN {w w1 : World} {B P m : Nat} {s : ByteArray} {at_ : Int} {ts : List Tok} (h : Moved w B P m s at_ ts w1) (n : Nat) : Moved w B P m s at_ ts (w1.drewN n) := by
  obtain ⟨tv, h1, h2, h3⟩ := h
  exact ⟨tv, h1.keeps (Keeps.drewN [] _ n), h2.drewN n, below_drewN h3 n⟩
theorem Moved.below {w w1 w2 : World} {B P m : Nat} {s : ByteArray} {at_ : Int} {ts : List Tok} (h : Moved w B P m s at_ ts w1) (hB : B ≤ w.heap.size) (k : Below w1.heap.size w1 w2) : Moved w B P m s at_ ts w2 := by
  obtain ⟨tv, h1, h2, h3⟩ := h
  exact ⟨tv, h1.below k, h2.trans (KeepsT.below k []) (by simp), h3.trans (k.mono (Nat.le_trans hB h3.size))⟩
theorem Moved.setAt {w w1 : World} {B P m : Nat} {s : ByteArray} {at_ : Int} {ts : List Tok} (h : Moved w B P m s at_ ts w1) (a2 : Int) : Moved w B P m s a2 ts (w1.setCell ⟨P, 1, none⟩ (.int .i64 a2)) := by
  obtain ⟨tv, h1, h2, h3⟩ := h
  refine ⟨tv, ⟨h1.obj.set 1 _, ?_, h1.words.keepsT ((KeepsT.refl [64] w1).set h1.obj (.inl (by simp)) 1 _), h1.ge, h1.gem⟩, h2.set h1.obj (.inl (by simp [ScTs])) 1 _, h3.setCell (p := ⟨P, 1, none⟩) h1.ge _⟩
  exact own_keeps h1.row (Keeps.set w1 P 1 _) (fun g hg => by
    have := own_ne h1.row h1.obj (by decide) g hg
    simpa using this)
theorem Moved.cell0 {w w1 : World} {B P m : Nat} {s : ByteArray} {at_ : Int} {ts : List Tok} (h : Moved w B P m s at_ ts w1) : w1.cell? ⟨P, 0, none⟩ = some (.string s) := by
  obtain ⟨tv, h1, _⟩ := h
  simpa using h1.obj.cell 0
theorem Moved.cell1 {w w1 : World} {B P m : Nat} {s : ByteArray} {at_ : Int} {ts : List Tok} (h : Moved w B P m s at_ ts w1) : w1.cell? ⟨P, 1, none⟩ = some (.int .i64 at_) := by
  obtain ⟨tv, h1, _⟩ := h
  simpa using h1.obj.cell 1
theorem Moved.cell2 {w w1 : World} {B P m : Nat} {s : ByteArray} {at_ : Int} {ts : List Tok} (h : Moved w B P m s at_ ts w1) : w1.cell? ⟨P, 2, none⟩ = some (.map (some m)) := by
  obtain ⟨tv, h1, _⟩ := h
  simpa using h1.obj.cell 2
theorem Moved.lt {w w1 : World} {B P m : Nat} {s : ByteArray} {at_ : Int} {ts : List Tok} (h : Moved w B P m s at_ ts w1) : P < w1.heap.size := by
  obtain ⟨tv, h1, _⟩ := h
  exact h1.obj.lt
theorem Moved.frozen {w w1 : World} {B P m : Nat} {s : ByteArray} {at_ : Int} {ts : List Tok} (h : Moved w B P m s at_ ts w1) (i : Nat) : w1.frozen? ⟨P, i, none⟩ = false := by
  obtain ⟨tv, h1, _⟩ := h
  exact h1.obj.frozen i
theorem Moved.words {w w1 : World} {B P m : Nat} {s : ByteArray} {at_ : Int} {ts : List Tok} (h : Moved w B P m s at_ ts w1) : WordsOk w1 m 18 := by
  obtain ⟨tv, h1, _⟩ := h
  exact h1.words
theorem Moved.size {w w1 : World} {B P m : Nat} {s : ByteArray} {at_ : Int} {ts : List Tok} (h : Moved w B P m s at_ ts w1) : w.heap.size ≤ w1.heap.size := by
  obtain ⟨tv, _, _, h3⟩ := h
  exact h3.size
theorem put_moved {B P m : Nat} {s : ByteArray} {at_ : Int} {ts : List Tok} {w w1 : World} (h : Moved w B P m s at_ ts w1) (hBw : B ≤ w.heap.size) (hn : ts.length ≤ 1000000) (kind to n : Int) (text : ByteArray) :
    Calls Tryd.prog 41 #[.pointer (some ⟨P, 0, none⟩), .int .i64 kind, .string text, .int .i64 to, .int .i64 n] w1 (PutIs w B P m s to (ts ++ [⟨kind, text, at_, to, n⟩])) := by
  obtain ⟨tv, h1, h2, h3⟩ := id h
  exact (put_any B P m s at_ ts tv kind to n text hn w1 (Nat.le_trans hBw h.size) h1).mono fun e w' ⟨he, hm⟩ => ⟨he, h.after hm⟩

def BlankIs (w : World) (B P m : Nat) (s : ByteArray) (p : Nat) (ts : List Tok) (e : Ending) (w' : World) : Prop :=
  (∃ k : Nat, stepB (s.data.toList.drop p) = some k ∧ e = .returned (.bool true) ∧ Moved w B P m s ((p + k : Nat) : Int) ts w') ∨ (stepB (s.data.toList.drop p) = none ∧ e = .returned (.bool false) ∧ Moved w B P m s (p : Int) ts w')
theorem drop_at {s : ByteArray} {p : Nat} (hp : p < s.size) : s.data.toList.drop p = s[p] :: s.data.toList.drop (p + 1) := by
  rw [List.drop_eq_getElem_cons (by simpa using hp)]
  rfl
theorem idx_note (l : List UInt8) : (Lib.indexByte l 10 = -1 ∧ noteN l = l.length) ∨ (Lib.indexByte l 10 = (noteN l : Int)) := by
  induction l with
  | nil => exact .inl ⟨rfl, rfl⟩
  | cons a r ih =>
    by_cases ha : a = 10
    · subst ha
      right
      rfl
    · have h1 : (a == 10) = false := by simpa using ha
      have h2 : noteN (a :: r) = noteN r + 1 := by
        unfold noteN
        rw [List.takeWhile_cons]
        simp [ha]
      rw [Lib.indexByte, h1, h2]
      rcases ih with ⟨h3, h4⟩ | h3
      · left
        rw [h3]
        exact ⟨by simp, by simp [h4]⟩
      · right
        rw [h3]
        have : ((noteN r : Int) == -1) = false := by simp
        simp [this]
theorem idx_blank : ∀ n : Fin 256, ((Lib.indexByte [32, 9, 10, 13] (UInt8.ofNat n.val) < 0) ↔ blankB (UInt8.ofNat n.val) = false) := by decide +kernel
theorem idx_blank' (c : UInt8) : (Lib.indexByte [32, 9, 10, 13] ((c.toNat : Int).toNat.toUInt8) < 0) ↔ blankB c = false := by
  have := idx_blank ⟨c.toNat, c.toNat_lt⟩
  simpa using this
theorem nat_byte (c : UInt8) : (c.toNat : Int).toNat.toUInt8 = c := by simp
end LexD
end Go.Proofs.YthlclmjcdpffbaaDoor
