/- The reader of strings. -/
import Derived.Test.YtmdkocegnbcgmaaGreatDoorZ37
import Derived.Test.YtmdkocegnbcgmaaGreatDoorZ41
import Derived.LoopN
import Derived.Recover
import Derived.Deep.RegionWith
import Derived.Deep.RegionHeld3
import Derived.Laws.IdiomStrings
import Derived.Test.YtmdkocegnbcgmaaGreatDoorZ15
namespace Go.Proofs.YtmdkocegnbcgmaaGreatDoor
open Go.RowKit ObjM Go.Maps
namespace LexD

theorem piece_len {l : List UInt8} {b : UInt8} {n : Nat} (h : pieceV l = some (b, n)) : 1 ≤ n ∧ n ≤ l.length := by
  match l, h with
  | [], h => cases h
  | c :: r, h =>
    by_cases h1 : c.toNat < 32 ∨ 126 < c.toNat
    · rw [piece_bad h1] at h; cases h
    by_cases h2 : c = 92
    · subst h2
      match r, h with
      | [], h => cases h
      | d :: q, h =>
        by_cases d1 : d = 110
        · subst d1
          rw [piece_n] at h; injection h with h; injection h with _ h; subst h; simp
        by_cases d2 : d = 92 ∨ d = 34
        · rw [piece_q d2] at h; injection h with h; injection h with _ h; subst h; simp
        by_cases d3 : d = 120
        · subst d3
          match q, h with
          | [], h => cases h
          | [a], h => cases h
          | a :: b :: t, h =>
            rw [piece_x] at h
            split at h
            · injection h with h; injection h with _ h; subst h; simp
            · cases h
        · rw [piece_other d1 d2 d3] at h; cases h
    · rw [piece_self h1 h2] at h; injection h with h; injection h with _ h; subst h; simp
theorem body_step {l : List UInt8} {q : Nat} {c b : UInt8} {r : List UInt8} {n : Nat} (e : l.drop q = c :: r) (hc : c ≠ 34) (h : pieceV (l.drop q) = some (b, n)) :
    bodyK 0 (l.drop q) = (bodyK 0 (l.drop (q + n))).map fun x => (b :: x.1, x.2 + n) := by
  have hn := (piece_len h).1
  have e2 : l.drop (q + n) = r.drop (n - 1) := by
    rw [← List.drop_drop, e]
    cases n with
    | zero => omega
    | succ n => simp
  rw [e2, e]
  rw [e] at h
  rw [bodyK, if_neg hc, h]
  show (bodyK (n - 1) r).map _ = _
  rw [bodyK_drop, Option.map_map]
  congr 1
  funext x
  simp only [Function.comp]
  congr 1
  omega
theorem body_none {l : List UInt8} {c : UInt8} {r : List UInt8} (e : l = c :: r) (hc : c ≠ 34) (h : pieceV l = none) : bodyK 0 l = none := by
  subst e
  rw [bodyK, if_neg hc, h]
theorem body_end {c : UInt8} {r : List UInt8} (hc : c = 34) : bodyK 0 (c :: r) = some ([], 1) := by
  rw [bodyK, if_pos hc]
/-- The first bytes read, what is still to come. -/
def BodyAt (l : List UInt8) (p j : Nat) (acc : List UInt8) : Prop := bodyK 0 (l.drop (p + 1)) = (bodyK 0 (l.drop (p + 1 + j))).map fun x => (acc ++ x.1, x.2 + j)
theorem BodyAt.zero (l : List UInt8) (p : Nat) : BodyAt l p 0 [] := by
  unfold BodyAt
  simp
theorem BodyAt.step {l : List UInt8} {p j n : Nat} {acc : List UInt8} {b c : UInt8} {r : List UInt8} (h : BodyAt l p j acc) (e : l.drop (p + 1 + j) = c :: r) (hc : c ≠ 34) (h2 : pieceV (l.drop (p + 1 + j)) = some (b, n)) : BodyAt l p (j + n) (acc ++ [b]) := by
  unfold BodyAt at h ⊢
  rw [h, body_step e hc h2, Option.map_map, show p + 1 + (j + n) = p + 1 + j + n by omega]
  congr 1
  funext x
  simp only [Function.comp, List.append_assoc]
  congr 1
  omega
theorem tok_quote {p : Nat} {c : UInt8} {r : List UInt8} (h0 : letB c.toNat = false) (h1 : digB c.toNat = false) (h : c = 34) : tokV p (c :: r) = match bodyK 0 r with
      | some (x, n) => .ok (⟨4, bytes x, p, p + (n + 1 : Nat), 0⟩, n + 1)
      | none => .error 52 := by
  rw [tokV, if_neg (by simp [h0]), if_neg (by simp [h1]), if_pos h]
  cases bodyK 0 r with
  | none => rfl
  | some x => rfl
theorem BodyAt.no {l : List UInt8} {p j : Nat} {acc : List UInt8} (h : BodyAt l p j acc) (h2 : bodyK 0 (l.drop (p + 1 + j)) = none) : bodyK 0 (l.drop (p + 1)) = none := by
  unfold BodyAt at h
  rw [h, h2]
  rfl
theorem BodyAt.yes {l : List UInt8} {p j : Nat} {acc : List UInt8} {c : UInt8} {r : List UInt8} (h : BodyAt l p j acc) (e : l.drop (p + 1 + j) = c :: r) (hc : c = 34) : bodyK 0 (l.drop (p + 1)) = some (acc, j + 1) := by
  unfold BodyAt at h
  rw [h, e, body_end hc]
  simp
  omega
theorem builder_below {T e : TypeId} {B b : Nat} {bs : List Value} {w w' : World} (h : Lib.IsBuilder T e B b bs w) (hb : Below w.heap.size w w') : Lib.IsBuilder T e B b bs w' := by
  have go : ∀ p, Lib.BuilderAt T e B b p bs w → Lib.BuilderAt T e B b p bs w' := by
    rintro p ⟨hB, v, hbk, hown, hne⟩
    exact ⟨hB, v, (hb.block b (Array.getElem?_eq_some_iff.1 hbk).1).trans hbk, own_keepsT hown (KeepsT.below hb []) (by simp), hne⟩
  exact h.imp (go _) (go _)
theorem builder_new (w : World) (b : Nat) (W : World) (hb : b = w.heap.size) (hW : W = w.alloc (.cells #[.pointer none, .slice none 0 0] 141)) : Lib.IsBuilder 141 5 w.heap.size b (Lib.byteCells []) W := by
  subst hb hW
  exact .inl ⟨Nat.le_refl _, .slice none 0 0, Has.new w 141 [.pointer none, .slice none 0 0], World.ownsRow_nil _ _ _ _, by simp [Value.ownBlock]⟩
end LexD
end Go.Proofs.YtmdkocegnbcgmaaGreatDoor
namespace Go.Proofs.YtmdkocegnbcgmaaGreatDoor
open Go.RowKit ObjM Go.Maps
namespace LexD

def SG : List (List UInt8) := [[61, 61], [126, 61], [60, 61], [62, 61], [47, 47], [46, 46], [45, 62]]
def sgB (k : Nat) : List UInt8 := SG.getD k []
theorem sg_pref {l : List UInt8} {k : Nat} (hk : k < 7) : Lib.hasPrefix l (sgB k) = true ↔ l.take 2 = sgB k := by
  have h2 : (sgB k).length = 2 := by
    have : k = 0 ∨ k = 1 ∨ k = 2 ∨ k = 3 ∨ k = 4 ∨ k = 5 ∨ k = 6 := by omega
    rcases this with rfl | rfl | rfl | rfl | rfl | rfl | rfl <;> rfl
  match hs : sgB k, h2 with
  | [a, b], _ =>
    match l with
    | [] => simp [Lib.hasPrefix]
    | [c] => simp [Lib.hasPrefix]
    | c :: d :: r =>
      constructor
      · intro h
        simp [Lib.hasPrefix] at h
        obtain ⟨rfl, rfl⟩ := h
        rfl
      · intro h
        simp at h
        obtain ⟨rfl, rfl⟩ := h
        simp [Lib.hasPrefix]
theorem sg_mem (x : List UInt8) : x ∈ SG ↔ ∃ k, k < 7 ∧ x = sgB k := by
  constructor
  · intro h
    obtain ⟨k, hk, e⟩ := List.mem_iff_getElem.1 h
    exact ⟨k, hk, by rw [← e]; unfold sgB; simp [List.getD, hk]⟩
  · rintro ⟨k, hk, rfl⟩
    unfold sgB
    have : k = 0 ∨ k = 1 ∨ k = 2 ∨ k = 3 ∨ k = 4 ∨ k = 5 ∨ k = 6 := by omega
    rcases this with rfl | rfl | rfl | rfl | rfl | rfl | rfl <;> decide
def sg1 : List UInt8 := [43, 45, 42, 37, 60, 62, 61, 40, 41, 123, 125, 91, 93, 44, 58, 59, 46, 35, 124, 64]
theorem sign_two {c : UInt8} {r : List UInt8} {k : Nat} (hk : k < 7) (h : Lib.hasPrefix (c :: r) (sgB k) = true) : signN (c :: r) = 2 ∧ (c :: r).take 2 = sgB k := by
  have h2 := (sg_pref hk).1 h
  refine ⟨?_, h2⟩
  simp only [signN]
  have : (c :: r).take 2 ∈ SG := (sg_mem _).2 ⟨k, hk, h2⟩
  unfold SG at this
  rw [if_pos this]
theorem sign_one {c : UInt8} {r : List UInt8} (h : ∀ k, k < 7 → Lib.hasPrefix (c :: r) (sgB k) = false) : signN (c :: r) = if c ∈ sg1 then 1 else 0 := by
  simp only [signN]
  have : ¬ (c :: r).take 2 ∈ SG := fun hm => by
    obtain ⟨k, hk, e⟩ := (sg_mem _).1 hm
    have h2 := (sg_pref hk).2 e
    rw [h k hk] at h2
    cases h2
  unfold SG at this
  rw [if_neg this]
  rfl
theorem idx_sign : ∀ n : Fin 256, ((Lib.indexByte [43, 45, 42, 37, 60, 62, 61, 40, 41, 123, 125, 91, 93, 44, 58, 59, 46, 35, 124, 64] (UInt8.ofNat n.val) < 0) ↔ ¬ UInt8.ofNat n.val ∈ sg1) := by decide +kernel
theorem tok_sign {p : Nat} {c : UInt8} {r : List UInt8} (h0 : letB c.toNat = false) (h1 : digB c.toNat = false) (h2 : c ≠ 34) : tokV p (c :: r) = if signN (c :: r) = 0 then .error 50 else .ok (⟨5, bytes ((c :: r).take (signN (c :: r))), p, p + signN (c :: r), 0⟩, signN (c :: r)) := by
  rw [tokV, if_neg (by simp [h0]), if_neg (by simp [h1]), if_neg h2]
def SV : Value := .agg #[.string ⟨#[61, 61]⟩, .string ⟨#[126, 61]⟩, .string ⟨#[60, 61]⟩, .string ⟨#[62, 61]⟩, .string ⟨#[47, 47]⟩, .string ⟨#[46, 46]⟩, .string ⟨#[45, 62]⟩]
theorem bytes_list (l : List UInt8) : (bytes l).data.toList = l := by simp [bytes]
end LexD
end Go.Proofs.YtmdkocegnbcgmaaGreatDoor
namespace Go.Proofs.YtmdkocegnbcgmaaGreatDoor
open Go.RowKit ObjM Go.Maps
namespace LexD

theorem sign_no {p : Nat} {s : ByteArray} (hp : p < s.size) (h0 : letB s[p].toNat = false) (h1 : digB s[p].toNat = false) (h2 : ¬ s[p] = 34) (h3 : signN (s.data.toList.drop p) = 0) : tokV p (s.data.toList.drop p) = .error 50 := by
  have e := drop_at hp
  rw [e] at h3
  have hk := tok_sign (p := p) (c := s[p]) (r := s.data.toList.drop (p + 1)) h0 h1 h2
  rw [h3, if_pos rfl] at hk
  rw [e]
  exact hk
end LexD
end Go.Proofs.YtmdkocegnbcgmaaGreatDoor
namespace Go.Proofs.YtmdkocegnbcgmaaGreatDoor
open Go.RowKit ObjM Go.Maps
namespace LexD

theorem stepB_le {l : List UInt8} {k : Nat} (h : stepB l = some k) : k ≤ l.length := by
  cases l with
  | nil => cases h
  | cons c r =>
    rw [stepB] at h
    split at h
    · injection h with h; subst h; simp
    · split at h
      · injection h with h
        rw [← h]
        exact (List.takeWhile_prefix _).length_le
      · cases h
theorem bodyK_le {l : List UInt8} {x : List UInt8} {n : Nat} : ∀ {k : Nat}, bodyK k l = some (x, n) → n ≤ l.length := by
  induction l generalizing x n with
  | nil => intro k h; cases k <;> cases h
  | cons c r ih =>
    intro k h
    cases k with
    | succ k =>
      rw [bodyK] at h
      cases h1 : bodyK k r with
      | none => rw [h1] at h; cases h
      | some y =>
        rw [h1] at h
        injection h with h; injection h with _ h
        have := ih (x := y.1) (n := y.2) h1
        simp; omega
    | zero =>
      rw [bodyK] at h
      split at h
      · injection h with h; injection h with _ h; simp; omega
      · split at h
        · cases h
        · cases h1 : bodyK (_ - 1) r with
          | none => rw [h1] at h; cases h
          | some y =>
            rw [h1] at h
            injection h with h; injection h with _ h
            have := ih (x := y.1) (n := y.2) h1
            simp; omega
theorem signN_le (l : List UInt8) : signN l ≤ l.length := by
  cases l with
  | nil => simp [signN]
  | cons c r =>
    simp only [signN]
    split
    · rename_i h
      have h2 : ((c :: r).take 2).length = 2 := by
        have hall : ∀ x ∈ SG, x.length = 2 := by decide
        exact hall _ h
      simp at h2
      simp; omega
    · split
      · simp
      · simp
theorem tokV_le {p k : Nat} {l : List UInt8} {t : Tok} (h : tokV p l = .ok (t, k)) : k ≤ l.length := by
  cases l with
  | nil => cases h
  | cons c r =>
    rw [tokV] at h
    split at h
    · injection h with h; injection h with _ h
      rw [← h]; exact runN_le _
    · split at h
      · split at h
        · injection h with h; injection h with _ h
          rw [← h]; exact runN_le _
        · cases h
      · split at h
        · split at h
          · rename_i x n e
            injection h with h; injection h with _ h
            have := bodyK_le e
            simp; omega
          · cases h
        · split at h
          · cases h
          · injection h with h; injection h with _ h
            rw [← h]; exact signN_le _
/-- The token at the end. -/
def endTok (s : ByteArray) : Tok := ⟨0, ⟨#[]⟩, s.size, s.size, 0⟩
def atOf (w : World) (P : Nat) : Nat := (intOf ((w.cell? ⟨P, 1, none⟩).getD undef)).toNat
end LexD
end Go.Proofs.YtmdkocegnbcgmaaGreatDoor
namespace Go.Proofs.YtmdkocegnbcgmaaGreatDoor
open Go.RowKit ObjM Go.Maps
namespace LexD

theorem sCatch_end {w w1 : World} {P Q R B : Nat} {p0 q0 r0 : Value} {p er : Int} (hP : Has w P 48 [p0]) (hQ : Has w Q 3 [q0]) (hR : Has w R 34 [r0])
    (hk : KeepsT [] w w1) (hb : Below B w w1) (h1 : B ≤ P) (h2 : B ≤ Q) (h3 : B ≤ R) :
    Below B w (((w1.setCell ⟨P, 0, none⟩ (.slice none 0 0)).setCell ⟨Q, 0, none⟩ (.int .i64 p)).setCell ⟨R, 0, none⟩ (.int .i64 er)) ∧
    Has (((w1.setCell ⟨P, 0, none⟩ (.slice none 0 0)).setCell ⟨Q, 0, none⟩ (.int .i64 p)).setCell ⟨R, 0, none⟩ (.int .i64 er)) P 48 [.slice none 0 0] ∧
    Has (((w1.setCell ⟨P, 0, none⟩ (.slice none 0 0)).setCell ⟨Q, 0, none⟩ (.int .i64 p)).setCell ⟨R, 0, none⟩ (.int .i64 er)) Q 3 [.int .i64 p] ∧
    Has (((w1.setCell ⟨P, 0, none⟩ (.slice none 0 0)).setCell ⟨Q, 0, none⟩ (.int .i64 p)).setCell ⟨R, 0, none⟩ (.int .i64 er)) R 34 [.int .i64 er] := by
  have nPQ : P ≠ Q := hP.ne hQ (by decide +kernel)
  have nPR : P ≠ R := hP.ne hR (by decide +kernel)
  have nQR : Q ≠ R := hQ.ne hR (by decide +kernel)
  have p1 := (hP.keepsT hk (by simp)).set 0 (.slice none 0 0)
  have q1 := hQ.keepsT hk (by simp)
  have r1 := hR.keepsT hk (by simp)
  refine ⟨((hb.setCell h1 _).setCell h2 _).setCell h3 _, ?_, ?_, ?_⟩
  · exact (p1.keeps (Keeps.set _ Q 0 _) (by simpa using nPQ)).keeps (Keeps.set _ R 0 _) (by simpa using nPR)
  · exact ((q1.keeps (Keeps.set _ P 0 _) (by simpa using nPQ.symm)).set 0 _).keeps (Keeps.set _ R 0 _) (by simpa using nQR)
  · exact ((r1.keeps (Keeps.set _ P 0 _) (by simpa using nPR.symm)).keeps (Keeps.set _ Q 0 _) (by simpa using nQR.symm)).set 0 _
inductive ScanIs (w : World) (s : ByteArray) : Ending → World → Prop
  | long (w' : World) : 100000 < s.size → Below w.heap.size w w' → ScanIs w s (.returned (.tuple #[.slice none 0 0, .int .i64 0, .int .i64 2])) w'
  | ok (ts : List Tok) (tv : Value) (w' : World) : s.size ≤ 100000 → scanV s = .ok ts → ts.length ≤ s.size → w'.ownsRow w.heap.size 57 5 tv (ts.length + 1) (rowT (ts ++ [endTok s])) → Below w.heap.size w w' → ScanIs w s (.returned (.tuple #[tv, .int .i64 0, .int .i64 0])) w'
  | err (p : Nat) (er : Int) (w' : World) : s.size ≤ 100000 → scanV s = .error (p, er) → p < s.size → Below w.heap.size w w' → ScanIs w s (.returned (.tuple #[.slice none 0 0, .int .i64 (p : Int), .int .i64 er])) w'
theorem own_base {w : World} {b b' : Nat} {e : TypeId} {size : Nat} {v : Value} {n : Nat} {xs : List Value} (h : w.ownsRow b e size v n xs) (hb : b' ≤ b) : w.ownsRow b' e size v n xs :=
  ⟨h.1, h.2.imp id (fun ⟨g, cap, cur, e1, e2, r⟩ => ⟨g, cap, cur, e1, Nat.le_trans hb e2, r⟩)⟩
theorem three_blocks (w : World) (c0 c1 c2 : List Value) (t0 t1 t2 : TypeId) (W : World) (hW : W = ((w.alloc (.cells c0.toArray t0)).alloc (.cells c1.toArray t1)).alloc (.cells c2.toArray t2)) :
    Has W w.heap.size t0 c0 ∧ Has W (w.heap.size + 1) t1 c1 ∧ Has W (w.heap.size + 1 + 1) t2 c2 ∧ Below w.heap.size w W ∧ W.heap.size = w.heap.size + 1 + 1 + 1 := by
  subst hW
  have k : ∀ (W : World) (o : Go.Obj), KeepsT [] W (W.alloc o) := fun W o => (KeepsT.refl [] W).alloc o
  refine ⟨?_, ?_, ?_, ?_, by simp⟩
  · exact ((Has.new w t0 c0).keepsT (k _ _) (by simp)).keepsT (k _ _) (by simp)
  · have h := (Has.new (w.alloc (.cells c0.toArray t0)) t1 c1).keepsT (k _ (.cells c2.toArray t2)) (by simp)
    simpa only [World.size_alloc] using h
  · have h := Has.new ((w.alloc (.cells c0.toArray t0)).alloc (.cells c1.toArray t1)) t2 c2
    simpa only [World.size_alloc] using h
  · repeat (first | exact Below.refl _ _ | refine Below.alloc ?_ (by simp; try omega) _)
end LexD
end Go.Proofs.YtmdkocegnbcgmaaGreatDoor
namespace Go.Proofs.YtmdkocegnbcgmaaGreatDoor
open Go.RowKit ObjM Go.Maps
namespace LexD

theorem word_iff (s : ByteArray) : wordB 18 (key8 s) = true ↔ s ∈ WL := by
  unfold wordB key8
  rw [show WL.take 18 = WL from rfl, List.any_eq_true]
  constructor
  · rintro ⟨x, hx, e⟩
    have e2 : x.data.toList = s.data.toList := by simpa using e
    have : x = s := by
      cases x; cases s
      congr 1
      exact Array.ext' e2
    exact this ▸ hx
  · intro h
    exact ⟨s, h, by simp⟩
theorem ne_list {s : ByteArray} {l : List UInt8} (h : ¬ s = ⟨l.toArray⟩) : (s.toList == l) = false := by
  rw [ByteArray.toList_eq]
  simp only [beq_eq_false_iff_ne, ne_eq]
  intro e
  apply h
  cases s
  congr 1
  rw [← e]
theorem word_no {s : ByteArray} (h : wordB 18 (key8 s) = false) : (s.toList == [97, 110, 100]) = false ∧ (s.toList == [98, 114, 101, 97, 107]) = false ∧ (s.toList == [99, 104, 97, 110, 110, 101, 108]) = false ∧ (s.toList == [100, 111]) = false ∧ (s.toList == [101, 108, 115, 101]) = false ∧ (s.toList == [101, 108, 115, 101, 105, 102]) = false ∧ (s.toList == [101, 110, 100]) = false ∧ (s.toList == [102, 97, 108, 115, 101]) = false ∧ (s.toList == [102, 117, 110, 99, 116, 105, 111, 110]) = false ∧ (s.toList == [105, 102]) = false ∧ (s.toList == [108, 111, 99, 97, 108]) = false ∧ (s.toList == [110, 105, 108]) = false ∧ (s.toList == [110, 111, 116]) = false ∧ (s.toList == [111, 114]) = false ∧ (s.toList == [114, 101, 116, 117, 114, 110]) = false ∧ (s.toList == [116, 104, 101, 110]) = false ∧ (s.toList == [116, 114, 117, 101]) = false ∧ (s.toList == [119, 104, 105, 108, 101]) = false := by
  have h1 : ¬ s ∈ WL := fun hm => by
    rw [(word_iff s).2 hm] at h
    cases h
  simp only [WL, List.mem_cons, List.not_mem_nil, or_false, not_or] at h1
  obtain ⟨h0, h1, h2, h3, h4, h5, h6, h7, h8, h9, h10, h11, h12, h13, h14, h15, h16, h17⟩ := h1
  exact ⟨ne_list h0, ne_list h1, ne_list h2, ne_list h3, ne_list h4, ne_list h5, ne_list h6, ne_list h7, ne_list h8, ne_list h9, ne_list h10, ne_list h11, ne_list h12, ne_list h13, ne_list h14, ne_list h15, ne_list h16, ne_list h17⟩
set_option maxRecDepth 100000 in
set_option maxHeartbeats 4000000 in
theorem refWord_any (s : ByteArray) (w : World) : Calls Tryz.prog 76 #[.string s] w (BoolIs w (wordB 18 (key8 s))) := by
  cases hb : wordB 18 (key8 s) with
  | false =>
    obtain ⟨h0, h1, h2, h3, h4, h5, h6, h7, h8, h9, h10, h11, h12, h13, h14, h15, h16, h17⟩ := word_no hb
    clear hb
    go_enter Tryz.func76, Tryz.ntmps76
    go_wp2
    go_ret
    exact ⟨rfl, rfl⟩
  | true =>
    have hm := (word_iff s).1 hb
    clear hb
    simp only [WL, List.mem_cons, List.not_mem_nil, or_false] at hm
    rcases hm with rfl | rfl | rfl | rfl | rfl | rfl | rfl | rfl | rfl | rfl | rfl | rfl | rfl | rfl | rfl | rfl | rfl | rfl
    all_goals
      go_enter Tryz.func76, Tryz.ntmps76
      go_wp2
      go_ret
      exact ⟨rfl, rfl⟩
set_option maxRecDepth 100000 in
set_option maxHeartbeats 2000000 in
theorem refRun_any (s : ByteArray) (hs : s.size ≤ 1000000000) (w : World) : Calls Tryz.prog 80 #[.string s] w fun e w' => e = .returned (.int .i64 (runN s.data.toList : Int)) ∧ w = w' := by
  have HStop : Hid (∀ k (hk : k < s.size), (∀ j (hj : j < k), parB ((s[j]'(by omega)).toNat : Int) = true) → parB (s[k].toNat : Int) = false → runN s.data.toList = k) := Lib.hid fun k hk ha hs => runN_stop (l := s.data.toList) (by simpa using hk) (fun j hj => ha j hj) hs
  have HAll : Hid ((∀ j (hj : j < s.size), parB (s[j].toNat : Int) = true) → runN s.data.toList = s.size) := Lib.hid fun ha => by
    have := runN_all (l := s.data.toList) fun j hj => ha j (by simpa using hj)
    simpa using this
  obtain ⟨m, hm⟩ : ∃ m, runN s.data.toList = m := ⟨_, rfl⟩
  rw [hm] at HStop HAll ⊢
  clear hm
  go_enter Tryz.func80, Tryz.ntmps80
  go_wp2
  go_loop [3] (fun i => ∃ k : Nat, i = .int .i64 k ∧ k ≤ s.size ∧ Hid (∀ j (hj : j < k) (hk : j < s.size), parB (s[j].toNat : Int) = true)) (fun i => s.size - (intOf i).toNat)
  case atStart => exact ⟨0, rfl, Nat.zero_le _, Lib.hid (fun j hj => by omega)⟩
  case round =>
    obtain ⟨k, rfl, hk, HF⟩ := hrel
    by_cases hlt : k < s.size
    · have HP := fun W => Lib.hid (refPart_any (s[k].toNat : Int) W)
      obtain ⟨pb, hpb⟩ : ∃ b, parB (s[k].toNat : Int) = b := ⟨_, rfl⟩
      rw [hpb] at HP
      have HPb := Lib.hid hpb
      have HG : Hid (parB (s[k].toNat : Int) = true → ∀ j (hj : j < k + 1) (hk : j < s.size), parB (s[j].toNat : Int) = true) := Lib.hid fun h j hj hjs => by
        by_cases hjk : j < k
        · exact HF.out j hjk hjs
        · have : j = k := by omega
          subst this
          exact h
      clear hpb
      cases pb
      · have hr := HStop.out k hlt (fun j hj => HF.out j hj (by omega)) HPb.out
        subst hr
        go_wp2_with fail
        refine ((HP _).out).mono ?_
        rintro e w1 ⟨rfl, rfl⟩
        go_wp2
        go_ret
        exact ⟨rfl, rfl⟩
      · have HF2 := Lib.hid (HG.out HPb.out)
        clear HStop HAll HG
        go_wp2_with fail
        refine ((HP _).out).mono ?_
        rintro e w1 ⟨rfl, rfl⟩
        go_wp2
        go_round
        case rel => exact ⟨k + 1, by go_num, by omega, HF2⟩
        case measure => simp [intOf]; omega
    · have : k = s.size := by omega
      subst this
      have hr := HAll.out (fun j hj => HF.out j hj hj)
      subst hr
      go_wp2
      go_ret
      exact ⟨rfl, rfl⟩
end LexD
end Go.Proofs.YtmdkocegnbcgmaaGreatDoor
namespace Go.Proofs.YtmdkocegnbcgmaaGreatDoor
open Go.RowKit ObjM Go.Maps
namespace LexD

theorem take2_list (s : ByteArray) : (s.extract 0 2).toList = s.data.toList.take 2 := by
  rw [ByteArray.toList_eq, ext_toList]
  simp
theorem list_eq_of {T : ByteArray} {l : List UInt8} (h : T.toList = l) : T = ⟨l.toArray⟩ := by
  rw [ByteArray.toList_eq] at h
  cases T
  congr 1
  exact Array.ext' (by simpa using h)
theorem two_no {s : ByteArray} (h : ∀ k, k < 7 → Lib.hasPrefix s.data.toList (sgB k) = false) : ((s.extract 0 2).toList == [61, 61]) = false ∧ ((s.extract 0 2).toList == [126, 61]) = false ∧ ((s.extract 0 2).toList == [60, 61]) = false ∧ ((s.extract 0 2).toList == [62, 61]) = false ∧ ((s.extract 0 2).toList == [47, 47]) = false ∧ ((s.extract 0 2).toList == [46, 46]) = false ∧ ((s.extract 0 2).toList == [45, 62]) = false := by
  have hk : ∀ k, k < 7 → ((s.extract 0 2).toList == sgB k) = false := fun k hk => by
    rw [take2_list]
    simp only [beq_eq_false_iff_ne, ne_eq]
    intro e
    have := (sg_pref hk).2 e
    rw [h k hk] at this
    cases this
  exact ⟨hk 0 (by decide), hk 1 (by decide), hk 2 (by decide), hk 3 (by decide), hk 4 (by decide), hk 5 (by decide), hk 6 (by decide)⟩
theorem one_no {n : Nat} (h : ¬ UInt8.ofNat n ∈ sg1) : ((n : Int) == 43) = false ∧ ((n : Int) == 45) = false ∧ ((n : Int) == 42) = false ∧ ((n : Int) == 37) = false ∧ ((n : Int) == 60) = false ∧ ((n : Int) == 62) = false ∧ ((n : Int) == 61) = false ∧ ((n : Int) == 40) = false ∧ ((n : Int) == 41) = false ∧ ((n : Int) == 123) = false ∧ ((n : Int) == 125) = false ∧ ((n : Int) == 91) = false ∧ ((n : Int) == 93) = false ∧ ((n : Int) == 44) = false ∧ ((n : Int) == 58) = false ∧ ((n : Int) == 59) = false ∧ ((n : Int) == 46) = false ∧ ((n : Int) == 35) = false ∧ ((n : Int) == 124) = false ∧ ((n : Int) == 64) = false := by
  have h2 : ∀ m : Nat, UInt8.ofNat m ∈ sg1 → ((n : Int) == (m : Int)) = false := fun m hm => by
    simp only [beq_eq_false_iff_ne, ne_eq]
    intro e
    have : n = m := by omega
    subst this
    exact h hm
  exact ⟨h2 43 (by decide), h2 45 (by decide), h2 42 (by decide), h2 37 (by decide), h2 60 (by decide), h2 62 (by decide), h2 61 (by decide), h2 40 (by decide), h2 41 (by decide), h2 123 (by decide), h2 125 (by decide), h2 91 (by decide), h2 93 (by decide), h2 44 (by decide), h2 58 (by decide), h2 59 (by decide), h2 46 (by decide), h2 35 (by decide), h2 124 (by decide), h2 64 (by decide)⟩
theorem one_yes {n : Nat} (hn : n < 256) (h : UInt8.ofNat n ∈ sg1) : n = 43 ∨ n = 45 ∨ n = 42 ∨ n = 37 ∨ n = 60 ∨ n = 62 ∨ n = 61 ∨ n = 40 ∨ n = 41 ∨ n = 123 ∨ n = 125 ∨ n = 91 ∨ n = 93 ∨ n = 44 ∨ n = 58 ∨ n = 59 ∨ n = 46 ∨ n = 35 ∨ n = 124 ∨ n = 64 := by
  have h2 : ∀ m : Fin 256, UInt8.ofNat m.val ∈ sg1 → m.val = 43 ∨ m.val = 45 ∨ m.val = 42 ∨ m.val = 37 ∨ m.val = 60 ∨ m.val = 62 ∨ m.val = 61 ∨ m.val = 40 ∨ m.val = 41 ∨ m.val = 123 ∨ m.val = 125 ∨ m.val = 91 ∨ m.val = 93 ∨ m.val = 44 ∨ m.val = 58 ∨ m.val = 59 ∨ m.val = 46 ∨ m.val = 35 ∨ m.val = 124 ∨ m.val = 64 := by decide +kernel
  exact h2 ⟨n, hn⟩ h
set_option maxRecDepth 100000 in
set_option maxHeartbeats 8000000 in
theorem refSign_two (s : ByteArray) (k : Nat) (hk : k < 7) (hp : Lib.hasPrefix s.data.toList (sgB k) = true) (hs : s.size ≤ 1000000000) (w : World) : Calls Tryz.prog 82 #[.string s] w fun e w' => e = .returned (.int .i64 2) ∧ w = w' := by
  have h2 : (s.extract 0 2).toList = sgB k := by rw [take2_list]; exact (sg_pref hk).1 hp
  have hsz : 2 ≤ s.size := by
    have h3 := congrArg List.length h2
    rw [take2_list] at h3
    have h4 : (sgB k).length = 2 := by
      have : k = 0 ∨ k = 1 ∨ k = 2 ∨ k = 3 ∨ k = 4 ∨ k = 5 ∨ k = 6 := by omega
      rcases this with rfl | rfl | rfl | rfl | rfl | rfl | rfl <;> rfl
    rw [h4] at h3
    simp at h3
    omega
  have hT := list_eq_of h2
  have hi : (2 : Int) ≤ (s.size : Int) := by omega
  clear hp h2 hsz
  have : k = 0 ∨ k = 1 ∨ k = 2 ∨ k = 3 ∨ k = 4 ∨ k = 5 ∨ k = 6 := by omega
  clear hk
  rcases this with rfl | rfl | rfl | rfl | rfl | rfl | rfl
  all_goals
    simp only [sgB, SG, List.getD_cons_zero, List.getD_cons_succ] at hT
    go_enter Tryz.func82, Tryz.ntmps82
    go_wp2
    go_ret
    exact ⟨rfl, rfl⟩
set_option maxRecDepth 100000 in
set_option maxHeartbeats 8000000 in
theorem refSign_one (s : ByteArray) (h0 : 0 < s.size) (hno : ∀ k, k < 7 → Lib.hasPrefix s.data.toList (sgB k) = false) (hs : s.size ≤ 1000000000) (w : World) : Calls Tryz.prog 82 #[.string s] w fun e w' => e = .returned (.int .i64 (if s[0] ∈ sg1 then 1 else 0)) ∧ w = w' := by
  obtain ⟨t0, t1, t2, t3, t4, t5, t6⟩ := two_no hno
  obtain ⟨n, hn⟩ : ∃ n, s[0].toNat = n := ⟨_, rfl⟩
  have hU : s[0] = UInt8.ofNat n := by rw [← hn]; simp
  have hn256 : n < 256 := by rw [← hn]; exact UInt8.toNat_lt _
  have hi0 : (0 : Int) < (s.size : Int) := by omega
  rw [hU]
  clear hU hno
  have hlen : ((2 : Int) ≤ (s.size : Int)) ∨ ¬ ((2 : Int) ≤ (s.size : Int)) := by omega
  by_cases hm : UInt8.ofNat n ∈ sg1
  · rw [if_pos hm]
    have hc := one_yes hn256 hm
    clear hm
    rcases hlen with hlen | hlen
    all_goals
      rcases hc with rfl | rfl | rfl | rfl | rfl | rfl | rfl | rfl | rfl | rfl | rfl | rfl | rfl | rfl | rfl | rfl | rfl | rfl | rfl | rfl
      all_goals
        go_enter Tryz.func82, Tryz.ntmps82
        go_wp2
        go_ret
        exact ⟨rfl, rfl⟩
  · rw [if_neg hm]
    obtain ⟨n43, n45, n42, n37, n60, n62, n61, n40, n41, n123, n125, n91, n93, n44, n58, n59, n46, n35, n124, n64⟩ := one_no hm
    clear hm
    rcases hlen with hlen | hlen
    all_goals
      go_enter Tryz.func82, Tryz.ntmps82
      go_wp2
      go_ret
      exact ⟨rfl, rfl⟩
theorem refSign_any (s : ByteArray) (h0 : 0 < s.size) (hs : s.size ≤ 1000000000) (w : World) : Calls Tryz.prog 82 #[.string s] w fun e w' => e = .returned (.int .i64 (signN s.data.toList : Int)) ∧ w = w' := by
  obtain ⟨r, hr⟩ := list_zero h0
  by_cases h : ∀ k, k < 7 → Lib.hasPrefix s.data.toList (sgB k) = false
  · have e : (signN s.data.toList : Int) = if s[0] ∈ sg1 then 1 else 0 := by
      rw [hr] at h ⊢
      rw [sign_one h]
      split <;> rfl
    rw [e]
    exact refSign_one s h0 h hs w
  · have : ∃ k, k < 7 ∧ Lib.hasPrefix s.data.toList (sgB k) = true := by
      apply Classical.byContradiction
      intro hne
      apply h
      intro k hk
      cases hb : Lib.hasPrefix s.data.toList (sgB k) with
      | false => rfl
      | true => exact absurd ⟨k, hk, hb⟩ hne
    obtain ⟨k, hk, hb⟩ := this
    have e : (signN s.data.toList : Int) = 2 := by
      have hb2 := hb
      rw [hr] at hb2 ⊢
      rw [(sign_two hk hb2).1]
      rfl
    rw [e]
    exact refSign_two s k hk hb hs w
end LexD
end Go.Proofs.YtmdkocegnbcgmaaGreatDoor
namespace Go.Proofs.YtmdkocegnbcgmaaGreatDoor
open Go.RowKit ObjM Go.Maps
namespace LexD

/-- How many bytes of blanks and notes stand at the beginning; the first k bytes are passed over. -/
def blK : Nat → List UInt8 → Nat
  | _, [] => 0
  | k + 1, _ :: r => blK k r + 1
  | 0, c :: r => match stepB (c :: r) with
    | some k => blK (k - 1) r + 1
    | none => 0
theorem blK_nil (k : Nat) : blK k [] = 0 := by cases k <;> rfl
theorem blK_drop {k : Nat} {l : List UInt8} (h : k ≤ l.length) : blK k l = k + blK 0 (l.drop k) := by
  induction k generalizing l with
  | zero => simp
  | succ k ih =>
    cases l with
    | nil => simp at h
    | cons c r =>
      show blK k r + 1 = _
      rw [ih (by simpa using h), List.drop_succ_cons]
      omega
theorem bl_some {l : List UInt8} {k : Nat} (h : stepB l = some k) : blK 0 l = k + blK 0 (l.drop k) := by
  have h1 := stepB_pos h
  have h2 := stepB_le h
  cases l with
  | nil => cases h
  | cons c r =>
    rw [blK, h]
    show blK (k - 1) r + 1 = _
    have h3 : k ≤ r.length + 1 := h2
    rw [blK_drop (by omega)]
    cases k with
    | zero => omega
    | succ k => simp; omega
theorem bl_none {l : List UInt8} (h : stepB l = none) : blK 0 l = 0 := by
  cases l with
  | nil => rfl
  | cons c r => rw [blK, h]
theorem blK_le (l : List UInt8) : blK 0 l ≤ l.length := by
  have : ∀ n, ∀ l : List UInt8, l.length = n → blK 0 l ≤ l.length := by
    intro n
    induction n using Nat.strongRecOn with
    | _ n ih =>
      intro l hl
      cases h : stepB l with
      | none => rw [bl_none h]; omega
      | some k =>
        have h1 := stepB_pos h
        have h2 := stepB_le h
        rw [bl_some h]
        have := ih (l.drop k).length (by simp; omega) (l.drop k) rfl
        simp at this
        omega
  exact this l.length l rfl
/-- Behind its blanks a text goes on, and there no blank stands. -/
theorem bl_scan (l : List UInt8) (p : Nat) : scanK 0 p (l.drop p) = scanK 0 (p + blK 0 (l.drop p)) (l.drop (p + blK 0 (l.drop p))) ∧ stepB (l.drop (p + blK 0 (l.drop p))) = none := by
  have : ∀ n, ∀ p, l.length - p = n → scanK 0 p (l.drop p) = scanK 0 (p + blK 0 (l.drop p)) (l.drop (p + blK 0 (l.drop p))) ∧ stepB (l.drop (p + blK 0 (l.drop p))) = none := by
    intro n
    induction n using Nat.strongRecOn with
    | _ n ih =>
      intro p hl
      cases h : stepB (l.drop p) with
      | none => rw [bl_none h]; exact ⟨rfl, h⟩
      | some k =>
        have h1 := stepB_pos h
        have h2 := stepB_le h
        simp at h2
        have h3 := bl_some h
        rw [List.drop_drop] at h3
        have := ih (l.length - (p + k)) (by omega) (p + k) rfl
        rw [h3, ← Nat.add_assoc]
        rw [scan_blank h1 h]
        exact this
  exact this _ p rfl
theorem blank_cases {n : Nat} (hn : n < 256) (h : blankB (UInt8.ofNat n) = true) : n = 32 ∨ n = 9 ∨ n = 10 ∨ n = 13 := by
  have h2 : ∀ m : Fin 256, blankB (UInt8.ofNat m.val) = true → m.val = 32 ∨ m.val = 9 ∨ m.val = 10 ∨ m.val = 13 := by decide +kernel
  exact h2 ⟨n, hn⟩ h
theorem blank_not {n : Nat} (h : blankB (UInt8.ofNat n) = false) : ((n : Int) == 32) = false ∧ ((n : Int) == 9) = false ∧ ((n : Int) == 10) = false ∧ ((n : Int) == 13) = false := by
  have h2 : ∀ m : Nat, blankB (UInt8.ofNat m) = true → ((n : Int) == (m : Int)) = false := fun m hm => by
    simp only [beq_eq_false_iff_ne, ne_eq]
    intro e
    have : n = m := by omega
    subst this
    rw [h] at hm
    cases hm
  exact ⟨h2 32 (by decide), h2 9 (by decide), h2 10 (by decide), h2 13 (by decide)⟩
theorem ext2_list (s : ByteArray) (n : Nat) : (s.extract n (n + 2)).toList = (s.data.toList.drop n).take 2 := by
  rw [ByteArray.toList_eq, ext_toList]
  simp
theorem dash_iff (l : List UInt8) : Lib.hasPrefix l [45, 45] = (l.take 2 == [45, 45]) := by
  match l with
  | [] => rfl
  | [a] => simp [Lib.hasPrefix, List.isPrefixOf]
  | a :: b :: r =>
    show ((45 == a) && ((45 == b) && true)) = ((a == 45) && ((b == 45) && true))
    rw [Bool.and_true, Bool.and_true, BEq.comm (a := 45), BEq.comm (a := 45) (b := b)]
theorem note_stop {l : List UInt8} {n k : Nat} (hk : n + k < l.length) (ha : ∀ j, j < k → (hj : n + j < l.length) → l[n + j] ≠ 10) (hs : l[n + k] = 10) : noteN (l.drop n) = k := by
  have hd : (l.drop n).length = l.length - n := by simp
  have key : ∀ (l : List UInt8) (k : Nat) (hk : k < l.length), (∀ j (hj : j < k), l[j]'(by omega) ≠ 10) → l[k] = 10 → noteN l = k := by
    intro l
    induction l with
    | nil => intro k hk; simp at hk
    | cons a r ih =>
      intro k hk ha hs
      unfold noteN
      rw [List.takeWhile_cons]
      cases k with
      | zero =>
        have : a = 10 := hs
        simp [this]
      | succ k =>
        have h0 : a ≠ 10 := ha 0 (by omega)
        have := ih k (by simpa using hk) (fun j hj => ha (j + 1) (by omega)) hs
        simp [h0]
        exact this
  exact key _ k (by omega) (fun j hj => by rw [List.getElem_drop]; exact ha j hj (by omega)) (by rw [List.getElem_drop]; exact hs)
theorem while_all {l : List UInt8} {f : UInt8 → Bool} (h : ∀ x ∈ l, f x = true) : l.takeWhile f = l := by
  induction l with
  | nil => rfl
  | cons a r ih => rw [List.takeWhile_cons, h a (by simp), ih (fun x hx => h x (by simp [hx]))]; rfl
theorem note_all {l : List UInt8} {n : Nat} (hn : n ≤ l.length) (ha : ∀ j, n + j < l.length → (hj : n + j < l.length) → l[n + j] ≠ 10) : noteN (l.drop n) = l.length - n := by
  unfold noteN
  rw [while_all]
  · simp
  · intro x hx
    obtain ⟨j, hj, rfl⟩ := List.mem_iff_getElem.1 hx
    rw [List.getElem_drop]
    simp at hj
    have := ha j (by omega) (by omega)
    simpa using this
set_option maxRecDepth 100000 in
set_option maxHeartbeats 4000000 in
theorem refBlank_any (s : ByteArray) (hs : s.size ≤ 1000000000) (w : World) : Calls Tryz.prog 49 #[.string s] w fun e w' => e = .returned (.int .i64 (blK 0 s.data.toList : Int)) ∧ w = w' := by
  have HN : Hid (∀ n, n ≤ s.size → blK 0 s.data.toList = n + blK 0 (s.data.toList.drop n) → stepB (s.data.toList.drop n) = none → blK 0 s.data.toList = n) := Lib.hid (fun n hn h h2 => by rw [h, bl_none h2]; omega)
  go_enter Tryz.func49, Tryz.ntmps49
  go_wp2
  go_loopw [3] (fun i wr => ∃ n : Nat, i = .int .i64 n ∧ n ≤ s.size ∧ Hid (wr = w) ∧ Hid (blK 0 s.data.toList = n + blK 0 (s.data.toList.drop n))) (fun i _ => s.size - (intOf i).toNat)
  case atStart => exact ⟨0, rfl, by omega, Lib.hid rfl, Lib.hid (by simp)⟩
  case round =>
    obtain ⟨n, rfl, hn, HW, HB⟩ := hrel
    obtain rfl := HW.out
    clear HW
    by_cases hlt : n < s.size
    · have hi1 : (n : Int) < (s.size : Int) := by omega
      have hc := drop_at hlt
      obtain ⟨m, hm⟩ : ∃ m, s[n].toNat = m := ⟨_, rfl⟩
      have hU : s[n] = UInt8.ofNat m := by rw [← hm]; simp
      have hm256 : m < 256 := by rw [← hm]; exact UInt8.toNat_lt _
      rw [hU] at hc
      cases hbl : blankB (UInt8.ofNat m) with
      | true =>
        have HB2 : Hid (blK 0 s.data.toList = (n + 1) + blK 0 (s.data.toList.drop (n + 1))) := Lib.hid (by
          have h1 : stepB (s.data.toList.drop n) = some 1 := by rw [hc, stepB, if_pos hbl]
          rw [HB.out, bl_some h1, List.drop_drop]
          omega)
        have hcs := blank_cases hm256 hbl
        clear hbl hc hU HB HN
        rcases hcs with rfl | rfl | rfl | rfl
        all_goals
          go_wp2
          go_roundw
          case rel => exact ⟨n + 1, by go_num, by omega, (by first | exact Lib.hid rfl | exact Lib.hid trivial), HB2⟩
          case measure => simp [intOf]; omega
      | false =>
        obtain ⟨n1, n2, n3, n4⟩ := blank_not hbl
        cases hd : Lib.hasPrefix (s.data.toList.drop n) [45, 45] with
        | true =>
          have hl2 : ((s.data.toList.drop n).take 2).length = 2 := by
            rw [dash_iff] at hd
            rw [eq_of_beq hd]
            rfl
          simp at hl2
          have hlen : (n : Int) + 1 < (s.size : Int) := by omega
          have hlen2 : (n : Int) + 2 ≤ (s.size : Int) := by omega
          have he : ((s.extract n (n + 2)).toList == [45, 45]) = true := by rw [ext2_list, ← dash_iff]; exact hd
          have HSt : Hid (stepB (s.data.toList.drop n) = some (noteN (s.data.toList.drop n))) := Lib.hid (by
            rw [hc] at hd ⊢
            rw [stepB, hbl, hd]
            rfl)
          have HPos := Lib.hid (stepB_pos HSt.out)
          clear hl2 hbl hd hc hU HN
          go_wp2
          go_loopw [3] (fun i wr2 => ∃ k : Nat, i = .int .i64 ((n + k : Nat) : Int) ∧ n + k ≤ s.size ∧ Hid (wr2 = wr) ∧ Hid (∀ j, j < k → (hj : n + j < s.data.toList.length) → s.data.toList[n + j] ≠ 10)) (fun i _ => s.size - (intOf i).toNat)
          case atStart => exact ⟨0, rfl, hn, Lib.hid rfl, Lib.hid (fun j hj => by omega)⟩
          case round =>
            obtain ⟨k, rfl, hk, HW2, HA⟩ := hrel
            obtain rfl := HW2.out
            clear HW2
            have HFin : Hid (noteN (s.data.toList.drop n) = k → blK 0 s.data.toList = (n + k) + blK 0 (s.data.toList.drop (n + k)) ∧ 1 ≤ k) := Lib.hid (fun h => by
              have h1 := HSt.out
              have h2 := HPos.out
              rw [h] at h1 h2
              refine ⟨?_, h2⟩
              rw [HB.out, bl_some h1, List.drop_drop]
              omega)
            obtain ⟨q, hq⟩ : ∃ q, n + k = q := ⟨_, rfl⟩
            rw [hq] at hk ⊢
            have HQ := Lib.hid hq
            clear hq
            by_cases hlt2 : q < s.size
            · have hi2 : (q : Int) < (s.size : Int) := by omega
              obtain ⟨m2, hm2⟩ : ∃ m, s[q].toNat = m := ⟨_, rfl⟩
              have hU2 : s[q] = UInt8.ofNat m2 := by rw [← hm2]; simp
              have hm2b : m2 < 256 := by rw [← hm2]; exact UInt8.toNat_lt _
              by_cases h10 : m2 = 10
              · subst h10
                have HE := Lib.hid (HFin.out (note_stop (by have := HQ.out; simpa [this] using hlt2) (fun j hj hjl => HA.out j hj hjl) (by simp only [HQ.out]; exact hU2)))
                have hk1 := HE.out.2
                clear hU2 HA HFin
                go_wp2
                go_roundw
                case rel => exact ⟨q, by go_num, by omega, (by first | exact Lib.hid rfl | exact Lib.hid trivial), Lib.hid (by have := HE.out.1; rwa [HQ.out] at this)⟩
                case measure => have := HQ.out; simp [intOf]; omega
              · have h10b : ((m2 : Int) != 10) = true := by simp; omega
                have HA2 : Hid (∀ j, j < k + 1 → (hj : n + j < s.data.toList.length) → s.data.toList[n + j] ≠ 10) := Lib.hid (fun j hj hjl => by
                  by_cases e : j = k
                  · subst e
                    simp only [HQ.out]
                    intro h
                    have h2 : s[q] = 10 := h
                    rw [hU2] at h2
                    have := congrArg UInt8.toNat h2
                    simp at this
                    omega
                  · exact HA.out j (by omega) hjl)
                clear hU2 HA HFin
                go_wp2
                go_roundw
                case rel => exact ⟨k + 1, by have := HQ.out; go_num, by have := HQ.out; omega, (by first | exact Lib.hid rfl | exact Lib.hid trivial), HA2⟩
                case measure => simp [intOf]; omega
            · have hqs : q = s.size := by omega
              have HE := Lib.hid (HFin.out (by
                have := note_all (l := s.data.toList) (n := n) (by simp; omega) (fun j hj hjl => HA.out j (by have := HQ.out; simp at hj; omega) hjl)
                rw [this]
                have := HQ.out
                simp
                omega))
              have hk1 := HE.out.2
              clear HA HFin
              subst hqs
              go_wp2
              go_roundw
              case rel => exact ⟨s.size, by go_num, by omega, (by first | exact Lib.hid rfl | exact Lib.hid trivial), Lib.hid (by have := HE.out.1; rwa [HQ.out] at this)⟩
              case measure => have := HQ.out; simp [intOf]; omega
        | false =>
          have hR := HN.out n hn HB.out (by rw [hc, stepB, hbl, ← hc, hd]; rfl)
          have he : ¬ ((n : Int) + 1 < (s.size : Int)) ∨ ((n : Int) + 1 < (s.size : Int) ∧ (n : Int) + 2 ≤ (s.size : Int) ∧ ((s.extract n (n + 2)).toList == [45, 45]) = false) := by
            by_cases h : n + 1 < s.size
            · refine .inr ⟨by omega, by omega, ?_⟩
              rw [ext2_list, ← dash_iff]
              exact hd
            · exact .inl (by omega)
          have HR := Lib.hid hR
          clear hR HN HB hbl hd hc hU
          rcases he with he | ⟨he, he2, he3⟩
          all_goals
            go_wp2
            go_ret
            rw [HR.out]
            exact ⟨rfl, rfl⟩
    · have hns : n = s.size := by omega
      have hR := HN.out n hn HB.out (by rw [List.drop_eq_nil_of_le (by simp; omega)]; rfl)
      have HR := Lib.hid hR
      clear hR HN HB
      subst hns
      go_wp2
      go_ret
      rw [HR.out]
      exact ⟨rfl, rfl⟩
end LexD
end Go.Proofs.YtmdkocegnbcgmaaGreatDoor
namespace Go.Proofs.YtmdkocegnbcgmaaGreatDoor
open Go.RowKit ObjM Go.Maps
namespace LexD

theorem step_call1 {P : Program} {ops : Array Oper} {o : Oper} {a : Act} {w : World} {K : Act → World → Prop} {Q : Exit → Act → World → Prop} {E : Prop}
    (hg : o.guard = none) (n : Nat) (x : Operand) (t : TypeId) (hop : o.op = Op.call { callee := Callee.value (Operand.func n), args := #[x], argTypes := #[t] })
    (V v : Value) (hx : a.eval x = V) (hcf : (callFunc n #[V]).run P w = .ok (.enter n #[V]) w) (hc : Calls P n #[V] w fun e w' => e = .returned v ∧ w = w') (hK : K (a.put o.dst v) w) :
    if Region.wanted o (yielded ops a.tmps) = true then Oper.wp P o a w K Q else E := by
  have hw : Region.wanted o (yielded ops a.tmps) = true := by simp [Region.wanted, hg]
  rw [if_pos hw]
  unfold Oper.wp
  have hrun : (execOp a.eval o).run P w = .ok (.enter n #[V]) w := by
    have hf : a.eval (Operand.func n) = .func (.func n) #[] #[] := rfl
    simp [execOp, hop, resolve, invoke, hx, hf, Deferred.ofValue]
    exact hcf
  rw [hrun]
  refine Calls.mono hc fun e w' he => ?_
  obtain ⟨rfl, rfl⟩ := he
  exact hK
theorem own_sl {w : World} {base : Nat} {e : TypeId} {size : Nat} {v : Value} {n : Nat} {xs : List Value} (h : w.ownsRow base e size v n xs) : ∃ a cap, v = .slice a n cap := by
  rcases h.2 with ⟨rfl, rfl⟩ | ⟨g, cap, cur, rfl, _⟩
  · exact ⟨none, 0, rfl⟩
  · exact ⟨_, _, rfl⟩
theorem conv_own {w : World} {B : Nat} {v : Value} {l : List UInt8} (h : w.ownsRow B 5 1 v l.length (Lib.byteCells l)) :
    (convert 104 9 v).run Tryz.prog w = .ok (.string (bytes l)) w := by
  rcases h.2 with ⟨rfl, h0⟩ | ⟨g, cap, cur, rfl, _⟩
  · have : l = [] := List.length_eq_zero_iff.1 h0
    subst this
    rw [run_convert_bytes_string w _ _ 5 none 0 0 Tryz.underlying104 Tryz.underlying5 Tryz.underlying9]
    rfl
  · have hc : ∀ j (hj : j < l.length), w.cell? ((⟨g, 0, none⟩ : Addr).add j) = some (.int .u8 (l[j].toNat : Int)) := fun j hj => by
      have h2 := own_cell h j (by simpa [Lib.byteCells] using hj)
      rw [TraceD.addr_add, Nat.zero_add, h2]
      simp [Lib.byteCells]
    exact run_convert_bytes_back w _ _ 5 ⟨g, 0, none⟩ cap l Tryz.underlying104 Tryz.underlying5 Tryz.underlying9 hc
/-- What the document's reader of strings comes to. -/
inductive TextIs (w : World) (s : ByteArray) : Ending → World → Prop
  | yes (x : List UInt8) (n : Nat) (w' : World) : bodyK 0 (s.data.toList.drop 1) = some (x, n) → Below w.heap.size w w' → TextIs w s (.returned (.tuple #[.string (bytes x), .int .i64 ((n : Int) + 1), .bool true])) w'
  | no (w' : World) : bodyK 0 (s.data.toList.drop 1) = none → Below w.heap.size w w' → TextIs w s (.returned (.tuple #[.string ⟨#[]⟩, .int .i64 0, .bool false])) w'
theorem TextIs.no' {w w' : World} {s : ByteArray} {j : Nat} {acc : List UInt8} {c : UInt8} {r : List UInt8} (h : BodyAt s.data.toList 0 j acc) (e : s.data.toList.drop (0 + 1 + j) = c :: r) (hc : c ≠ 34) (h2 : pieceV (c :: r) = none) (hb : Below w.heap.size w w') : TextIs w s (.returned (.tuple #[.string ⟨#[]⟩, .int .i64 0, .bool false])) w' :=
  .no _ (h.no (by rw [e]; exact body_none rfl hc h2)) hb
theorem infoByte2 : (Tryz.prog.info? 5).map (fun i => (i.zero, i.size, i.bytes)) = some (some (.int .u8 0), 1, 1) := by kernel_rfl
theorem cells_snoc (acc : List UInt8) (b : UInt8) (n : Int) (h : n = (b.toNat : Int)) : Lib.byteCells acc ++ [.int .u8 n] = Lib.byteCells (acc ++ [b]) := by
  subst h
  simp [Lib.byteCells]
theorem ofNat_ne {d : Nat} (hd : d < 256) {k : Nat} (hk : k < 256) (h : d ≠ k) : ¬ UInt8.ofNat d = UInt8.ofNat k := fun e => by
  have := congrArg UInt8.toNat e
  simp at this
  omega
set_option maxRecDepth 100000 in
set_option maxHeartbeats 8000000 in
theorem refText_any (s : ByteArray) (h0 : 0 < s.size) (hs : s.size ≤ 1000000) (w : World) : Calls Tryz.prog 81 #[.string s] w (TextIs w s) := by
  obtain ⟨i0, hi, hz0, hz1, hz2⟩ := info_parts infoByte2
  have HIf := Lib.hid (⟨hi, hz0, hz1, hz2⟩ : _ ∧ _ ∧ _ ∧ _)
  have HDg := fun (r : Int) (h1 : 0 ≤ r) (h2 : r ≤ 255) W => Lib.hid (NumD.refDigit_any r h1 h2 W)
  clear hi hz0 hz1 hz2
  go_enter Tryz.func81, Tryz.ntmps81
  go_wp2
  go_loopw [5, 6] (fun o i wr => ∃ (q j : Nat) (acc : List UInt8), i = .int .i64 (q : Int) ∧ q = 0 + 1 + j ∧ q ≤ s.size ∧ acc.length ≤ j ∧ Below w.heap.size w wr ∧ Hid (wr.ownsRow w.heap.size 5 1 o acc.length (Lib.byteCells acc)) ∧ Hid (BodyAt s.data.toList 0 j acc)) (fun _ i _ => s.size - (intOf i).toNat)
  case atStart => exact ⟨1, 0, [], rfl, rfl, by omega, by simp, Below.refl _ _, Lib.hid (World.ownsRow_nil _ _ _ _), Lib.hid (BodyAt.zero s.data.toList 0)⟩
  case round =>
    obtain ⟨q, j, acc, rfl, hqj, hq, hacc, hBr, HO, HA⟩ := hrel
    have HQ := Lib.hid hqj
    have HBr := Lib.hid hBr
    have hszr := hBr.size
    have hjs : acc.length ≤ 1000000 := by omega
    clear hBr
    by_cases hlt : q < s.size
    · have hi1 : (q : Int) < (s.size : Int) := by omega
      have hcq0 := drop_at hlt
      have hcq : s.data.toList.drop (0 + 1 + j) = s[q] :: s.data.toList.drop (q + 1) := by rw [← hqj]; exact hcq0
      obtain ⟨m, hm⟩ : ∃ n, s[q].toNat = n := ⟨_, rfl⟩
      have hU : s[q] = UInt8.ofNat m := by rw [← hm]; simp
      have hm256 : m < 256 := by rw [← hm]; exact UInt8.toNat_lt _
      rw [hU] at hcq
      have HC := Lib.hid hcq
      clear hcq0 hcq hU hqj
      by_cases h34 : m = 34
      · subst h34
        have HY := Lib.hid (HA.out.yes HC.out rfl)
        have HCv := Lib.hid (conv_own HO.out)
        obtain ⟨av, cv, rfl⟩ := own_sl HO.out
        have hcv := HCv.out
        clear HA HC HDg HIf
        go_wp2
        go_ret3
        have he : (q : Int) + 1 = (((j + 1 : Nat) : Int)) + 1 := by have := HQ.out; omega
        rw [he]
        exact .yes acc (j + 1) _ HY.out HBr.out
      · have h34b : ((m : Int) == 34) = false := by simp; omega
        have hne34 : UInt8.ofNat m ≠ 34 := ofNat_ne hm256 (k := 34) (by omega) h34
        by_cases hbad : m < 32 ∨ 126 < m
        · have HX := fun W (hb : Below w.heap.size w W) => Lib.hid (TextIs.no' HA.out HC.out hne34 (piece_bad (by rw [UInt8.toNat_ofNat']; omega)) hb)
          have hbad2 : ((m : Int) < 32) ∨ (¬ ((m : Int) < 32) ∧ (126 : Int) < (m : Int)) := by omega
          clear hbad HA HC HDg HIf hne34
          rcases hbad2 with hb1 | ⟨hb1, hb2⟩
          all_goals
            go_wp2
            go_ret3
            exact (HX _ HBr.out).out
        · have hb1 : ¬ ((m : Int) < 32) := by omega
          have hb2 : ¬ (126 : Int) < (m : Int) := by omega
          by_cases h92 : m = 92
          · subst h92
            -- BACKSLASH
            by_cases hl1 : q + 1 < s.size
            · have hi2 : (q : Int) + 1 < (s.size : Int) := by omega
              have hcd := drop_at hl1
              obtain ⟨d, hd⟩ : ∃ n, s[q + 1].toNat = n := ⟨_, rfl⟩
              have hdU : s[q + 1] = UInt8.ofNat d := by rw [← hd]; simp
              have hd256 : d < 256 := by rw [← hd]; exact UInt8.toNat_lt _
              rw [hdU] at hcd
              have HC2 : Hid (s.data.toList.drop (0 + 1 + j) = 92 :: UInt8.ofNat d :: s.data.toList.drop (q + 1 + 1)) := Lib.hid (by rw [HC.out, hcd]; rfl)
              clear hcd hdU
              by_cases d1 : d = 110
              · subst d1
                have HStep := Lib.hid (HA.out.step HC.out hne34 (b := 10) (n := 2) (by rw [HC2.out]; exact piece_n))
                clear HA HC HC2 HDg hne34
                obtain ⟨hi, hz0, hz1, hz2⟩ := HIf.out
                go_wp2_with (at_builtin; refine wpList_append_own _ rfl _ _ 104 rfl w.heap.size 5 i0 (.int .u8 0) 1 1 Tryz.underlying104 hi hz0 hz1 hz2 rfl (by decide) _ _ _ rfl (HO.out.alloc _) ⟨wr.heap.size, 0, none⟩ 1 1 [.int .u8 10] rfl rfl (fun j u h => TraceD.one_cell wr 5 _ j u h) (by simp [Value.oneCell']) ?c3 ?c4 ?c5 ?_)
                case c3 => unfold maxLen; omega
                case c4 => omega
                case c5 => first | omega | (simp; omega)
                intro v' w2 hown' hgrow _
                have HO2 : Hid (w2.ownsRow w.heap.size 5 1 v' (acc ++ [10]).length (Lib.byteCells (acc ++ [10]))) := Lib.hid (by
                  rw [← cells_snoc acc (10) 10 (by rfl), List.length_append]
                  exact hown')
                have HB2 : Hid (Below w.heap.size w w2) := Lib.hid ((HBr.out.alloc hszr _).grown hgrow (by simp; omega) (fun k hk => (HO.out.lt k hk).1))
                obtain ⟨av, cv, rfl⟩ := own_sl HO2.out
                clear hown' hgrow hi hz0 hz1 hz2 HIf
                go_wp2
                go_roundw
                case rel => exact ⟨q + 2, j + 2, acc ++ [10], by go_num, by have := HQ.out; omega, by omega, by simp; omega, HB2.out, HO2, HStep⟩
                case measure => simp [intOf]; omega
              have d1b : ((d : Int) == 110) = false := by simp; omega
              by_cases d2 : d = 92 ∨ d = 34
              · have HStep := Lib.hid (HA.out.step HC.out hne34 (b := UInt8.ofNat d) (n := 2) (by rw [HC2.out]; exact piece_q (by rcases d2 with rfl | rfl; exact .inl rfl; exact .inr rfl)))
                have hdn : (d : Int) = ((UInt8.ofNat d).toNat : Int) := by rw [UInt8.toNat_ofNat']; omega
                have HDn := Lib.hid hdn
                have d2b : (((d : Int) == 92) = true) ∨ (((d : Int) == 92) = false ∧ ((d : Int) == 34) = true) := by rcases d2 with rfl | rfl <;> simp
                clear HA HC HC2 HDg hne34 d1 d2 hdn
                rcases d2b with d3 | ⟨d3, d4⟩
                all_goals
                  obtain ⟨hi, hz0, hz1, hz2⟩ := HIf.out
                  go_wp2_with (at_builtin; refine wpList_append_own _ rfl _ _ 104 rfl w.heap.size 5 i0 (.int .u8 0) 1 1 Tryz.underlying104 hi hz0 hz1 hz2 rfl (by decide) _ _ _ rfl (HO.out.alloc _) ⟨wr.heap.size, 0, none⟩ 1 1 [.int .u8 (d : Int)] rfl rfl (fun j u h => TraceD.one_cell wr 5 _ j u h) (by simp [Value.oneCell']) ?c3 ?c4 ?c5 ?_)
                  case c3 => unfold maxLen; omega
                  case c4 => omega
                  case c5 => first | omega | (simp; omega)
                  intro v' w2 hown' hgrow _
                  have HO2 : Hid (w2.ownsRow w.heap.size 5 1 v' (acc ++ [UInt8.ofNat d]).length (Lib.byteCells (acc ++ [UInt8.ofNat d]))) := Lib.hid (by
                    rw [← cells_snoc acc (UInt8.ofNat d) (d : Int) HDn.out, List.length_append]
                    exact hown')
                  have HB2 : Hid (Below w.heap.size w w2) := Lib.hid ((HBr.out.alloc hszr _).grown hgrow (by simp; omega) (fun k hk => (HO.out.lt k hk).1))
                  obtain ⟨av, cv, rfl⟩ := own_sl HO2.out
                  clear hown' hgrow hi hz0 hz1 hz2 HIf
                  go_wp2
                  go_roundw
                  case rel => exact ⟨q + 2, j + 2, acc ++ [UInt8.ofNat d], by go_num, by have := HQ.out; omega, by omega, by simp; omega, HB2.out, HO2, HStep⟩
                  case measure => simp [intOf]; omega
              have d3 : ((d : Int) == 92) = false := by simp; omega
              have d4 : ((d : Int) == 34) = false := by simp; omega
              have d2c : ¬ (UInt8.ofNat d = 92 ∨ UInt8.ofNat d = 34) := fun h => by
                rcases h with h | h
                · exact ofNat_ne hd256 (k := 92) (by omega) (fun e => d2 (.inl e)) h
                · exact ofNat_ne hd256 (k := 34) (by omega) (fun e => d2 (.inr e)) h
              by_cases d5 : d = 120
              · subst d5
                by_cases hl3 : q + 3 < s.size
                · have hi3 : (q : Int) + 2 < (s.size : Int) := by omega
                  have hi4 : (q : Int) + 3 < (s.size : Int) := by omega
                  have e2 := drop_at (s := s) (p := q + 1 + 1) (by omega)
                  have e3 := drop_at (s := s) (p := q + 1 + 1 + 1) (by omega)
                  have hxa : s[q + 1 + 1]'(by omega) = s[q + 2]'(by omega) := rfl
                  have hxb : s[q + 1 + 1 + 1]'(by omega) = s[q + 3]'(by omega) := rfl
                  rw [hxa] at e2
                  rw [hxb] at e3
                  obtain ⟨a, ha⟩ : ∃ n, (s[q + 2]'(by omega)).toNat = n := ⟨_, rfl⟩
                  obtain ⟨b, hb⟩ : ∃ n, (s[q + 3]'(by omega)).toNat = n := ⟨_, rfl⟩
                  have haU : s[q + 2]'(by omega) = UInt8.ofNat a := by rw [← ha]; simp
                  have hbU : s[q + 3]'(by omega) = UInt8.ofNat b := by rw [← hb]; simp
                  have ha256 : a < 256 := by rw [← ha]; exact UInt8.toNat_lt _
                  have hb256 : b < 256 := by rw [← hb]; exact UInt8.toNat_lt _
                  rw [haU] at e2
                  rw [hbU] at e3
                  have HC4 : Hid (s.data.toList.drop (0 + 1 + j) = 92 :: 120 :: UInt8.ofNat a :: UInt8.ofNat b :: s.data.toList.drop (q + 1 + 1 + 1 + 1)) := Lib.hid (by rw [HC2.out, e2, e3]; rfl)
                  have hax : (UInt8.ofNat a).toNat = a := by rw [UInt8.toNat_ofNat']; omega
                  have hbx : (UInt8.ofNat b).toNat = b := by rw [UInt8.toNat_ofNat']; omega
                  have HPx := Lib.hid (piece_x (a := UInt8.ofNat a) (b := UInt8.ofNat b) (q := s.data.toList.drop (q + 1 + 1 + 1 + 1)))
                  rw [hax, hbx] at HPx
                  have hal := NumM.digV_lo (a : Int)
                  have hbl := NumM.digV_lo (b : Int)
                  have HDa := fun W => HDg (a : Int) (by omega) (by omega) W
                  have HDb := fun W => HDg (b : Int) (by omega) (by omega) W
                  obtain ⟨x, ex⟩ : ∃ x, NumM.digV (a : Int) = x := ⟨_, rfl⟩
                  obtain ⟨y, ey⟩ : ∃ x, NumM.digV (b : Int) = x := ⟨_, rfl⟩
                  rw [ex] at hal HPx HDa
                  rw [ey] at hbl HPx HDb
                  clear e2 e3 hxa hxb haU hbU hax hbx ex ey HDg HC2
                  by_cases hx : x ≤ 15 ∧ y ≤ 15
                  · have HP4 : Hid (pieceV (s.data.toList.drop (0 + 1 + j)) = some (UInt8.ofNat (16 * x + y).toNat, 4)) := Lib.hid (by rw [HC4.out, HPx.out, if_pos hx])
                    have HStep := Lib.hid (HA.out.step HC.out hne34 HP4.out)
                    have hx16 : x < 16 := by omega
                    have hy16 : y < 16 := by omega
                    have hw1 : IntKind.i64.wrap (16 * x) = 16 * x := by rw [IntKind.wrap_i64]; omega
                    have hw2 : IntKind.i64.wrap (16 * x + y) = 16 * x + y := by rw [IntKind.wrap_i64]; omega
                    have hw3 : IntKind.u8.wrap (16 * x + y) = 16 * x + y := by rw [IntKind.wrap_u8]; omega
                    have hdn : 16 * x + y = ((UInt8.ofNat (16 * x + y).toNat).toNat : Int) := by rw [UInt8.toNat_ofNat']; omega
                    have HDn := Lib.hid hdn
                    clear HA HC HC4 hne34 HPx HP4 hdn hx d1b d3 d4 d2c
                    obtain ⟨hi, hz0, hz1, hz2⟩ := HIf.out
                    obtain ⟨av, cv, rfl⟩ := own_sl HO.out
                    obtain ⟨Z, hZ⟩ : ∃ Z, 16 * x + y = Z := ⟨_, rfl⟩
                    have hw4 : IntKind.i64.wrap ((q : Int) + 2) = (q : Int) + 2 := by rw [IntKind.wrap_i64]; omega
                    have hw5 : IntKind.i64.wrap ((q : Int) + 3) = (q : Int) + 3 := by rw [IntKind.wrap_i64]; omega
                    have hw6 : (0 : Int) ≤ (q : Int) + 2 := by omega
                    have hw7 : (0 : Int) ≤ (q : Int) + 3 := by omega
                    have hw8 : ((q : Int) + 2).toNat = q + 2 := by omega
                    have hw9 : ((q : Int) + 3).toNat = q + 3 := by omega
                    have hnew := (Has.new wr 5 [.int .u8 Z]).drew
                    have hown1 : ((wr.alloc (.cells #[.int .u8 Z] 5)).drew).ownsRow w.heap.size 5 1 (.slice av acc.length cv) acc.length (Lib.byteCells acc) := (HO.out.alloc _).drew
                    obtain ⟨v', w2, hrun, hown', hgrow, -⟩ := run_append_own (P := Tryz.prog) (w := (wr.alloc (.cells #[.int .u8 Z] 5)).drew) w.heap.size 104 104 5 i0 (.int .u8 0) 1 1 Tryz.underlying104 hi hz0 hz1 hz2 rfl (by decide) (.slice av acc.length cv) acc.length (Lib.byteCells acc) hown1 ⟨wr.heap.size, 0, none⟩ 1 1 [.int .u8 Z] rfl (by
                      intro k u hu
                      have e : (⟨wr.heap.size, 0, none⟩ : Addr).add k = ⟨wr.heap.size, k, none⟩ := by
                        unfold Addr.add
                        split
                        · rename_i h; subst h; rfl
                        · simp
                      rw [e, hnew.cell]
                      exact hu) (by simp [Value.oneCell']) (by unfold maxLen; omega) (by omega) (by first | omega | (simp; omega))
                    have HO2 : Hid (w2.ownsRow w.heap.size 5 1 v' (acc ++ [UInt8.ofNat (16 * x + y).toNat]).length (Lib.byteCells (acc ++ [UInt8.ofNat (16 * x + y).toNat]))) := Lib.hid (by
                      rw [← cells_snoc acc (UInt8.ofNat (16 * x + y).toNat) (16 * x + y) HDn.out, List.length_append, hZ]
                      exact hown')
                    have HB2 : Hid (Below w.heap.size w w2) := Lib.hid (((HBr.out.alloc hszr _).drew).grown hgrow (by simp; omega) (fun k hk => (hown1.lt k hk).1))
                    rw [hZ] at hw2 hw3
                    obtain ⟨av2, cv2, rfl⟩ := own_sl HO2.out
                    clear hown' hgrow hi hz0 hz1 hz2 HIf hnew hown1 HO HDn
                    go_wp2_with fail
                    refine ((HDa _).out).mono ?_
                    rintro e w1 ⟨rfl, rfl⟩
                    go_wp2_with fail
                    refine ((HDb _).out).mono ?_
                    rintro e w1 ⟨rfl, rfl⟩
                    go_wp2
                    refine wp_region_any (by kernel_rfl) ?_
                    change wpAny _ _ _ _ _ _ _ (World.drew _)
                    refine wpAny_take (i := 0) (oi := { dst := some 114, op := _, type := _, pos := _, after := _, guard := _ }) (v := .slice av acc.length cv) rfl (by kernel_rfl) (by kernel_rfl) (by kernel_rfl) (fun _ _ _ h => h) (Or.inl ⟨by rfl, ?_⟩) ?_
                    · intro w; go_simp
                    simp only [Act.put, List.setIfInBounds_toArray, List.set_cons_zero, List.set_cons_succ]
                    refine wpAny_take (i := 1) (oi := { dst := some 115, op := _, type := _, pos := _, after := _, guard := _ }) (v := .string s) rfl (by kernel_rfl) (by kernel_rfl) (by kernel_rfl) (fun _ _ _ h => h) (Or.inl ⟨by rfl, ?_⟩) ?_
                    · intro w; go_simp
                    simp only [Act.put, List.setIfInBounds_toArray, List.set_cons_zero, List.set_cons_succ]
                    refine wpAny_take (i := 2) (oi := { dst := some 116, op := _, type := _, pos := _, after := _, guard := _ }) (v := .int .i64 (q : Int)) rfl (by kernel_rfl) (by kernel_rfl) (by kernel_rfl) (fun _ _ _ h => h) (Or.inl ⟨by rfl, ?_⟩) ?_
                    · intro w; go_simp
                    simp only [Act.put, List.setIfInBounds_toArray, List.set_cons_zero, List.set_cons_succ]
                    refine wpAny_take (i := 3) (oi := { dst := some 117, op := _, type := _, pos := _, after := _, guard := _ }) (v := .int .i64 ((q : Int) + 2)) rfl (by kernel_rfl) (by kernel_rfl) (by kernel_rfl) (fun _ _ _ h => h) (Or.inl ⟨by rfl, ?_⟩) ?_
                    · intro w; go_simp
                    simp only [Act.put, List.setIfInBounds_toArray, List.set_cons_zero, List.set_cons_succ]
                    refine wpAny_take (i := 4) (oi := { dst := some 118, op := _, type := _, pos := _, after := _, guard := _ }) (v := .int .u8 (a : Int)) rfl (by kernel_rfl) (by kernel_rfl) (by kernel_rfl) (fun _ _ _ h => h) (Or.inl ⟨by rfl, ?_⟩) ?_
                    · intro w; go_simp
                    simp only [Act.put, List.setIfInBounds_toArray, List.set_cons_zero, List.set_cons_succ]
                    refine wpAny_take (i := 7) (oi := { dst := some 121, op := _, type := _, pos := _, after := _, guard := _ }) (v := .string s) rfl (by kernel_rfl) (by kernel_rfl) (by kernel_rfl) (fun _ _ _ h => h) (Or.inl ⟨by rfl, ?_⟩) ?_
                    · intro w; go_simp
                    simp only [Act.put, List.setIfInBounds_toArray, List.set_cons_zero, List.set_cons_succ]
                    refine wpAny_take (i := 8) (oi := { dst := some 122, op := _, type := _, pos := _, after := _, guard := _ }) (v := .int .i64 (q : Int)) rfl (by kernel_rfl) (by kernel_rfl) (by kernel_rfl) (fun _ _ _ h => h) (Or.inl ⟨by rfl, ?_⟩) ?_
                    · intro w; go_simp
                    simp only [Act.put, List.setIfInBounds_toArray, List.set_cons_zero, List.set_cons_succ]
                    refine wpAny_take (i := 9) (oi := { dst := some 123, op := _, type := _, pos := _, after := _, guard := _ }) (v := .int .i64 ((q : Int) + 3)) rfl (by kernel_rfl) (by kernel_rfl) (by kernel_rfl) (fun _ _ _ h => h) (Or.inl ⟨by rfl, ?_⟩) ?_
                    · intro w; go_simp
                    simp only [Act.put, List.setIfInBounds_toArray, List.set_cons_zero, List.set_cons_succ]
                    refine wpAny_take (i := 10) (oi := { dst := some 124, op := _, type := _, pos := _, after := _, guard := _ }) (v := .int .u8 (b : Int)) rfl (by kernel_rfl) (by kernel_rfl) (by kernel_rfl) (fun _ _ _ h => h) (Or.inl ⟨by rfl, ?_⟩) ?_
                    · intro w; go_simp
                    simp only [Act.put, List.setIfInBounds_toArray, List.set_cons_zero, List.set_cons_succ]
                    refine wpAny_ready (rs := [5]) (by kernel_rfl) (by simp) ?_
                    refine AllReady.cons (o := { dst := some 119, op := Op.call { callee := Callee.value (Operand.func 78), args := #[Operand.tmp 118], argTypes := #[5] }, type := _, pos := _, after := _, guard := _ }) rfl (fun K hK => ?_) AllReady.nil
                    refine step_call1 rfl 78 (.tmp 118) 5 rfl (.int .u8 (a : Int)) (.int .i64 x) rfl (by kernel_rfl) ((HDa _).out) ?_
                    refine hK _ _ ?_
                    clear hK K
                    simp only [Act.put, List.setIfInBounds_toArray, List.set_cons_zero, List.set_cons_succ]
                    refine wpAny_take (i := 6) (oi := { dst := some 120, op := _, type := _, pos := _, after := _, guard := _ }) (v := .int .i64 (16 * x)) rfl (by kernel_rfl) (by kernel_rfl) (by kernel_rfl) (fun _ _ _ h => h) (Or.inl ⟨by rfl, ?_⟩) ?_
                    · intro w; go_simp
                    simp only [Act.put, List.setIfInBounds_toArray, List.set_cons_zero, List.set_cons_succ]
                    refine wpAny_ready (rs := [11]) (by kernel_rfl) (by simp) ?_
                    refine AllReady.cons (o := { dst := some 125, op := Op.call { callee := Callee.value (Operand.func 78), args := #[Operand.tmp 124], argTypes := #[5] }, type := _, pos := _, after := _, guard := _ }) rfl (fun K hK => ?_) AllReady.nil
                    refine step_call1 rfl 78 (.tmp 124) 5 rfl (.int .u8 (b : Int)) (.int .i64 y) rfl (by kernel_rfl) ((HDb _).out) ?_
                    refine hK _ _ ?_
                    clear hK K
                    simp only [Act.put, List.setIfInBounds_toArray, List.set_cons_zero, List.set_cons_succ]
                    refine wpAny_take (i := 12) (oi := { dst := some 126, op := _, type := _, pos := _, after := _, guard := _ }) (v := .int .i64 Z) rfl (by kernel_rfl) (by kernel_rfl) (by kernel_rfl) (fun _ _ _ h => h) (Or.inl ⟨by rfl, ?_⟩) ?_
                    · intro w; go_simp
                    simp only [Act.put, List.setIfInBounds_toArray, List.set_cons_zero, List.set_cons_succ]
                    refine wpAny_take (i := 13) (oi := { dst := some 127, op := _, type := _, pos := _, after := _, guard := _ }) (v := .int .u8 Z) rfl (by kernel_rfl) (by kernel_rfl) (by kernel_rfl) (fun _ _ _ h => h) (Or.inl ⟨by rfl, ?_⟩) ?_
                    · intro w; go_simp
                    simp only [Act.put, List.setIfInBounds_toArray, List.set_cons_zero, List.set_cons_succ]
                    refine wpAny_ready (rs := [14]) (by kernel_rfl) (by simp) ?_
                    refine AllReady.cons (o := { dst := some 128, op := _, type := _, pos := _, after := _, guard := _ }) rfl (fun K hK => ?_) AllReady.nil
                    go_simp
                    refine hK _ _ ?_
                    clear hK K
                    refine wpAny_ready (rs := [15]) (by kernel_rfl) (by simp) ?_
                    refine AllReady.cons (o := { dst := some 129, op := _, type := _, pos := _, after := _, guard := _ }) rfl (fun K hK => ?_) AllReady.nil
                    refine step_append_own rfl (.tmp 114) (.tmp 128) 104 rfl _ _ _ _ rfl rfl hrun ?_
                    refine hK _ _ ?_
                    clear hK K
                    simp only [Act.put, List.setIfInBounds_toArray, List.set_cons_zero, List.set_cons_succ]
                    refine wpAny_take (i := 16) (oi := { dst := some 5, op := _, type := _, pos := _, after := _, guard := _ }) (v := .slice av2 (acc ++ [UInt8.ofNat (16 * x + y).toNat]).length cv2) rfl (by kernel_rfl) (by kernel_rfl) (by kernel_rfl) (fun _ _ _ h => h) (Or.inl ⟨by rfl, ?_⟩) ?_
                    · intro w; go_simp
                    simp only [Act.put, List.setIfInBounds_toArray, List.set_cons_zero, List.set_cons_succ]
                    refine wpAny_done (by kernel_rfl) ?_ _
                    go_wp2
                    go_roundw
                    case rel => exact ⟨q + 4, j + 4, acc ++ [UInt8.ofNat (16 * x + y).toNat], by go_num, by have := HQ.out; omega, by omega, by simp; omega, HB2.out, Lib.hid (by have h9 := HO2.out; simp only [List.length_append, List.length_singleton] at h9 ⊢; exact h9), HStep⟩
                    case measure => simp [intOf]; omega
                  · have HX := fun W (hb : Below w.heap.size w W) => Lib.hid (TextIs.no' HA.out HC.out hne34 (by rw [← HC.out, HC4.out, HPx.out, if_neg hx]) hb)
                    have hx2 : ¬ x < 16 ∨ (x < 16 ∧ ¬ y < 16) := by omega
                    clear HA HC HC4 hne34 HPx hx
                    rcases hx2 with hx2 | ⟨hx2, hy2⟩
                    · go_wp2_with fail
                      refine ((HDa _).out).mono ?_
                      rintro e w1 ⟨rfl, rfl⟩
                      go_wp2
                      go_ret3
                      exact (HX _ HBr.out).out
                    · go_wp2_with fail
                      refine ((HDa _).out).mono ?_
                      rintro e w1 ⟨rfl, rfl⟩
                      go_wp2_with fail
                      refine ((HDb _).out).mono ?_
                      rintro e w1 ⟨rfl, rfl⟩
                      go_wp2
                      go_ret3
                      exact (HX _ HBr.out).out
                · have hi3 : ¬ (q : Int) + 3 < (s.size : Int) := by omega
                  have HX := fun W (hb : Below w.heap.size w W) => Lib.hid (TextIs.no' HA.out HC.out hne34 (by
                    rw [← HC.out, HC2.out]
                    exact piece_x_few (fun a b r e => by
                      have := congrArg List.length e
                      simp at this
                      omega)) hb)
                  clear HA HC HC2 hne34 HDg
                  go_wp2
                  go_ret3
                  exact (HX _ HBr.out).out
              · have d5b : ((d : Int) == 120) = false := by simp; omega
                have hi3 : ¬ (q : Int) + 3 < (s.size : Int) ∨ (q : Int) + 3 < (s.size : Int) := by omega
                have HX := fun W (hb : Below w.heap.size w W) => Lib.hid (TextIs.no' HA.out HC.out hne34 (by
                  rw [← HC.out, HC2.out]
                  exact piece_other (ofNat_ne hd256 (k := 110) (by omega) d1) d2c (ofNat_ne hd256 (k := 120) (by omega) d5)) hb)
                clear HA HC HC2 hne34 HDg
                rcases hi3 with hi3 | hi3
                all_goals
                  go_wp2
                  go_ret3
                  exact (HX _ HBr.out).out
            · have hi2 : ¬ (q : Int) + 1 < (s.size : Int) := by omega
              have hi3 : ¬ (q : Int) + 3 < (s.size : Int) := by omega
              have hqs : q + 1 = s.size := by omega
              have HX := fun W (hb : Below w.heap.size w W) => Lib.hid (TextIs.no' HA.out HC.out hne34 (by rw [hqs, List.drop_eq_nil_of_le (by simp)]; rfl) hb)
              clear HA HC hne34 HDg hqs
              go_wp2
              go_ret3
              exact (HX _ HBr.out).out
          · have h92b : ((m : Int) != 92) = true := by simp; omega
            have HStep := Lib.hid (HA.out.step HC.out hne34 (b := UInt8.ofNat m) (n := 1) (by rw [HC.out]; exact piece_self (by rw [UInt8.toNat_ofNat']; omega) (ofNat_ne hm256 (k := 92) (by omega) h92)))
            have hdn : (m : Int) = ((UInt8.ofNat m).toNat : Int) := by rw [UInt8.toNat_ofNat']; omega
            have HDn := Lib.hid hdn
            clear HA HC HDg hne34 hdn
            obtain ⟨hi, hz0, hz1, hz2⟩ := HIf.out
            go_wp2_with (at_builtin; refine wpList_append_own _ rfl _ _ 104 rfl w.heap.size 5 i0 (.int .u8 0) 1 1 Tryz.underlying104 hi hz0 hz1 hz2 rfl (by decide) _ _ _ rfl (HO.out.alloc _) ⟨wr.heap.size, 0, none⟩ 1 1 [.int .u8 (m : Int)] rfl rfl (fun j u h => TraceD.one_cell wr 5 _ j u h) (by simp [Value.oneCell']) ?c3 ?c4 ?c5 ?_)
            case c3 => unfold maxLen; omega
            case c4 => omega
            case c5 => first | omega | (simp; omega)
            intro v' w2 hown' hgrow _
            have HO2 : Hid (w2.ownsRow w.heap.size 5 1 v' (acc ++ [UInt8.ofNat m]).length (Lib.byteCells (acc ++ [UInt8.ofNat m]))) := Lib.hid (by
              rw [← cells_snoc acc (UInt8.ofNat m) (m : Int) HDn.out, List.length_append]
              exact hown')
            have HB2 : Hid (Below w.heap.size w w2) := Lib.hid ((HBr.out.alloc hszr _).grown hgrow (by simp; omega) (fun k hk => (HO.out.lt k hk).1))
            obtain ⟨av, cv, rfl⟩ := own_sl HO2.out
            clear hown' hgrow hi hz0 hz1 hz2 HIf
            go_wp2
            go_roundw
            case rel => exact ⟨q + 1, j + 1, acc ++ [UInt8.ofNat m], by go_num, by have := HQ.out; omega, by omega, by simp; omega, HB2.out, HO2, HStep⟩
            case measure => simp [intOf]; omega
    · have hqs : q = s.size := by omega
      have HX := Lib.hid (HA.out.no (by rw [← hqj, hqs, List.drop_eq_nil_of_le (by simp)]; rfl))
      have hlt2 : ¬ (q : Int) < (s.size : Int) := by omega
      clear hqs hqj HA HDg HIf
      go_wp2
      go_ret3
      exact .no _ HX.out HBr.out
end LexD
end Go.Proofs.YtmdkocegnbcgmaaGreatDoor
namespace Go.Proofs.YtmdkocegnbcgmaaGreatDoor
open Go.RowKit ObjM Go.Maps
namespace LexD

/-- A token told without its place. -/
def Tok.at0 (t : Tok) (p : Nat) (k : Nat) : Tok := ⟨t.kind, t.text, p, (p : Int) + (k : Int), t.n⟩
theorem tok_at (p : Nat) (l : List UInt8) : tokV p l = match tokV 0 l with | .ok (t, k) => .ok (t.at0 p k, k) | .error e => .error e := by
  cases l with
  | nil => rfl
  | cons c r =>
    rw [tokV, tokV]
    split
    · rfl
    · split
      · split <;> rfl
      · split
        · split <;> rfl
        · split <;> rfl
def TokCells (t : Tok) : Value := .agg #[.int .i64 t.kind, .string t.text, .int .i64 0, .int .i64 0, .int .i64 t.n]
def TokZero : Value := .agg #[.int .i64 0, .string ⟨#[]⟩, .int .i64 0, .int .i64 0, .int .i64 0]
/-- What the document's reader of one token comes to. -/
inductive TokIs (w : World) (l : List UInt8) : Ending → World → Prop
  | ok (t : Tok) (k : Nat) (w' : World) : tokV 0 l = .ok (t, k) → Below w.heap.size w w' → TokIs w l (.returned (.tuple #[TokCells t, .int .i64 (k : Int), .int .i64 0])) w'
  | err (er : Int) (w' : World) : tokV 0 l = .error er → er ≠ 0 → Below w.heap.size w w' → TokIs w l (.returned (.tuple #[TokZero, .int .i64 0, .int .i64 er])) w'
theorem run_zero {c : UInt8} {r : List UInt8} (h : letB c.toNat = false) (h2 : digB c.toNat = false) : runN (c :: r) = 0 := by
  have : parB (c.toNat : Int) = false := by unfold parB; simp [h, h2]
  unfold runN
  rw [List.takeWhile_cons, this]
  rfl
theorem ext_take (s : ByteArray) (k : Nat) : s.extract 0 k = bytes (s.data.toList.take k) := by
  rw [← bytes_toList (s.extract 0 k), ext_toList]
  simp
theorem key_bytes (l : List UInt8) : key8 (bytes l) = l := by simp [key8, bytes]
set_option maxRecDepth 100000 in
set_option maxHeartbeats 8000000 in
theorem refToken_any (s : ByteArray) (h0 : 0 < s.size) (hs : s.size ≤ 1000000) (w : World) : Calls Tryz.prog 50 #[.string s] w (TokIs w s.data.toList) := by
  obtain ⟨r, hr⟩ := list_zero h0
  have hi0 : (0 : Int) < (s.size : Int) := by omega
  have HRn := fun W => Lib.hid (refRun_any s (by omega) W)
  have HLt := fun W => Lib.hid (refLetter_any (s[0].toNat : Int) W)
  have hrl := runN_list s
  have HCn := Lib.hid hr
  by_cases hl : letB s[0].toNat = true
  · have hpos : 1 ≤ runN s.data.toList := by rw [hr]; exact runN_pos (.inl hl)
    have HT : Hid (tokV 0 s.data.toList = .ok (⟨if wordB 18 (s.data.toList.take (runN s.data.toList)) = true then 2 else 1, bytes (s.data.toList.take (runN s.data.toList)), 0, 0 + runN s.data.toList, 0⟩, runN s.data.toList)) := Lib.hid (by
      have := tok_name (p := 0) (c := s[0]) (r := r) hl
      rw [← hr] at this
      exact this)
    have HE := Lib.hid (ext_take s (runN s.data.toList))
    obtain ⟨k, hk⟩ : ∃ k, runN s.data.toList = k := ⟨_, rfl⟩
    rw [hk] at HRn HT HE hpos hrl
    have HW := fun W => Lib.hid (refWord_any (s.extract 0 k) W)
    have hkw : key8 (s.extract 0 k) = s.data.toList.take k := by rw [HE.out, key_bytes]
    rw [hkw] at HW
    rw [hl] at HLt
    obtain ⟨wb, hwb⟩ : ∃ b, wordB 18 (s.data.toList.take k) = b := ⟨_, rfl⟩
    rw [hwb] at HW HT
    rw [← HE.out] at HT
    have hki : (0 : Int) < (k : Int) := by omega
    have hki2 : (k : Int) ≤ (s.size : Int) := by omega
    clear hr hk hkw hwb HE
    cases wb
    · go_enter Tryz.func50, Tryz.ntmps50
      go_wp2_with fail
      refine ((HRn _).out).mono ?_
      rintro e w1 ⟨rfl, rfl⟩
      go_wp2_with fail
      refine ((HLt _).out).mono ?_
      rintro e w1 ⟨rfl, rfl⟩
      go_wp2_with fail
      refine ((HW _).out).mono ?_
      rintro e w1 ⟨rfl, rfl⟩
      go_wp2
      exact bodyPost_ret (v := .tuple #[.agg #[.int .i64 1, .string (s.extract 0 k), .int .i64 0, .int .i64 0, .int .i64 0], .int .i64 (k : Int), .int .i64 0]) (by simp [results, Tryz.results50, go_sem]) rfl (.ok ⟨1, s.extract 0 k, 0, 0 + (k : Int), 0⟩ k _ HT.out (by repeat (first | exact Below.refl _ _ | refine Below.alloc ?_ (by simp; try omega) _ | refine Below.setCell ?_ (by simp) _)))
    · go_enter Tryz.func50, Tryz.ntmps50
      go_wp2_with fail
      refine ((HRn _).out).mono ?_
      rintro e w1 ⟨rfl, rfl⟩
      go_wp2_with fail
      refine ((HLt _).out).mono ?_
      rintro e w1 ⟨rfl, rfl⟩
      go_wp2_with fail
      refine ((HW _).out).mono ?_
      rintro e w1 ⟨rfl, rfl⟩
      go_wp2
      exact bodyPost_ret (v := .tuple #[.agg #[.int .i64 2, .string (s.extract 0 k), .int .i64 0, .int .i64 0, .int .i64 0], .int .i64 (k : Int), .int .i64 0]) (by simp [results, Tryz.results50, go_sem]) rfl (.ok ⟨2, s.extract 0 k, 0, 0 + (k : Int), 0⟩ k _ HT.out (by repeat (first | exact Below.refl _ _ | refine Below.alloc ?_ (by simp; try omega) _ | refine Below.setCell ?_ (by simp) _)))
  · have hl0 : letB s[0].toNat = false := by simpa using hl
    rw [hl0] at HLt
    by_cases hd : digB s[0].toNat = true
    · have hpos : 1 ≤ runN s.data.toList := by rw [hr]; exact runN_pos (.inr hd)
      have HT : Hid (tokV 0 s.data.toList = if (NumM.numV (s.data.toList.take (runN s.data.toList))).2 = true then .ok (⟨3, bytes (s.data.toList.take (runN s.data.toList)), 0, 0 + runN s.data.toList, (NumM.numV (s.data.toList.take (runN s.data.toList))).1⟩, runN s.data.toList) else .error 51) := Lib.hid (by
        have := tok_num (p := 0) (c := s[0]) (r := r) hl0 hd
        rw [← hr] at this
        exact this)
      have HE := Lib.hid (ext_take s (runN s.data.toList))
      obtain ⟨k, hk⟩ : ∃ k, runN s.data.toList = k := ⟨_, rfl⟩
      rw [hk] at HRn HT HE hpos hrl
      have hsz : (s.extract 0 k).size = k := by simp; omega
      have HW := fun W => Lib.hid (NumD.refNumber_any (s.extract 0 k) W (by omega))
      have hkw : (s.extract 0 k).data.toList = s.data.toList.take k := by rw [HE.out]; simp [bytes]
      rw [hkw] at HW
      obtain ⟨nv, hnv⟩ : ∃ b, (NumM.numV (s.data.toList.take k)).1 = b := ⟨_, rfl⟩
      obtain ⟨ok, hok⟩ : ∃ b, (NumM.numV (s.data.toList.take k)).2 = b := ⟨_, rfl⟩
      rw [hnv, hok] at HW HT
      rw [← HE.out] at HT
      have hki : (0 : Int) < (k : Int) := by omega
      have hki2 : (k : Int) ≤ (s.size : Int) := by omega
      clear hr hk hkw hnv hok HE hsz
      cases ok
      · have HT2 : Hid (tokV 0 s.data.toList = .error 51) := Lib.hid (by rw [HT.out]; rfl)
        clear HT
        go_enter Tryz.func50, Tryz.ntmps50
        go_wp2_with fail
        refine ((HRn _).out).mono ?_
        rintro e w1 ⟨rfl, rfl⟩
        go_wp2_with fail
        refine ((HLt _).out).mono ?_
        rintro e w1 ⟨rfl, rfl⟩
        go_wp2_with fail
        refine ((HW _).out).mono ?_
        rintro e w1 ⟨rfl, rfl⟩
        go_wp2
        exact bodyPost_ret (v := .tuple #[.agg #[.int .i64 0, .string ⟨#[]⟩, .int .i64 0, .int .i64 0, .int .i64 0], .int .i64 0, .int .i64 51]) (by simp [results, Tryz.results50, go_sem]) rfl (.err 51 _ HT2.out (by decide) (by repeat (first | exact Below.refl _ _ | refine Below.alloc ?_ (by simp; try omega) _ | refine Below.setCell ?_ (by simp) _)))
      · have HT2 : Hid (tokV 0 s.data.toList = .ok (⟨3, s.extract 0 k, 0, 0 + (k : Int), nv⟩, k)) := Lib.hid (by rw [HT.out]; rfl)
        clear HT
        go_enter Tryz.func50, Tryz.ntmps50
        go_wp2_with fail
        refine ((HRn _).out).mono ?_
        rintro e w1 ⟨rfl, rfl⟩
        go_wp2_with fail
        refine ((HLt _).out).mono ?_
        rintro e w1 ⟨rfl, rfl⟩
        go_wp2_with fail
        refine ((HW _).out).mono ?_
        rintro e w1 ⟨rfl, rfl⟩
        go_wp2
        exact bodyPost_ret (v := .tuple #[.agg #[.int .i64 3, .string (s.extract 0 k), .int .i64 0, .int .i64 0, .int .i64 nv], .int .i64 (k : Int), .int .i64 0]) (by simp [results, Tryz.results50, go_sem]) rfl (.ok ⟨3, s.extract 0 k, 0, 0 + (k : Int), nv⟩ k _ HT2.out (by repeat (first | exact Below.refl _ _ | refine Below.alloc ?_ (by simp; try omega) _ | refine Below.setCell ?_ (by simp) _)))
    · have hd0 : digB s[0].toNat = false := by simpa using hd
      have hrz : runN s.data.toList = 0 := by rw [hr]; exact run_zero hl0 hd0
      rw [hrz] at HRn
      clear hrl HLt
      obtain ⟨n, hn⟩ : ∃ n, s[0].toNat = n := ⟨_, rfl⟩
      have hU : s[0] = UInt8.ofNat n := by rw [← hn]; simp
      by_cases h34 : n = 34
      · subst h34
        have HT : Hid (tokV 0 s.data.toList = match bodyK 0 (s.data.toList.drop 1) with
            | some (x, n) => .ok (⟨4, bytes x, 0, 0 + (n + 1 : Nat), 0⟩, n + 1)
            | none => .error 52) := Lib.hid (by
          have := tok_quote (p := 0) (c := s[0]) (r := r) hl0 hd0 (by rw [hU]; rfl)
          rw [← hr] at this
          rw [this, hr]
          rfl)
        have HX := fun W => Lib.hid (refText_any s h0 hs W)
        clear hr hU hl hl0 hd hd0 hrz
        go_enter Tryz.func50, Tryz.ntmps50
        go_wp2_with fail
        refine ((HRn _).out).mono ?_
        rintro e w1 ⟨rfl, rfl⟩
        go_wp2_with fail
        refine ((HX _).out).mono ?_
        intro e w2 htx
        have HR0 := Has.new w 57 [.int .i64 0, .string ⟨#[]⟩, .int .i64 0, .int .i64 0, .int .i64 0]
        cases htx with
        | yes x n _ hb hbl =>
          have q := HR0.below hbl HR0.lt
          have c0 := q.cell 0
          have c1 := q.cell 1
          have c2 := q.cell 2
          have c3 := q.cell 3
          have c4 := q.cell 4
          have f0 := q.frozen 0
          have f1 := q.frozen 1
          have f2 := q.frozen 2
          have f3 := q.frozen 3
          have f4 := q.frozen 4
          have ql := q.lt
          simp at c0 c1 c2 c3 c4
          have HB : Hid (Below w.heap.size w w2) := Lib.hid (((Below.refl _ w).alloc (Nat.le_refl _) _).trans (hbl.mono (by simp)))
          have HT2 : Hid (tokV 0 s.data.toList = .ok (⟨4, bytes x, 0, 0 + (n + 1 : Nat), 0⟩, n + 1)) := Lib.hid (by rw [HT.out, hb])
          clear HT HR0 q hb hbl
          go_wp2
          refine bodyPost_ret (v := .tuple #[.agg #[.int .i64 4, .string (bytes x), .int .i64 0, .int .i64 0, .int .i64 0], .int .i64 ((n : Int) + 1), .int .i64 0]) (by simp [results, Tryz.results50, go_sem, c0, c1, c2, c3, c4]) rfl ?_
          have hx := TokIs.ok (w := w) (l := s.data.toList) ⟨4, bytes x, 0, 0 + (n + 1 : Nat), 0⟩ (n + 1) (((((w2.setCell ⟨w.heap.size, 0, none⟩ (.int .i64 4)).setCell ⟨w.heap.size, 1, none⟩ (.string (bytes x))).setCell ⟨w.heap.size, 2, none⟩ (.int .i64 0)).setCell ⟨w.heap.size, 3, none⟩ (.int .i64 0)).setCell ⟨w.heap.size, 4, none⟩ (.int .i64 0)) HT2.out (by repeat (first | exact HB.out | refine Below.setCell ?_ (by simp) _))
          rw [Int.natCast_add] at hx
          exact hx
        | no _ hb hbl =>
          have q := HR0.below hbl HR0.lt
          have c0 := q.cell 0
          have c1 := q.cell 1
          have c2 := q.cell 2
          have c3 := q.cell 3
          have c4 := q.cell 4
          have f0 := q.frozen 0
          have f1 := q.frozen 1
          have f2 := q.frozen 2
          have f3 := q.frozen 3
          have f4 := q.frozen 4
          have ql := q.lt
          simp at c0 c1 c2 c3 c4
          have HB : Hid (Below w.heap.size w w2) := Lib.hid (((Below.refl _ w).alloc (Nat.le_refl _) _).trans (hbl.mono (by simp)))
          have HT2 : Hid (tokV 0 s.data.toList = .error 52) := Lib.hid (by rw [HT.out, hb])
          clear HT HR0 q hb hbl
          go_wp2
          exact bodyPost_ret (v := .tuple #[.agg #[.int .i64 0, .string ⟨#[]⟩, .int .i64 0, .int .i64 0, .int .i64 0], .int .i64 0, .int .i64 52]) (by simp [results, Tryz.results50, go_sem, c0, c1, c2, c3, c4]) rfl (.err 52 _ HT2.out (by decide) (by repeat (first | exact HB.out | refine Below.setCell ?_ (by simp) _)))
      · have h34b : ((n : Int) == 34) = false := by simp; omega
        have HT : Hid (tokV 0 s.data.toList = if signN s.data.toList = 0 then .error 50 else .ok (⟨5, bytes (s.data.toList.take (signN s.data.toList)), 0, 0 + signN s.data.toList, 0⟩, signN s.data.toList)) := Lib.hid (by
          have := tok_sign (p := 0) (c := s[0]) (r := r) hl0 hd0 (by
            rw [hU]
            intro h
            have := congrArg UInt8.toNat h
            have h3 := UInt8.toNat_lt s[0]
            rw [hn] at h3
            simp at this
            omega)
          rw [← hr] at this
          exact this)
        have HSg := fun W => Lib.hid (refSign_any s h0 (by omega) W)
        have hsl := signN_le s.data.toList
        have HE := Lib.hid (ext_take s (signN s.data.toList))
        obtain ⟨k, hk⟩ : ∃ k, signN s.data.toList = k := ⟨_, rfl⟩
        rw [hk] at HSg HT HE hsl
        have hki2 : (k : Int) ≤ (s.size : Int) := by
          have : k ≤ s.size := by simpa using hsl
          omega
        rw [← HE.out] at HT
        clear hr hU hl hl0 hd hd0 hrz hk HE hsl
        by_cases hk0 : k = 0
        · subst hk0
          have HT2 : Hid (tokV 0 s.data.toList = .error 50) := Lib.hid (by rw [HT.out]; rfl)
          clear HT
          go_enter Tryz.func50, Tryz.ntmps50
          go_wp2_with fail
          refine ((HRn _).out).mono ?_
          rintro e w1 ⟨rfl, rfl⟩
          go_wp2_with fail
          refine ((HSg _).out).mono ?_
          rintro e w1 ⟨rfl, rfl⟩
          go_wp2
          exact bodyPost_ret (v := .tuple #[.agg #[.int .i64 0, .string ⟨#[]⟩, .int .i64 0, .int .i64 0, .int .i64 0], .int .i64 0, .int .i64 50]) (by simp [results, Tryz.results50, go_sem]) rfl (.err 50 _ HT2.out (by decide) (by repeat (first | exact Below.refl _ _ | refine Below.alloc ?_ (by simp; try omega) _ | refine Below.setCell ?_ (by simp) _)))
        · have HT2 : Hid (tokV 0 s.data.toList = .ok (⟨5, s.extract 0 k, 0, 0 + (k : Int), 0⟩, k)) := Lib.hid (by rw [HT.out, if_neg hk0])
          have hki : (0 : Int) < (k : Int) := by omega
          clear HT
          go_enter Tryz.func50, Tryz.ntmps50
          go_wp2_with fail
          refine ((HRn _).out).mono ?_
          rintro e w1 ⟨rfl, rfl⟩
          go_wp2_with fail
          refine ((HSg _).out).mono ?_
          rintro e w1 ⟨rfl, rfl⟩
          go_wp2
          exact bodyPost_ret (v := .tuple #[.agg #[.int .i64 5, .string (s.extract 0 k), .int .i64 0, .int .i64 0, .int .i64 0], .int .i64 (k : Int), .int .i64 0]) (by simp [results, Tryz.results50, go_sem]) rfl (.ok ⟨5, s.extract 0 k, 0, 0 + (k : Int), 0⟩ k _ HT2.out (by repeat (first | exact Below.refl _ _ | refine Below.alloc ?_ (by simp; try omega) _ | refine Below.setCell ?_ (by simp) _)))
end LexD
end Go.Proofs.YtmdkocegnbcgmaaGreatDoor
namespace Go.Proofs.YtmdkocegnbcgmaaGreatDoor
open Go.RowKit ObjM Go.Maps
namespace LexD

theorem cells5 (W : World) (t : TypeId) (x0 x1 x2 x3 x4 : Value) (j : Nat) (u : Value) (h : [x0, x1, x2, x3, x4][j]? = some u) : (W.alloc (.cells #[x0, x1, x2, x3, x4] t)).cell? ((⟨W.heap.size, 0, none⟩ : Addr).add j) = some u := by
  rw [TraceD.addr_add, Nat.zero_add]
  exact ((Has.new W t [x0, x1, x2, x3, x4]).cell j).trans h
/-- Where the loop stands. -/
structure At (s : ByteArray) (p : Nat) (ts : List Tok) : Prop where
  le : p ≤ s.size
  len : ts.length ≤ p
  scan : scanV s = andTok ts (scanK 0 p (s.data.toList.drop p))
  noBlank : stepB (s.data.toList.drop p) = none
theorem At.first (s : ByteArray) : At s (blK 0 s.data.toList) [] := by
  obtain ⟨h1, h2⟩ := bl_scan s.data.toList 0
  simp only [List.drop_zero, Nat.zero_add] at h1 h2
  refine ⟨?_, by simp, ?_, h2⟩
  · simpa using blK_le s.data.toList
  · rw [andTok_nil]
    exact h1
theorem At.next {s : ByteArray} {p k : Nat} {ts : List Tok} {t : Tok} (h : At s p ts) (ht : tokV 0 (s.data.toList.drop p) = .ok (t, k)) :
    p + k ≤ s.size ∧ 1 ≤ k ∧ At s (p + (k + blK 0 (s.data.toList.drop (p + k)))) (ts ++ [t.at0 p k]) := by
  have ht2 : tokV p (s.data.toList.drop p) = .ok (t.at0 p k, k) := by rw [tok_at, ht]
  have h1 := tokV_pos ht
  have h2 := tokV_le ht
  have h2' : k ≤ s.size - p := by simpa using h2
  obtain ⟨h3, h4⟩ := bl_scan s.data.toList (p + k)
  have h5 := blK_le (s.data.toList.drop (p + k))
  have h5' : blK 0 (s.data.toList.drop (p + k)) ≤ s.size - (p + k) := by simpa using h5
  have hl := h.le
  have hn := h.len
  refine ⟨by omega, h1, by omega, by simp; omega, ?_, by rw [← Nat.add_assoc]; exact h4⟩
  rw [h.scan, scan_tok h1 h.noBlank ht2, andTok_snoc, ← Nat.add_assoc, h3]
theorem At.bad {s : ByteArray} {p : Nat} {ts : List Tok} {er : Int} (h : At s p ts) (hp : p < s.size) (ht : tokV 0 (s.data.toList.drop p) = .error er) : scanV s = .error (p, er) := by
  have ht2 : tokV p (s.data.toList.drop p) = .error er := by rw [tok_at, ht]
  rw [h.scan, scan_err h.noBlank ht2 (by simpa using hp)]
  rfl
theorem At.done {s : ByteArray} {p : Nat} {ts : List Tok} (h : At s p ts) (hp : ¬ p < s.size) : scanV s = .ok ts ∧ ts.length ≤ s.size := by
  have hl := h.le
  have hn := h.len
  refine ⟨?_, by omega⟩
  rw [h.scan, scan_end (by simp; omega)]
  simp [andTok]
set_option maxRecDepth 100000 in
set_option maxHeartbeats 8000000 in
theorem refScan_any (s : ByteArray) (w : World) : Calls Tryz.prog 28 #[.string s] w (ScanIs w s) := by
  by_cases hlong : 100000 < s.size
  · have hl : (100000 : Int) < (s.size : Int) := by omega
    go_enter Tryz.func28, Tryz.ntmps28
    go_wp2
    go_ret3
    exact .long _ hlong (Below.refl _ _)
  · have hl : ¬ (100000 : Int) < (s.size : Int) := by omega
    have hs : s.size ≤ 100000 := by omega
    obtain ⟨i0, hi, hz0, hz1, hz2⟩ := info_parts infoTok
    have HIf := Lib.hid (⟨hi, hz0, hz1, hz2⟩ : _ ∧ _ ∧ _ ∧ _)
    have HBk := fun W => Lib.hid (refBlank_any s (by omega) W)
    have HA0 := Lib.hid (At.first s)
    clear hi hz0 hz1 hz2
    go_enter Tryz.func28, Tryz.ntmps28
    go_wp2_with fail
    refine ((HBk _).out).mono ?_
    rintro e w1 ⟨rfl, rfl⟩
    generalize blK 0 s.data.toList = b0 at HA0 ⊢
    clear HBk
    go_wp2
    go_loopw [5, 6] (fun o i wr => ∃ (p : Nat) (ts : List Tok), i = .int .i64 (p : Int) ∧ p ≤ s.size ∧ ts.length ≤ p ∧ Below w.heap.size w wr ∧ Hid (wr.ownsRow w.heap.size 57 5 o ts.length (rowT ts)) ∧ Hid (At s p ts)) (fun _ i _ => s.size - (intOf i).toNat)
    case atStart => exact ⟨b0, [], rfl, HA0.out.le, by simp, Below.refl _ _, Lib.hid (World.ownsRow_nil _ _ _ _), HA0⟩
    case round =>
      obtain ⟨p, ts, rfl, hp, hts, hBr, HO, HA⟩ := hrel
      have HB := Lib.hid hBr
      have hszr := hBr.size
      clear hBr
      obtain ⟨av, cv, rfl⟩ := own_sl HO.out
      by_cases hlt : p < s.size
      · have hi1 : (p : Int) < (s.size : Int) := by omega
        have hi2 : (p : Int) ≤ (s.size : Int) := by omega
        obtain ⟨R, hR, hRl, hRs, hR0, -⟩ := rest_of hlt
        have HTk := fun W => Lib.hid (refToken_any R hR0 (by omega) W)
        rw [hRl] at HTk
        clear hRl hRs hR0
        go_wp2_with fail
        refine ((HTk _).out).mono ?_
        intro e w2 htk
        cases htk with
        | ok t k _ ht hb =>
          obtain ⟨hk1, hk2, hat⟩ := HA.out.next ht
          have HA2 := Lib.hid hat
          have HB2 := Lib.hid (HB.out.trans (hb.mono hszr))
          have HO2 := Lib.hid (own_keepsT HO.out (KeepsT.below hb []) (by simp))
          have hsz2 := HB2.out.size
          have HBl := fun W => Lib.hid (refBlank_any (s.extract (p + k) s.size) (by simp; omega) W)
          rw [ext_drop] at HBl
          obtain ⟨b2, hb2⟩ : ∃ b, blK 0 (s.data.toList.drop (p + k)) = b := ⟨_, rfl⟩
          rw [hb2] at HBl HA2
          have hki : (p : Int) + (k : Int) ≤ (s.size : Int) := by omega
          clear hat ht hb hb2 HTk HO HA HB
          simp only [TokCells]
          obtain ⟨hi, hz0, hz1, hz2⟩ := HIf.out
          go_wp2_with (at_builtin; refine wpList_append_own _ rfl _ _ 48 rfl w.heap.size 57 i0 (.agg #[.int .i64 0, .string ⟨#[]⟩, .int .i64 0, .int .i64 0, .int .i64 0]) 5 48 Tryz.underlying48 hi hz0 hz1 hz2 rfl (by decide) (.slice av ts.length cv) ts.length (rowT ts) rfl ((HO2.out.alloc _).alloc _) ⟨w2.heap.size + 1, 0, none⟩ 1 1 [.int .i64 t.kind, .string t.text, .int .i64 (p : Int), .int .i64 ((p : Int) + (k : Int)), .int .i64 t.n] rfl rfl ?cells (by simp [Value.oneCell']) ?c3 ?c4 ?c5 ?_)
          case cells =>
            intro j u h
            have := cells5 (w2.alloc (.cells #[.int .i64 t.kind, .string t.text, .int .i64 (p : Int), .int .i64 ((p : Int) + (k : Int)), .int .i64 t.n] 57)) 57 _ _ _ _ _ j u h
            simpa only [World.size_alloc] using this
          case c3 => unfold maxLen; omega
          case c4 => omega
          case c5 => first | omega | (simp; omega)
          intro v' w3 hown' hgrow _
          have HO3 : Hid (w3.ownsRow w.heap.size 57 5 v' (ts ++ [t.at0 p k]).length (rowT (ts ++ [t.at0 p k]))) := Lib.hid (by
            rw [rowT_snoc, List.length_append]
            exact hown')
          have HB3 : Hid (Below w.heap.size w w3) := Lib.hid (((HB2.out.alloc hsz2 _).alloc (by simp; omega) _).grown hgrow (by simp; omega) (fun k hk => (HO2.out.lt k hk).1))
          obtain ⟨av3, cv3, rfl⟩ := own_sl HO3.out
          have hle := HA2.out.le
          clear hown' hgrow hi hz0 hz1 hz2 HIf HO2 HB2
          go_wp2_with fail
          refine ((HBl _).out).mono ?_
          rintro e w4 ⟨rfl, rfl⟩
          go_wp2
          go_roundw
          case rel => exact ⟨p + (k + b2), ts ++ [t.at0 p k], by go_num, hle, HA2.out.len, HB3.out, Lib.hid (by have h9 := HO3.out; simp only [List.length_append, List.length_singleton] at h9 ⊢; exact h9), HA2⟩
          case measure => simp [intOf]; omega
        | err er _ ht her hb =>
          have HE := Lib.hid (HA.out.bad hlt ht)
          have HB2 := Lib.hid (HB.out.trans (hb.mono hszr))
          have hne : (er != 0) = true := by simpa using her
          clear ht hb HA HB HO
          simp only [TokZero]
          go_wp2
          go_ret3
          refine .err p er _ hs HE.out hlt ?_
          repeat (first | exact HB2.out | refine Below.alloc ?_ (by have := HB2.out.size; omega) _)
      · have HD := Lib.hid (HA.out.done hlt)
        obtain ⟨hi, hz0, hz1, hz2⟩ := HIf.out
        clear HA
        go_wp2_with (at_builtin; refine wpList_append_own _ rfl _ _ 48 rfl w.heap.size 57 i0 (.agg #[.int .i64 0, .string ⟨#[]⟩, .int .i64 0, .int .i64 0, .int .i64 0]) 5 48 Tryz.underlying48 hi hz0 hz1 hz2 rfl (by decide) (.slice av ts.length cv) ts.length (rowT ts) rfl (HO.out.alloc _) ⟨wr.heap.size, 0, none⟩ 1 1 [.int .i64 0, .string ⟨#[]⟩, .int .i64 (s.size : Int), .int .i64 (s.size : Int), .int .i64 0] rfl rfl (fun j u h => cells5 wr 57 _ _ _ _ _ j u h) (by simp [Value.oneCell']) ?c3 ?c4 ?c5 ?_)
        case c3 => unfold maxLen; omega
        case c4 => omega
        case c5 => first | omega | (simp; omega)
        intro v' w3 hown' hgrow _
        have HO3 : Hid (w3.ownsRow w.heap.size 57 5 v' (ts.length + 1) (rowT (ts ++ [endTok s]))) := Lib.hid (by
          rw [rowT_snoc]
          exact hown')
        have HB3 : Hid (Below w.heap.size w w3) := Lib.hid ((HB.out.alloc hszr _).grown hgrow (by simp; omega) (fun k hk => (HO.out.lt k hk).1))
        obtain ⟨av3, cv3, rfl⟩ := own_sl HO3.out
        clear hown' hgrow hi hz0 hz1 hz2 HIf HO HB
        go_wp2
        go_ret3
        exact .ok ts _ _ hs HD.out.1 HD.out.2 HO3.out HB3.out
end LexD
end Go.Proofs.YtmdkocegnbcgmaaGreatDoor
namespace Go.Proofs.YtmdkocegnbcgmaaGreatDoor
open Go.RowKit ObjM Go.Maps
namespace LexD

def Tok.agg (t : Tok) : Value := .agg #[.int .i64 t.kind, .string t.text, .int .i64 t.lo, .int .i64 t.hi, .int .i64 t.n]
def TkCells (W : World) (b i : Nat) (t : Tok) : Prop :=
  W.cell? ⟨b, i * 5, none⟩ = some (.int .i64 t.kind) ∧ W.cell? ⟨b, i * 5 + 1, none⟩ = some (.string t.text) ∧ W.cell? ⟨b, i * 5 + 2, none⟩ = some (.int .i64 t.lo) ∧ W.cell? ⟨b, i * 5 + 3, none⟩ = some (.int .i64 t.hi) ∧ W.cell? ⟨b, i * 5 + 4, none⟩ = some (.int .i64 t.n)
/-- The slice v holds the tokens l. -/
def TksAt (W : World) (v : Value) (l : List Tok) : Prop :=
  (v = .slice none 0 0 ∧ l = []) ∨ ∃ b cap, v = .slice (some ⟨b, 0, none⟩) l.length cap ∧ l.length ≤ cap ∧ cap ≤ 9223372036854775807 ∧ b < W.heap.size ∧ ∀ (i : Nat) t, l[i]? = some t → TkCells W b i t
theorem TksAt.below {W W' : World} {v : Value} {l : List Tok} (h : TksAt W v l) (hb : Below W.heap.size W W') : TksAt W' v l := by
  rcases h with h | ⟨b, cap, h1, h2, h3, h4, h5⟩
  · exact .inl h
  · refine .inr ⟨b, cap, h1, h2, h3, Nat.lt_of_lt_of_le h4 hb.size, fun i a ha => ?_⟩
    obtain ⟨c0, c1, c2, c3, c4⟩ := h5 i a ha
    exact ⟨(hb.cell (p := ⟨b, _, none⟩) h4).trans c0, (hb.cell (p := ⟨b, _, none⟩) h4).trans c1, (hb.cell (p := ⟨b, _, none⟩) h4).trans c2, (hb.cell (p := ⟨b, _, none⟩) h4).trans c3, (hb.cell (p := ⟨b, _, none⟩) h4).trans c4⟩
theorem TksAt.shape {W : World} {v : Value} {l : List Tok} (h : TksAt W v l) : ∃ av cw, v = .slice av l.length cw := by
  rcases h with ⟨rfl, rfl⟩ | ⟨b, cap, rfl, _⟩
  · exact ⟨none, 0, rfl⟩
  · exact ⟨_, _, rfl⟩
theorem TksAt.at {W : World} {av : Option Addr} {cw : Nat} {l : List Tok} (h : TksAt W (.slice av l.length cw) l) (k : Nat) (hk : k < l.length) : ∃ b, av = some ⟨b, 0, none⟩ ∧ b < W.heap.size ∧ TkCells W b k l[k] := by
  rcases h with ⟨_, rfl⟩ | ⟨b, cap, h, _, _, hb, hc⟩
  · simp at hk
  · injection h with h4 h5 h6
    exact ⟨b, h4, hb, hc k _ (List.getElem?_eq_getElem hk)⟩
theorem rowT_at : ∀ (l : List Tok) (i : Nat) (e : Tok), l[i]? = some e → ∀ j, j < 5 → (rowT l)[i * 5 + j]? = e.cells[j]?
  | [], i, e, h, j, hj => by simp at h
  | a :: r, 0, e, h, j, hj => by
    simp at h
    subst h
    show (a.cells ++ rowT r)[0 * 5 + j]? = _
    rw [List.getElem?_append_left (by simp [Tok.cells]; omega), Nat.zero_mul, Nat.zero_add]
  | a :: r, i + 1, e, h, j, hj => by
    show (a.cells ++ rowT r)[(i + 1) * 5 + j]? = _
    rw [List.getElem?_append_right (by simp [Tok.cells]; omega)]
    have e1 : (i + 1) * 5 + j - a.cells.length = i * 5 + j := by simp [Tok.cells]; omega
    rw [e1]
    exact rowT_at r i e (by simpa using h) j hj
theorem tks_of_own {w : World} {base n : Nat} {v : Value} {l : List Tok} (hn : l.length = n) (h : w.ownsRow base 57 5 v n (rowT l)) : TksAt w v l := by
  subst hn
  rcases own_shape h with ⟨rfl, hn, -⟩ | ⟨g, cap, cs, rfl, -, hg, hc, hm, -, -⟩
  · exact .inl ⟨rfl, List.eq_nil_of_length_eq_zero hn⟩
  · refine .inr ⟨g, cap, rfl, hc, by unfold maxLen at hm; omega, hg.lt, ?_⟩
    intro i e hi
    have hcl : ∀ j, j < 5 → w.cell? ⟨g, i * 5 + j, none⟩ = e.cells[j]? := by
      intro j hj
      have hlt : i < l.length := (List.getElem?_eq_some_iff.1 hi).1
      have hr := rowT_at l i e hi j hj
      have hlt2 : i * 5 + j < (rowT l).length := by rw [rowT_len]; omega
      rw [own_cell h _ hlt2, ← hr, List.getElem?_eq_getElem hlt2]
    refine ⟨?_, ?_, ?_, ?_, ?_⟩
    · have h := hcl 0 (by omega)
      rw [Nat.add_zero] at h
      exact h
    · exact hcl 1 (by omega)
    · exact hcl 2 (by omega)
    · exact hcl 3 (by omega)
    · exact hcl 4 (by omega)
theorem eqTok (W : World) (x0 x2 x3 x4 : Int) (x1 : ByteArray) :
    Sem.run Tryz.prog (Op.equalIn 10000 57 (.agg #[.int .i64 x0, .string x1, .int .i64 x2, .int .i64 x3, .int .i64 x4]) (.agg #[.int .i64 x0, .string x1, .int .i64 x2, .int .i64 x3, .int .i64 x4])) W = .ok true W := by
  simp [go_sem]
/-- What Scan's tokens are, with the one at the end. -/
def scanL (s : ByteArray) (ts : List Tok) : List Tok := ts ++ [endTok s]
theorem scanL_len (s : ByteArray) (ts : List Tok) : (scanL s ts).length = ts.length + 1 := by simp [scanL]
theorem scan_ex0 : ∃ t0 t1 t2 : Tok, scanV ⟨#[120, 46, 46, 49]⟩ = .ok [t0, t1, t2] ∧ t1.text = ⟨#[46, 46]⟩ ∧ t2.n = 1 := ⟨_, _, _, rfl, rfl, rfl⟩
theorem scan_ex1 : scanV ⟨#[97, 32, 33, 32, 98]⟩ = .error (2, 50) := rfl
theorem quote_ex : TraceD.quoteB [97, 10] = [34, 97, 92, 110, 34] := by decide
end LexD
end Go.Proofs.YtmdkocegnbcgmaaGreatDoor
