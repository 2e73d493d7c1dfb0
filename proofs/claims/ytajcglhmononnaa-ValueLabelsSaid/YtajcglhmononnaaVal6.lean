/- What an operator comes to where something goes wrong. -/
import Derived.Test.YtajcglhmononnaaVal3
namespace Go.Proofs.Ytajcglhmononnaa
open Go.RowKit ObjM
namespace ValD
open NumM LabelM LabelD NumD

def emptyS : ByteArray := ⟨#[]⟩
def arithS : ByteArray := ⟨#[97, 114, 105, 116, 104]⟩
def divideS : ByteArray := ⟨#[100, 105, 118, 105, 100, 101]⟩
def concatS : ByteArray := ⟨#[99, 111, 110, 99, 97, 116]⟩
def compareS : ByteArray := ⟨#[99, 111, 109, 112, 97, 114, 101]⟩
def zeroV : V := ⟨0, 0, ⟨#[]⟩, 0⟩
def pan (why : ByteArray) : List PanicEntry := [{ v := .iface 47 (.agg #[.string why]), recovered := false }]

set_option maxRecDepth 100000 in
set_option maxHeartbeats 1000000 in
theorem arith_bad (op : Int) (a b : V) (h : ¬ (a.k = 2 ∧ b.k = 2)) (w : World) :
    Calls Try.prog 33 #[.int .i64 op, a.agg, b.agg] w fun e w' => e = .panicked (pan arithS) ∧ Below w.heap.size w w' := by
  obtain ⟨ak, an, sa, al⟩ := a
  obtain ⟨bk, bn, sb, bl⟩ := b
  simp only at h
  simp only [V.agg]
  by_cases hk : ak = 2
  · subst hk
    have hb : (bk == 2) = false := by simpa using fun e => h ⟨rfl, e⟩
    have hb2 : (bk != 2) = true := by simpa using fun e => h ⟨rfl, e⟩
    clear h
    go_enter Try.func33, Try.ntmps33
    go_wp2
    exact ⟨rfl, rfl, alloc3⟩
  · have hb : (ak == 2) = false := by simpa using hk
    have hb2 : (ak != 2) = true := by simpa using hk
    clear h hk
    go_enter Try.func33, Try.ntmps33
    go_wp2
    exact ⟨rfl, rfl, alloc3⟩
set_option maxRecDepth 100000 in
set_option maxHeartbeats 1000000 in
theorem arith_div (op : Int) (a b : V) (hk : a.k = 2) (hk2 : b.k = 2) (hd : doB op b.n = false) (w : World) :
    Calls Try.prog 33 #[.int .i64 op, a.agg, b.agg] w fun e w' => e = .panicked (pan divideS) ∧ Below w.heap.size w w' := by
  have HN := fun W => Lib.hid (do_any op a.n b.n W)
  rw [hd] at HN
  obtain ⟨ak, an, sa, al⟩ := a
  obtain ⟨bk, bn, sb, bl⟩ := b
  simp only at hk hk2 HN ⊢
  subst hk hk2
  simp only [V.agg]
  clear hd
  go_enter Try.func33, Try.ntmps33
  go_wp2_with fail
  with_reducible refine ((HN _).out).mono ?_
  rintro e w1 ⟨rfl, hw⟩
  subst hw
  go_wp2
  exact ⟨rfl, rfl, alloc3⟩
set_option maxRecDepth 100000 in
set_option maxHeartbeats 1000000 in
theorem compare_bad (op : Int) (a b : V) (h : ¬ (a.k = b.k ∧ (a.k = 2 ∨ a.k = 3))) (w : World) :
    Calls Try.prog 34 #[.int .i64 op, a.agg, b.agg] w fun e w' => e = .panicked (pan compareS) ∧ Below w.heap.size w w' := by
  obtain ⟨ak, an, sa, al⟩ := a
  obtain ⟨bk, bn, sb, bl⟩ := b
  simp only at h
  simp only [V.agg]
  by_cases hk : ak = bk
  · subst hk
    have h2 : ak ≠ 2 := fun e => h ⟨rfl, .inl e⟩
    have h3 : ak ≠ 3 := fun e => h ⟨rfl, .inr e⟩
    have hb : (ak == 2) = false := by simpa using h2
    have hb2 : (ak != 2) = true := by simpa using h2
    have hc : (ak == 3) = false := by simpa using h3
    have hc2 : (ak != 3) = true := by simpa using h3
    clear h h2 h3
    go_enter Try.func34, Try.ntmps34
    go_wp2
    exact ⟨rfl, rfl, alloc3⟩
  · have hb : (ak == bk) = false := by simpa using hk
    have hb2 : (ak != bk) = true := by simpa using hk
    clear h hk
    go_enter Try.func34, Try.ntmps34
    go_wp2
    exact ⟨rfl, rfl, alloc3⟩

/-- What an operator comes to: whether it can be done, its answer, why not. -/
def ansR (op : Int) (a b : V) : Bool × V × ByteArray :=
  if op = 1 ∨ op = 2 ∨ op = 3 ∨ op = 4 ∨ op = 5 then
    if a.k = 2 ∧ b.k = 2 then (if doB op b.n = true then (true, ⟨2, doV op a.n b.n, ⟨#[]⟩, 0⟩, emptyS) else (false, zeroV, divideS)) else (false, zeroV, arithS)
  else if op = 9 then (if a.k = 3 ∧ b.k = 3 then (true, ⟨3, 0, a.s ++ b.s, 0⟩, emptyS) else (false, zeroV, concatS))
  else if op = 6 ∨ op = 7 then (if a.k = b.k ∧ (a.k = 2 ∨ a.k = 3) then (true, flagV (ltV op a b), emptyS) else (false, zeroV, compareS))
  else if op = 8 then (true, flagV (sameB a b), emptyS)
  else (false, zeroV, arithS)
/-- The ways of an operator. -/
inductive Way (op : Int) (a b : V) : Prop where
  | ok (h : op = 1 ∨ op = 2 ∨ op = 3 ∨ op = 4 ∨ op = 5) (hk : a.k = 2) (hk2 : b.k = 2) (hd : doB op b.n = true) (e : ansR op a b = (true, ⟨2, doV op a.n b.n, ⟨#[]⟩, 0⟩, emptyS))
  | div (h : op = 1 ∨ op = 2 ∨ op = 3 ∨ op = 4 ∨ op = 5) (hk : a.k = 2) (hk2 : b.k = 2) (hd : doB op b.n = false) (e : ansR op a b = (false, zeroV, divideS))
  | bad (h : op = 1 ∨ op = 2 ∨ op = 3 ∨ op = 4 ∨ op = 5) (hk : ¬ (a.k = 2 ∧ b.k = 2)) (e : ansR op a b = (false, zeroV, arithS))
  | cat (h : op = 9) (hk : a.k = 3) (hk2 : b.k = 3) (e : ansR op a b = (true, ⟨3, 0, a.s ++ b.s, 0⟩, emptyS))
  | catBad (h : op = 9) (hk : ¬ (a.k = 3 ∧ b.k = 3)) (e : ansR op a b = (false, zeroV, concatS))
  | cmp (h : op = 6 ∨ op = 7) (hk : a.k = b.k) (hk2 : a.k = 2 ∨ a.k = 3) (e : ansR op a b = (true, flagV (ltV op a b), emptyS))
  | cmpBad (h : op = 6 ∨ op = 7) (hk : ¬ (a.k = b.k ∧ (a.k = 2 ∨ a.k = 3))) (e : ansR op a b = (false, zeroV, compareS))
  | same (h : op = 8) (e : ansR op a b = (true, flagV (sameB a b), emptyS))
  | none (h : ¬ (op = 1 ∨ op = 2 ∨ op = 3 ∨ op = 4 ∨ op = 5) ∧ op ≠ 9 ∧ op ≠ 6 ∧ op ≠ 7 ∧ op ≠ 8) (e : ansR op a b = (false, zeroV, arithS))
theorem way (op : Int) (a b : V) : Way op a b := by
  by_cases h1 : op = 1 ∨ op = 2 ∨ op = 3 ∨ op = 4 ∨ op = 5
  · by_cases hk : a.k = 2 ∧ b.k = 2
    · cases hd : doB op b.n
      · exact .div h1 hk.1 hk.2 hd (by unfold ansR; rw [if_pos h1, if_pos hk, if_neg (by simp [hd])])
      · exact .ok h1 hk.1 hk.2 hd (by unfold ansR; rw [if_pos h1, if_pos hk, if_pos hd])
    · exact .bad h1 hk (by unfold ansR; rw [if_pos h1, if_neg hk])
  · by_cases h9 : op = 9
    · by_cases hk : a.k = 3 ∧ b.k = 3
      · exact .cat h9 hk.1 hk.2 (by unfold ansR; rw [if_neg h1, if_pos h9, if_pos hk])
      · exact .catBad h9 hk (by unfold ansR; rw [if_neg h1, if_pos h9, if_neg hk])
    · by_cases h6 : op = 6 ∨ op = 7
      · by_cases hk : a.k = b.k ∧ (a.k = 2 ∨ a.k = 3)
        · exact .cmp h6 hk.1 hk.2 (by unfold ansR; rw [if_neg h1, if_neg h9, if_pos h6, if_pos hk])
        · exact .cmpBad h6 hk (by unfold ansR; rw [if_neg h1, if_neg h9, if_pos h6, if_neg hk])
      · by_cases h8 : op = 8
        · exact .same h8 (by unfold ansR; rw [if_neg h1, if_neg h9, if_neg h6, if_pos h8])
        · exact .none ⟨h1, h9, fun h => h6 (.inl h), fun h => h6 (.inr h), h8⟩ (by unfold ansR; rw [if_neg h1, if_neg h9, if_neg h6, if_neg h8])
end ValD
end Go.Proofs.Ytajcglhmononnaa
