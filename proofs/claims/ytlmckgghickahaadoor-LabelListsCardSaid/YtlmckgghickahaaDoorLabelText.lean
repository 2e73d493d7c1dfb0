/- A label's text: cutting it gives its numbers back. No program in this text. -/
import Derived.Test.YtlmckgghickahaaDoorLabelBits
import Derived.Lib.Join
import Derived.Lib.SplitLaws
import Derived.Lib.ItoaNum
import Derived.Lib.AtoiAll
import Derived.Lib.Strings
namespace Go.Proofs.YtlmckgghickahaaDoor
namespace LabelM

/-- A label as a text. -/
def showL (L : Nat) : List UInt8 := 123 :: (Lib.join ((finsL L).map fun y => Lib.decDigits y.val) [44] ++ [125])

theorem index_at (p t : List UInt8) (hp : ∀ c ∈ p, c ≠ 44) : Lib.index (p ++ 44 :: t) [44] = (p.length : Int) := by
  induction p with
  | nil => rw [List.nil_append, Lib.index]; simp [List.isPrefixOf]
  | cons b r ih =>
    have h1 := ih (fun c hc => hp c (List.mem_cons_of_mem _ hc))
    have hb : b ≠ 44 := hp b (List.mem_cons_self)
    have hpf : ([44] : List UInt8).isPrefixOf (b :: (r ++ 44 :: t)) = false := by simp [List.isPrefixOf, Ne.symm hb]
    rw [List.cons_append, Lib.index, hpf, h1]
    have : ¬ (((r.length : Int) == -1) = true) := by simp
    simp only [Bool.false_eq_true, if_false, if_neg this]
    simp
theorem splitK_join (p : List UInt8) (r : List (List UInt8)) (h : ∀ q ∈ p :: r, ∀ c ∈ q, c ≠ 44) :
    Lib.splitK [44] 0 (Lib.count (Lib.join (p :: r) [44]) [44]) (Lib.join (p :: r) [44]) = p :: r := by
  induction r generalizing p with
  | nil =>
    rw [Lib.join_one, Lib.count_one]
    have h0 : p.count 44 = 0 := List.count_eq_zero.2 fun hm => h p (List.mem_cons_self) 44 hm rfl
    rw [h0]
    rfl
  | cons q r ih =>
    have hj : Lib.join (p :: q :: r) [44] = p ++ 44 :: Lib.join (q :: r) [44] := by
      rw [Lib.join_cons, Lib.join_cons]
      simp [Lib.joinTail]
    have hi := index_at p (Lib.join (q :: r) [44]) (h p (List.mem_cons_self))
    have hc : Lib.count (p ++ 44 :: Lib.join (q :: r) [44]) [44] = Lib.count (Lib.join (q :: r) [44]) [44] + 1 := by
      rw [Lib.count_hit (by simp) hi]
      rw [show (p ++ 44 :: Lib.join (q :: r) [44]).drop (p.length + ([44] : List UInt8).length) = Lib.join (q :: r) [44] by rw [← List.drop_drop]; simp]
      omega
    rw [hj, hc, Lib.splitK, hi]
    have hn : ¬ (((p.length : Int) == -1) = true) := by simp
    rw [if_neg hn]
    rw [show (p ++ 44 :: Lib.join (q :: r) [44]).drop ((p.length : Int).toNat + ([44] : List UInt8).length) = Lib.join (q :: r) [44] by rw [Int.toNat_natCast, ← List.drop_drop]; simp]
    rw [ih q (fun x hx => h x (List.mem_cons_of_mem _ hx))]
    simp

theorem dec_plain : ∀ y : Fin 64, ∀ c ∈ Lib.decDigits y.val, c ≠ 44 := by decide +kernel
theorem dec_atoi : ∀ y : Fin 64, Lib.atoiAll (Lib.decDigits y.val) = .ok (y.val : Int) := by decide +kernel
theorem dec_ne : ∀ y : Fin 64, Lib.decDigits y.val ≠ [] := by decide +kernel

theorem fins_ne {L : Nat} (hL : L < M64) (h : L ≠ 0) : finsL L ≠ [] := by
  obtain ⟨m, -, h2⟩ := finsL_next h hL
  rw [h2]
  simp

/-- Cutting a label's inner text at the commas. -/
theorem split_show {L : Nat} (hL : L < M64) (h : L ≠ 0) (inner : ByteArray) (he : inner.data.toList = Lib.join ((finsL L).map fun y => Lib.decDigits y.val) [44]) :
    (Lib.splitB ⟨#[44]⟩ 0 (Lib.countB inner ⟨#[44]⟩) inner).map (·.data.toList) = (finsL L).map fun y => Lib.decDigits y.val := by
  rw [Lib.splitB_data]
  have hc : Lib.countB inner ⟨#[44]⟩ = Lib.count inner.data.toList [44] := rfl
  rw [hc, he]
  cases hf : finsL L with
  | nil => exact absurd hf (fins_ne hL h)
  | cons y r =>
    rw [List.map_cons]
    refine splitK_join _ _ ?_
    intro q hq c hcq
    rcases List.mem_cons.1 hq with rfl | hq
    · exact dec_plain y c hcq
    · obtain ⟨z, -, rfl⟩ := List.mem_map.1 hq
      exact dec_plain z c hcq

theorem inner_ne {L : Nat} (hL : L < M64) (h : L ≠ 0) : Lib.join ((finsL L).map fun y => Lib.decDigits y.val) [44] ≠ [] := by
  cases hf : finsL L with
  | nil => exact absurd hf (fins_ne hL h)
  | cons y r =>
    rw [List.map_cons, Lib.join_cons]
    have := dec_ne y
    simp [this]

theorem pre_no {s : List UInt8} (h : Lib.hasPrefix s [123] = false) (L : Nat) : s ≠ showL L := by
  rintro rfl
  simp [Lib.hasPrefix, showL, List.isPrefixOf] at h
theorem pre_yes {s : List UInt8} (h : Lib.hasPrefix s [123] = true) : s = 123 :: Lib.trimPrefix s [123] := by
  cases s with
  | nil => simp [Lib.hasPrefix] at h
  | cons c r =>
    have hc : c = 123 := by simpa [Lib.hasPrefix, List.isPrefixOf] using Eq.symm (by simpa [Lib.hasPrefix, List.isPrefixOf] using h)
    subst hc
    simp [Lib.trimPrefix, h]
theorem suf_no {s : List UInt8} (h : Lib.hasSuffix s [125] = false) (L : Nat) : 123 :: s ≠ showL L := by
  intro he
  obtain rfl := (List.cons.inj he).2
  have : Lib.hasSuffix (Lib.join ((finsL L).map fun y => Lib.decDigits y.val) [44] ++ [125]) [125] = true := by
    unfold Lib.hasSuffix
    rw [List.isSuffixOf_iff_suffix]
    exact List.suffix_append _ _
  rw [this] at h
  cases h
theorem suf_yes {s : List UInt8} (h : Lib.hasSuffix s [125] = true) : s = Lib.trimSuffix s [125] ++ [125] := by
  have h' := h
  unfold Lib.hasSuffix at h'
  rw [List.isSuffixOf_iff_suffix] at h'
  obtain ⟨t, rfl⟩ := h'
  simp [Lib.trimSuffix, h]
theorem show_inner {t : List UInt8} {L : Nat} : 123 :: (t ++ [125]) = showL L ↔ t = Lib.join ((finsL L).map fun y => Lib.decDigits y.val) [44] := by
  simp [showL]
theorem show_zero_iff {t : List UInt8} {L : Nat} (hL : L < M64) (h : t = Lib.join ((finsL L).map fun y => Lib.decDigits y.val) [44]) (ht : t ≠ []) : L ≠ 0 := by
  rintro rfl
  rw [finsL_zero] at h
  exact ht h

theorem part_le (sep : ByteArray) : ∀ (k : Nat) (s p : ByteArray), p ∈ Lib.splitB sep 0 k s → p.size ≤ s.size
  | 0, s, p, h => by
    rw [Lib.splitB_zero] at h
    rw [List.mem_singleton.1 h]
    exact Nat.le_refl _
  | k + 1, s, p, h => by
    rcases Lib.indexB_cases s sep with hix | ⟨i, hix, _⟩
    · rw [Lib.splitB_miss _ _ _ _ hix] at h
      rw [List.mem_singleton.1 h]
      exact Nat.le_refl _
    · rw [Lib.splitB_hit _ _ _ _ i hix] at h
      rcases List.mem_cons.1 h with rfl | h
      · rw [ByteArray.size_extract]; omega
      · have := part_le sep k _ p h
        rw [ByteArray.size_extract] at this
        omega

end LabelM
end Go.Proofs.YtlmckgghickahaaDoor
