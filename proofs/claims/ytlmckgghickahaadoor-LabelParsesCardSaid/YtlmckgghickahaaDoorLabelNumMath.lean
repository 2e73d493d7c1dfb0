/- A label's text read from its front, number by number: just what is shown is read. No program in this text. -/
import Derived.Test.YtlmckgghickahaaDoorLabelText
namespace Go.Proofs.YtlmckgghickahaaDoor
namespace LabelM

def dig (a : UInt8) : Prop := 48 ≤ a.toNat ∧ a.toNat ≤ 57
instance (a : UInt8) : Decidable (dig a) := inferInstanceAs (Decidable (_ ∧ _))
/-- A number at the front: it, what is behind it, whether it may be. -/
def numM : List UInt8 → Nat × List UInt8 × Bool
  | [] => (0, [], false)
  | a :: r =>
    if dig a then
      match r with
      | [] => (a.toNat - 48, [], true)
      | b :: t => if dig b then (10 * (a.toNat - 48) + (b.toNat - 48), t, decide (10 * (a.toNat - 48) + (b.toNat - 48) < 64) && decide (a.toNat ≠ 48)) else (a.toNat - 48, b :: t, true)
    else (0, a :: r, false)
/-- The text from a place on, as the loop reads it. -/
def goM : Nat → UInt8 → List UInt8 → Nat → Int → Option Nat
  | 0, _, _, _, _ => none
  | _ + 1, _, [], _, _ => none
  | n + 1, want, c :: t, out, last =>
    if c ≠ want then none
    else if (numM t).2.2 = false ∨ ((numM t).1 : Int) ≤ last then none
    else if (numM t).2.1 = [125] then some (out ||| 2 ^ (numM t).1)
    else goM n 44 (numM t).2.1 (out ||| 2 ^ (numM t).1) (numM t).1

theorem num_len (t : List UInt8) : (numM t).2.1.length ≤ t.length := by
  unfold numM
  split
  · simp
  · split
    · split
      · simp
      · split <;> simp
        omega
    · simp
theorem dec_shape : ∀ y : Fin 64, (y.val < 10 ∧ Lib.decDigits y.val = [UInt8.ofNat (48 + y.val)]) ∨ (10 ≤ y.val ∧ Lib.decDigits y.val = [UInt8.ofNat (48 + y.val / 10), UInt8.ofNat (48 + y.val % 10)]) := by decide +kernel
theorem one_shape : ∀ k : Fin 10, dig (UInt8.ofNat (48 + k.val)) ∧ (UInt8.ofNat (48 + k.val)).toNat = 48 + k.val := by decide +kernel
theorem num_dec (y : Fin 64) (c : UInt8) (t : List UInt8) (hc : ¬ dig c) : numM (Lib.decDigits y.val ++ c :: t) = (y.val, c :: t, true) := by
  rcases dec_shape y with ⟨h1, h2⟩ | ⟨h1, h2⟩
  · obtain ⟨d1, d2⟩ := one_shape ⟨y.val, h1⟩
    simp only at d1 d2
    rw [h2, List.singleton_append]
    unfold numM
    simp only [if_pos d1, if_neg hc, d2]
    simp
  · obtain ⟨d1, d2⟩ := one_shape ⟨y.val / 10, by omega⟩
    obtain ⟨e1, e2⟩ := one_shape ⟨y.val % 10, by omega⟩
    simp only at d1 d2 e1 e2
    rw [h2]
    simp only [List.cons_append, List.nil_append]
    unfold numM
    simp only [if_pos d1, if_pos e1, d2, e2]
    have := y.isLt
    have h3 : 10 * (48 + y.val / 10 - 48) + (48 + y.val % 10 - 48) = y.val := by omega
    rw [h3]
    simp
    omega
theorem ofDig {a : UInt8} (h : dig a) : ∃ k : Fin 10, a = UInt8.ofNat (48 + k.val) := by
  obtain ⟨h1, h2⟩ := h
  exact ⟨⟨a.toNat - 48, by omega⟩, by apply UInt8.toNat_inj.1; simp; omega⟩
theorem num_ok {t : List UInt8} {k : Nat} {r : List UInt8} (h : numM t = (k, r, true)) : ∃ y : Fin 64, y.val = k ∧ t = Lib.decDigits y.val ++ r := by
  unfold numM at h
  split at h
  · simp at h
  · rename_i a u
    split at h
    · rename_i hd
      obtain ⟨ka, rfl⟩ := ofDig hd
      have d2 := (one_shape ka).2
      have hka := ka.isLt
      have hone : Lib.decDigits ka.val = [UInt8.ofNat (48 + ka.val)] := by
        rcases dec_shape ⟨ka.val, by omega⟩ with ⟨-, h2⟩ | ⟨h1, -⟩
        · exact h2
        · simp at h1; omega
      split at h
      · simp only [Prod.mk.injEq] at h
        obtain ⟨rfl, rfl, -⟩ := h
        refine ⟨⟨ka.val, by omega⟩, by rw [d2]; simp, ?_⟩
        simp [hone]
      · rename_i b t2
        split at h
        · rename_i hb
          obtain ⟨kb, rfl⟩ := ofDig hb
          have e2 := (one_shape kb).2
          have hkb := kb.isLt
          simp only [Prod.mk.injEq, d2, e2, Bool.and_eq_true, decide_eq_true_eq] at h
          obtain ⟨rfl, rfl, h3, h4⟩ := h
          refine ⟨⟨10 * ka.val + kb.val, by omega⟩, by simp, ?_⟩
          rcases dec_shape ⟨10 * ka.val + kb.val, by omega⟩ with ⟨h1, -⟩ | ⟨-, h2⟩
          · simp at h1; omega
          · simp only at h2
            rw [show (10 * ka.val + kb.val) / 10 = ka.val by omega, show (10 * ka.val + kb.val) % 10 = kb.val by omega] at h2
            simp only [h2]
            rfl
        · simp only [Prod.mk.injEq, d2] at h
          obtain ⟨rfl, rfl, -⟩ := h
          refine ⟨⟨ka.val, by omega⟩, by simp, ?_⟩
          simp only [hone]
          rfl
    · simp at h

/-- A list that rises, all above a number. -/
def Rises (last : Int) : List (Fin 64) → Prop
  | [] => True
  | y :: r => last < (y.val : Int) ∧ Rises y.val r
theorem rises_lt : ∀ (r : List (Fin 64)) (a : Int), Rises a r → ∀ y ∈ r, a < (y.val : Int)
  | [], _, _, _, h => by cases h
  | x :: r, a, ⟨h1, h2⟩, y, hy => by
    rcases List.mem_cons.1 hy with rfl | hy
    · exact h1
    · have := rises_lt r _ h2 y hy
      omega
theorem rises_pairwise : ∀ (r : List (Fin 64)) (a : Int), Rises a r → r.Pairwise (· < ·)
  | [], _, _ => List.Pairwise.nil
  | x :: r, _, ⟨_, h2⟩ => List.Pairwise.cons (fun y hy => by have := rises_lt r _ h2 y hy; exact Fin.lt_def.2 (by omega)) (rises_pairwise r _ h2)
theorem pairwise_rises : ∀ (r : List (Fin 64)) (a : Int), r.Pairwise (· < ·) → (∀ y ∈ r, a < (y.val : Int)) → Rises a r
  | [], _, _, _ => trivial
  | x :: r, _, h, ha => ⟨ha x (List.mem_cons_self), pairwise_rises r _ (List.pairwise_cons.1 h).2 fun y hy => by
      have := (List.pairwise_cons.1 h).1 y hy
      have := Fin.lt_def.1 this
      omega⟩
def foldL (ks : List (Fin 64)) (out : Nat) : Nat := ks.foldl (fun a y => a ||| 2 ^ y.val) out
theorem join_end (k : Fin 64) (r : List (Fin 64)) :
    Lib.join ((k :: r).map fun y => Lib.decDigits y.val) [44] ++ [125] = Lib.decDigits k.val ++ (match r with | [] => [125] | q :: s => 44 :: (Lib.join ((q :: s).map fun y => Lib.decDigits y.val) [44] ++ [125])) := by
  cases r with
  | nil => simp [Lib.join_one]
  | cons q s =>
    rw [List.map_cons, Lib.join_cons]
    simp only [List.map_cons]
    rw [Lib.join_cons]
    simp [Lib.joinTail]
theorem go_complete : ∀ (ks : List (Fin 64)) (n : Nat) (want : UInt8) (out : Nat) (last : Int), ks ≠ [] → ks.length < n + 1 → Rises last ks →
    goM n want (want :: (Lib.join (ks.map fun y => Lib.decDigits y.val) [44] ++ [125])) out last = some (foldL ks out)
  | [], _, _, _, _, h, _, _ => absurd rfl h
  | k :: r, 0, _, _, _, _, h, _ => by simp at h
  | k :: r, n + 1, want, out, last, _, h, ⟨h1, h2⟩ => by
    rw [join_end]
    unfold goM
    have d44 : ¬ dig 44 := by decide
    have d125 : ¬ dig 125 := by decide
    cases r with
    | nil =>
      simp only [num_dec k 125 [] d125]
      simp [foldL]
      omega
    | cons q s =>
      simp only [num_dec k 44 _ d44]
      rw [if_neg (by simp), if_neg (by simp; omega), if_neg (by simp)]
      rw [go_complete (q :: s) n 44 _ _ (by simp) (by simp at h ⊢; omega) h2]
      rfl
theorem go_sound : ∀ (n : Nat) (want : UInt8) (s : List UInt8) (out : Nat) (last : Int) (L : Nat), goM n want s out last = some L →
    ∃ ks : List (Fin 64), ks ≠ [] ∧ Rises last ks ∧ s = want :: (Lib.join (ks.map fun y => Lib.decDigits y.val) [44] ++ [125]) ∧ L = foldL ks out
  | 0, _, _, _, _, _, h => by simp [goM] at h
  | _ + 1, _, [], _, _, _, h => by simp [goM] at h
  | n + 1, want, c :: t, out, last, L, h => by
    unfold goM at h
    split at h
    · cases h
    rename_i hc
    have hc' : c = want := by simpa using hc
    subst hc'
    split at h
    · cases h
    rename_i hk
    rw [not_or] at hk
    obtain ⟨hk1, hk2⟩ := hk
    have hnum : numM t = ((numM t).1, (numM t).2.1, true) := by
      have : (numM t).2.2 = true := by simpa using hk1
      rw [← this]
    obtain ⟨y, hy1, hy2⟩ := num_ok hnum
    split at h
    · rename_i hr
      rw [hr] at hy2
      injection h with h
      refine ⟨[y], by simp, ⟨by omega, trivial⟩, ?_, ?_⟩
      · rw [join_end]
        simp [hy2]
      · rw [← h, ← hy1]
        rfl
    · obtain ⟨ks, h1, h2, h3, h4⟩ := go_sound n 44 _ _ _ _ h
      refine ⟨y :: ks, by simp, ⟨by omega, by rw [hy1]; exact h2⟩, ?_, ?_⟩
      · rw [join_end]
        cases ks with
        | nil => exact absurd rfl h1
        | cons q s =>
          simp only
          rw [← h3, ← hy2]
      · rw [h4, ← hy1]
        rfl
theorem fold_testBit (ks : List (Fin 64)) : ∀ (out i : Nat), (foldL ks out).testBit i = (out.testBit i || ks.any fun y => y.val == i) := by
  induction ks with
  | nil => intro out i; simp [foldL]
  | cons y r ih =>
    intro out i
    unfold foldL at ih ⊢
    rw [List.foldl_cons, ih, Nat.testBit_or, Nat.testBit_two_pow, List.any_cons, Bool.or_assoc]
    congr 2
theorem foldL_lt (ks : List (Fin 64)) : foldL ks 0 < M64 := by
  refine Nat.lt_of_not_le fun h => ?_
  obtain ⟨i, hi, hb⟩ := Nat.exists_ge_and_testBit_of_ge_two_pow (show 2 ^ 64 ≤ foldL ks 0 from h)
  rw [fold_testBit, Nat.zero_testBit, Bool.false_or, List.any_eq_true] at hb
  obtain ⟨y, -, hy⟩ := hb
  have := y.isLt
  simp at hy
  omega
theorem fins_pairwise (L : Nat) : (finsL L).Pairwise (· < ·) := List.Pairwise.filter _ (List.pairwise_lt_finRange 64)
theorem eq_of_rising : ∀ (a b : List (Fin 64)), a.Pairwise (· < ·) → b.Pairwise (· < ·) → (∀ y, y ∈ a ↔ y ∈ b) → a = b
  | [], [], _, _, _ => rfl
  | [], y :: r, _, _, h => absurd ((h y).2 (List.mem_cons_self)) (by simp)
  | y :: r, [], _, _, h => absurd ((h y).1 (List.mem_cons_self)) (by simp)
  | x :: r, y :: s, ha, hb, h => by
    have ha' := List.pairwise_cons.1 ha
    have hb' := List.pairwise_cons.1 hb
    have hxy : x = y := by
      rcases List.mem_cons.1 ((h x).1 (List.mem_cons_self)) with h1 | h1
      · exact h1
      · rcases List.mem_cons.1 ((h y).2 (List.mem_cons_self)) with h2 | h2
        · exact h2.symm
        · have := Fin.lt_def.1 (ha'.1 y h2)
          have := Fin.lt_def.1 (hb'.1 x h1)
          omega
    subst hxy
    congr 1
    refine eq_of_rising r s ha'.2 hb'.2 fun z => ⟨fun hz => ?_, fun hz => ?_⟩
    · rcases List.mem_cons.1 ((h z).1 (List.mem_cons_of_mem _ hz)) with h1 | h1
      · subst h1
        have := Fin.lt_def.1 (ha'.1 z hz)
        omega
      · exact h1
    · rcases List.mem_cons.1 ((h z).2 (List.mem_cons_of_mem _ hz)) with h1 | h1
      · subst h1
        have := Fin.lt_def.1 (hb'.1 z hz)
        omega
      · exact h1
theorem fins_fold {ks : List (Fin 64)} {a : Int} (h : Rises a ks) : finsL (foldL ks 0) = ks := by
  refine eq_of_rising _ _ (fins_pairwise _) (rises_pairwise _ _ h) fun y => ?_
  unfold finsL
  rw [List.mem_filter, fold_testBit, Nat.zero_testBit, Bool.false_or, List.any_eq_true]
  constructor
  · rintro ⟨-, z, hz, hzy⟩
    have : z = y := Fin.ext (by simpa using hzy)
    exact this ▸ hz
  · exact fun hy => ⟨List.mem_finRange _, y, hy, by simp⟩
theorem fold_fins' {L : Nat} (hL : L < M64) : foldL (finsL L) 0 = L := by
  refine Nat.eq_of_testBit_eq fun i => ?_
  rw [fold_testBit, Nat.zero_testBit, Bool.false_or]
  by_cases hi : i < 64
  · rw [Bool.eq_iff_iff, List.any_eq_true]
    constructor
    · rintro ⟨y, hy, hyi⟩
      have h1 := (List.mem_filter.1 hy).2
      rw [beq_iff_eq] at hyi
      rw [← hyi]
      exact h1
    · intro h
      exact ⟨⟨i, hi⟩, List.mem_filter.2 ⟨List.mem_finRange _, h⟩, by simp⟩
  · rw [testBit_big hL (by omega)]
    rw [List.any_eq_false]
    intro y _
    have := y.isLt
    simp
    omega
/-- What the loop finds is just the label that is shown so. -/
theorem go_some {n : Nat} {s : List UInt8} {L : Nat} (h : goM n 123 s 0 (-1) = some L) : L < M64 ∧ s = showL L := by
  obtain ⟨ks, h1, h2, h3, rfl⟩ := go_sound _ _ _ _ _ _ h
  refine ⟨foldL_lt ks, ?_⟩
  unfold showL
  rw [fins_fold h2]
  exact h3
theorem go_none {n : Nat} {s : List UInt8} (hn : s.length < n) (h0 : s ≠ [123, 125]) (h : goM n 123 s 0 (-1) = none) : ∀ L, L < M64 → s ≠ showL L := by
  rintro L hL rfl
  have hne : finsL L ≠ [] := by
    intro he
    apply h0
    simp [showL, he, Lib.join_nil]
  have hlen : (finsL L).length ≤ (showL L).length := by
    have : ∀ ks : List (Fin 64), ks.length ≤ (Lib.join (ks.map fun (y : Fin 64) => Lib.decDigits y.val) [44] ++ [125]).length := by
      intro ks
      induction ks with
      | nil => simp
      | cons k r ih =>
        rw [join_end]
        cases r with
        | nil => simp
        | cons q s => simp at ih ⊢; omega
    have := this (finsL L)
    unfold showL
    rw [List.length_cons]
    omega
  have := go_complete (finsL L) n 123 0 (-1) hne (by omega) (pairwise_rises _ _ (fins_pairwise L) fun y _ => by omega)
  unfold showL at h
  rw [h] at this
  cases this
end LabelM
end Go.Proofs.YtlmckgghickahaaDoor
