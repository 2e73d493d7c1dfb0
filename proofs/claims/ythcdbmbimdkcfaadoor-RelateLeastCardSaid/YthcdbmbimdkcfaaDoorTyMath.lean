/- What types are: which may be, their kinds, what is left open. Plain mathematics. -/
import Derived.Test.YthcdbmbimdkcfaaDoorTy1
import Derived.Test.YthcdbmbimdkcfaaDoorTyName
namespace Go.Proofs.YthcdbmbimdkcfaaDoor
namespace TyD
open LexD (nameB)

def flatB (k : Int) : Bool := decide (0 ≤ k) && decide (k ≤ 7)
def okAt (l : List ByteArray) (n : Nat) : Bool := nameB (l.getD n ⟨#[]⟩) && (decide (n = 0) || decide ((l.getD (n - 1) ⟨#[]⟩).data.toList < (l.getD n ⟨#[]⟩).data.toList))
def risingK (l : List ByteArray) (k : Nat) : Bool := (List.range k).all (okAt l)
def risingB (l : List ByteArray) : Bool := risingK l l.length
def memB : Int → List Ty → Bool
  | _, [] => true
  | last, t :: r => decide (last < t.kind) && decide (t.kind ≤ 6) && memB t.kind r
def partsB (k : Int) (ns : List ByteArray) (ls : List Ty) : Bool :=
  if k = 7 then decide (ns.length = 0) && decide (2 ≤ ls.length) && memB 0 ls
  else if k = 8 then decide (ns.length = ls.length) && risingB ns && ls.all (fun a => flatB a.kind)
  else if k = 9 then decide (ns.length = 0) && decide (1 ≤ ls.length)
  else flatB k && decide (ns.length = 0) && decide (ls.length = 0)
/-- The program's visit: how many types were counted; none: it may not be. 'r': how much deeper it may go. -/
def visT : Nat → Ty → Nat → Option Nat
  | 0, _, _ => none
  | r + 1, .mk k ns ls, c => if decide (c + 1 ≤ 10000) && partsB k ns ls then ls.foldlM (fun c a => visT r a c) (c + 1) else none
def checkV (t : Ty) : Bool := (visT 50 t 0).isSome
/-- What may be, but for how many there are. -/
def validB : Nat → Ty → Bool
  | 0, _ => false
  | r + 1, .mk k ns ls => partsB k ns ls && ls.all (validB r)
def sizeF : Nat → Ty → Nat
  | 0, _ => 1
  | r + 1, .mk _ _ ls => ls.foldl (fun n a => n + sizeF r a) 1
theorem foldl_add {α : Type} (f : α → Nat) : ∀ (l : List α) (n : Nat), l.foldl (fun n a => n + f a) n = n + l.foldl (fun n a => n + f a) 0
  | [], n => rfl
  | a :: l, n => by
    rw [List.foldl_cons, List.foldl_cons, foldl_add f l (n + f a), foldl_add f l (0 + f a)]
    omega
theorem sizeF_pos : ∀ (r : Nat) (t : Ty), 1 ≤ sizeF r t
  | 0, _ => Nat.le_refl _
  | r + 1, .mk k ns ls => by
    rw [sizeF, foldl_add]
    omega
theorem valid_succ : ∀ (r : Nat) (t : Ty), validB r t = true → validB (r + 1) t = true ∧ sizeF (r + 1) t = sizeF r t
  | 0, _, h => by cases h
  | r + 1, .mk k ns ls, h => by
    rw [validB, Bool.and_eq_true, List.all_eq_true] at h
    refine ⟨?_, ?_⟩
    · rw [validB, Bool.and_eq_true, List.all_eq_true]
      exact ⟨h.1, fun a ha => (valid_succ r a (h.2 a ha)).1⟩
    · rw [sizeF, sizeF]
      have : ∀ (l : List Ty) (n : Nat), (∀ a ∈ l, validB r a = true) → l.foldl (fun n a => n + sizeF (r + 1) a) n = l.foldl (fun n a => n + sizeF r a) n := by
        intro l
        induction l with
        | nil => intro n _; rfl
        | cons a l ih =>
          intro n hl
          rw [List.foldl_cons, List.foldl_cons, (valid_succ r a (hl a (by simp))).2]
          exact ih _ fun b hb => hl b (by simp [hb])
      exact this ls 1 h.2
theorem valid_mono {r s : Nat} {t : Ty} (h : validB r t = true) (hs : r ≤ s) : validB s t = true ∧ sizeF s t = sizeF r t := by
  induction hs with
  | refl => exact ⟨h, rfl⟩
  | step _ ih => exact ⟨(valid_succ _ _ ih.1).1, (valid_succ _ _ ih.1).2.trans ih.2⟩
theorem valid_parts {r : Nat} {k : Int} {ns : List ByteArray} {ls : List Ty} (h : validB r (.mk k ns ls) = true) : partsB k ns ls = true ∧ ∃ q, r = q + 1 ∧ ∀ a ∈ ls, validB q a = true := by
  cases r with
  | zero => cases h
  | succ q =>
    rw [validB, Bool.and_eq_true, List.all_eq_true] at h
    exact ⟨h.1, q, rfl, h.2⟩
theorem vis_some : ∀ (r : Nat) (t : Ty) (c n : Nat), visT r t c = some n → validB r t = true ∧ n = c + sizeF r t ∧ n ≤ 10000
  | 0, _, _, _, h => by cases h
  | r + 1, .mk k ns ls, c, n, h => by
    rw [visT] at h
    split at h
    · rename_i hc
      rw [Bool.and_eq_true, decide_eq_true_eq] at hc
      have key : ∀ (l : List Ty) (c n : Nat), c ≤ 10000 → l.foldlM (fun c a => visT r a c) c = some n → (∀ a ∈ l, validB r a = true) ∧ n = l.foldl (fun n a => n + sizeF r a) c ∧ n ≤ 10000 := by
        intro l
        induction l with
        | nil =>
          intro c n hc h
          rw [List.foldlM_nil] at h
          injection h with h
          subst h
          exact ⟨by simp, rfl, hc⟩
        | cons a l ih =>
          intro c n hc h
          rw [List.foldlM_cons] at h
          obtain ⟨m, h1, h2⟩ := Option.bind_eq_some_iff.1 h
          obtain ⟨g1, g2, g3⟩ := vis_some r a c m h1
          obtain ⟨k1, k2, k3⟩ := ih m n g3 h2
          refine ⟨?_, ?_, k3⟩
          · intro b hb
            rcases List.mem_cons.1 hb with rfl | hb
            · exact g1
            · exact k1 b hb
          · rw [List.foldl_cons, ← g2]
            exact k2
      obtain ⟨k1, k2, k3⟩ := key ls (c + 1) n hc.1 h
      refine ⟨?_, ?_, k3⟩
      · rw [validB, hc.2, Bool.true_and, List.all_eq_true]
        exact k1
      · rw [k2, sizeF, foldl_add, foldl_add (sizeF r) ls 1]
        omega
    · cases h
theorem vis_of : ∀ (r : Nat) (t : Ty) (c : Nat), validB r t = true → c + sizeF r t ≤ 10000 → visT r t c = some (c + sizeF r t)
  | 0, _, _, h, _ => by cases h
  | r + 1, .mk k ns ls, c, h, hs => by
    obtain ⟨hp, q, hq, hv⟩ := valid_parts h
    injection hq with hq
    subst hq
    rw [sizeF, foldl_add] at hs
    rw [visT, hp, decide_eq_true (by omega)]
    simp only [Bool.and_self, if_true]
    have key : ∀ (l : List Ty) (c : Nat), (∀ a ∈ l, validB r a = true) → c + l.foldl (fun n a => n + sizeF r a) 0 ≤ 10000 → l.foldlM (fun c a => visT r a c) c = some (c + l.foldl (fun n a => n + sizeF r a) 0) := by
      intro l
      induction l with
      | nil => intro c _ _; rfl
      | cons a l ih =>
        intro c hl hc
        rw [List.foldl_cons, foldl_add] at hc ⊢
        rw [List.foldlM_cons, vis_of r a c (hl a (by simp)) (by omega)]
        have := ih (c + sizeF r a) (fun b hb => hl b (by simp [hb])) (by omega)
        show List.foldlM _ _ _ = _
        rw [this]
        congr 1
        omega
    have := key ls (c + 1) hv (by omega)
    rw [this, sizeF, foldl_add (sizeF r) ls 1]
    congr 1
    omega
theorem check_iff (t : Ty) : checkV t = true ↔ validB 50 t = true ∧ sizeF 50 t ≤ 10000 := by
  unfold checkV
  constructor
  · intro h
    obtain ⟨n, hn⟩ := Option.isSome_iff_exists.1 h
    obtain ⟨h1, h2, h3⟩ := vis_some _ _ _ _ hn
    exact ⟨h1, by omega⟩
  · rintro ⟨h1, h2⟩
    rw [vis_of 50 t 0 h1 (by omega)]
    rfl
theorem valid_flat {r : Nat} {k : Int} {ns : List ByteArray} {ls : List Ty} (h : validB r (.mk k ns ls) = true) : 0 ≤ k ∧ k ≤ 9 := by
  obtain ⟨hp, -⟩ := valid_parts h
  unfold partsB flatB at hp
  split at hp
  · omega
  · split at hp
    · omega
    · split at hp
      · omega
      · simp at hp
        omega
/-- A part of one that may be may be. -/
theorem size_part {r : Nat} {ls : List Ty} : ∀ {l : List Ty} {a : Ty}, a ∈ l → sizeF r a ≤ l.foldl (fun n a => n + sizeF r a) 0
  | b :: l, a, h => by
    rw [List.foldl_cons, foldl_add]
    rcases List.mem_cons.1 h with rfl | h
    · omega
    · have := size_part (r := r) (ls := ls) h
      omega
theorem check_part {k : Int} {ns : List ByteArray} {ls : List Ty} (h : checkV (.mk k ns ls) = true) {a : Ty} (ha : a ∈ ls) : checkV a = true := by
  rw [check_iff] at h ⊢
  obtain ⟨h1, h2⟩ := h
  obtain ⟨-, q, hq, hv⟩ := valid_parts h1
  have hq' : q = 49 := by omega
  subst hq'
  have hva := valid_mono (hv a ha) (show 49 ≤ 50 by omega)
  refine ⟨hva.1, ?_⟩
  rw [hva.2]
  rw [sizeF, foldl_add] at h2
  have := size_part (r := 49) (ls := ls) ha
  omega
theorem check_parts {t : Ty} (h : checkV t = true) : partsB t.kind t.names t.args = true := by
  obtain ⟨k, ns, ls⟩ := t
  exact (valid_parts ((check_iff _).1 h).1).1
/-- The document's way to check. -/
def memBare (ls : List Ty) : Bool := ls.all fun a => decide (a.names.length = 0) && decide (a.args.length = 0)
def refT : Nat → Ty → Nat → Option Nat
  | 0, _, _ => none
  | r + 1, .mk k ns ls, c =>
    if decide (c + 1 ≤ 10000) then
      if k = 7 then if (decide (1 ≤ r) || decide (ls.length = 0)) && memB 0 ls && memBare ls && decide (ns.length = 0) && decide (2 ≤ ls.length) then some (c + 1 + ls.length) else none
      else if k = 8 then if decide (ns.length = ls.length) && risingB ns && ls.all (fun a => flatB a.kind) then ls.foldlM (fun c a => refT r a c) (c + 1) else none
      else if k = 9 then if decide (ns.length = 0) && decide (1 ≤ ls.length) then ls.foldlM (fun c a => refT r a c) (c + 1) else none
      else if flatB k && decide (ns.length = 0) && decide (ls.length = 0) then some (c + 1) else none
    else none
def refCheckV (t : Ty) : Bool := match refT 50 t 0 with | some n => decide (n ≤ 10000) | none => false
theorem mem_kinds : ∀ {last : Int} {ls : List Ty}, memB last ls = true → ∀ a ∈ ls, last < a.kind ∧ a.kind ≤ 6
  | last, t :: r, h, a, ha => by
    simp only [memB, Bool.and_eq_true, decide_eq_true_eq] at h
    rcases List.mem_cons.1 ha with rfl | ha
    · exact ⟨h.1.1, h.1.2⟩
    · have := mem_kinds h.2 a ha
      omega
theorem bare_valid {a : Ty} (hk : 0 < a.kind ∧ a.kind ≤ 6) (r : Nat) : validB (r + 1) a = true ↔ a.names.length = 0 ∧ a.args.length = 0 := by
  obtain ⟨k, ns, ls⟩ := a
  simp only [Ty.kind] at hk
  simp only [validB, partsB, flatB, Ty.names, Ty.args, show ¬ k = 7 by omega, show ¬ k = 8 by omega, show ¬ k = 9 by omega, if_false, Bool.and_eq_true, decide_eq_true_eq]
  constructor
  · rintro ⟨⟨⟨-, h1⟩, h2⟩, -⟩
    exact ⟨h1, h2⟩
  · rintro ⟨h1, h2⟩
    refine ⟨⟨⟨⟨by omega, by omega⟩, h1⟩, h2⟩, ?_⟩
    rw [List.eq_nil_of_length_eq_zero h2]
    rfl
theorem bare_size {a : Ty} (h : a.args.length = 0) (r : Nat) : sizeF r a = 1 := by
  obtain ⟨k, ns, ls⟩ := a
  simp only [Ty.args] at h
  rw [List.eq_nil_of_length_eq_zero h]
  cases r <;> rfl
theorem bare_sizes (r : Nat) : ∀ (l : List Ty), (∀ a ∈ l, a.args.length = 0) → l.foldl (fun n a => n + sizeF r a) 0 = l.length
  | [], _ => rfl
  | a :: l, h => by
    rw [List.foldl_cons, foldl_add, bare_size (h a (by simp)), bare_sizes r l fun b hb => h b (by simp [hb])]
    simp
    omega
theorem ref_some : ∀ (r : Nat) (t : Ty) (c n : Nat), refT r t c = some n → validB r t = true ∧ n = c + sizeF r t
  | 0, _, _, _, h => by cases h
  | r + 1, .mk k ns ls, c, n, h => by
    have key : ∀ (l : List Ty) (c n : Nat), l.foldlM (fun c a => refT r a c) c = some n → (∀ a ∈ l, validB r a = true) ∧ n = l.foldl (fun n a => n + sizeF r a) c := by
      intro l
      induction l with
      | nil =>
        intro c n h
        rw [List.foldlM_nil] at h
        injection h with h
        subst h
        exact ⟨by simp, rfl⟩
      | cons a l ih =>
        intro c n h
        rw [List.foldlM_cons] at h
        obtain ⟨m, h1, h2⟩ := Option.bind_eq_some_iff.1 h
        obtain ⟨g1, g2⟩ := ref_some r a c m h1
        obtain ⟨k1, k2⟩ := ih m n h2
        refine ⟨?_, ?_⟩
        · intro b hb
          rcases List.mem_cons.1 hb with rfl | hb
          · exact g1
          · exact k1 b hb
        · rw [List.foldl_cons, ← g2]
          exact k2
    rw [refT] at h
    split at h
    · split at h
      · rename_i hk
        split at h
        · rename_i hc
          injection h with h
          simp only [Bool.and_eq_true, Bool.or_eq_true, decide_eq_true_eq] at hc
          obtain ⟨⟨⟨⟨h1, h2⟩, h3⟩, h4⟩, h5⟩ := hc
          have hr : ∃ q, r = q + 1 := ⟨r - 1, by omega⟩
          obtain ⟨q, rfl⟩ := hr
          have hm := mem_kinds h2
          simp only [memBare, List.all_eq_true, Bool.and_eq_true, decide_eq_true_eq] at h3
          refine ⟨?_, ?_⟩
          · rw [validB]
            simp only [partsB, hk, if_true, Bool.and_eq_true, decide_eq_true_eq, List.all_eq_true]
            exact ⟨⟨⟨h4, h5⟩, h2⟩, fun a ha => (bare_valid (hm a ha) q).2 (h3 a ha)⟩
          · rw [sizeF, foldl_add, bare_sizes _ _ fun a ha => (h3 a ha).2]
            omega
        · cases h
      · split at h
        · rename_i h7 h8
          split at h
          · rename_i hc
            obtain ⟨k1, k2⟩ := key _ _ _ h
            refine ⟨?_, ?_⟩
            · rw [validB, Bool.and_eq_true, List.all_eq_true]
              refine ⟨?_, k1⟩
              unfold partsB
              rw [if_neg h7, if_pos h8]
              exact hc
            · rw [k2, sizeF, foldl_add, foldl_add (sizeF r) ls 1]
              omega
          · cases h
        · split at h
          · rename_i h7 h8 h9
            split at h
            · rename_i hc
              obtain ⟨k1, k2⟩ := key _ _ _ h
              refine ⟨?_, ?_⟩
              · rw [validB, Bool.and_eq_true, List.all_eq_true]
                refine ⟨?_, k1⟩
                unfold partsB
                rw [if_neg h7, if_neg h8, if_pos h9]
                exact hc
              · rw [k2, sizeF, foldl_add, foldl_add (sizeF r) ls 1]
                omega
            · cases h
          · rename_i h7 h8 h9
            split at h
            · rename_i hc
              injection h with h
              have hc' := hc
              simp only [Bool.and_eq_true, decide_eq_true_eq] at hc
              have he := List.eq_nil_of_length_eq_zero hc.2
              subst he
              refine ⟨?_, ?_⟩
              · rw [validB, Bool.and_eq_true]
                refine ⟨?_, rfl⟩
                unfold partsB
                rw [if_neg h7, if_neg h8, if_neg h9]
                exact hc'
              · rw [← h]
                rfl
            · cases h
    · cases h
theorem ref_of : ∀ (r : Nat) (t : Ty) (c : Nat), validB r t = true → c + sizeF r t ≤ 10000 → refT r t c = some (c + sizeF r t)
  | 0, _, _, h, _ => by cases h
  | r + 1, .mk k ns ls, c, h, hs => by
    obtain ⟨hp, q, hq, hv⟩ := valid_parts h
    injection hq with hq
    subst hq
    rw [sizeF, foldl_add] at hs
    have key : ∀ (l : List Ty) (c : Nat), (∀ a ∈ l, validB r a = true) → c + l.foldl (fun n a => n + sizeF r a) 0 ≤ 10000 → l.foldlM (fun c a => refT r a c) c = some (c + l.foldl (fun n a => n + sizeF r a) 0) := by
      intro l
      induction l with
      | nil => intro c _ _; rfl
      | cons a l ih =>
        intro c hl hc
        rw [List.foldl_cons, foldl_add] at hc ⊢
        rw [List.foldlM_cons, ref_of r a c (hl a (by simp)) (by omega)]
        have := ih (c + sizeF r a) (fun b hb => hl b (by simp [hb])) (by omega)
        show List.foldlM _ _ _ = _
        rw [this]
        congr 1
        omega
    have hkey := key ls (c + 1) hv (by omega)
    have hsz : some (c + 1 + ls.foldl (fun n a => n + sizeF r a) 0) = some (c + ls.foldl (fun n a => n + sizeF r a) 1) := by
      rw [foldl_add (sizeF r) ls 1]
      congr 1
      omega
    rw [refT, decide_eq_true (by omega), if_pos rfl, sizeF]
    unfold partsB at hp
    split at hp
    · rename_i h7
      rw [if_pos h7]
      simp only [Bool.and_eq_true, decide_eq_true_eq] at hp
      obtain ⟨⟨h1, h2⟩, h3⟩ := hp
      have hm := mem_kinds h3
      have hr : ∃ q, r = q + 1 := by
        cases r with
        | zero =>
          match ls, h2, hv with
          | a :: _, _, hv => exact absurd (hv a (by simp)) (by simp [validB])
        | succ q => exact ⟨q, rfl⟩
      obtain ⟨q, rfl⟩ := hr
      have hb : ∀ a ∈ ls, a.names.length = 0 ∧ a.args.length = 0 := fun a ha => (bare_valid (hm a ha) q).1 (hv a ha)
      have hbare : memBare ls = true := by
        simp only [memBare, List.all_eq_true, Bool.and_eq_true, decide_eq_true_eq]
        exact hb
      rw [h3, hbare, decide_eq_true h1, decide_eq_true h2, decide_eq_true (show 1 ≤ q + 1 by omega)]
      simp only [Bool.true_or, Bool.and_self, if_true]
      rw [foldl_add, bare_sizes _ _ fun a ha => (hb a ha).2]
      congr 1
      omega
    · rename_i h7
      rw [if_neg h7]
      split at hp
      · rename_i h8
        rw [if_pos h8, hp, if_pos rfl, hkey, hsz]
      · rename_i h8
        rw [if_neg h8]
        split at hp
        · rename_i h9
          rw [if_pos h9, hp, if_pos rfl, hkey, hsz]
        · rename_i h9
          rw [if_neg h9, hp, if_pos rfl]
          simp only [Bool.and_eq_true, decide_eq_true_eq] at hp
          rw [List.eq_nil_of_length_eq_zero hp.2]
          rfl
theorem refCheck_eq (t : Ty) : refCheckV t = checkV t := by
  rw [Bool.eq_iff_iff, check_iff]
  unfold refCheckV
  constructor
  · intro h
    split at h
    · rename_i n hn
      obtain ⟨h1, h2⟩ := ref_some _ _ _ _ hn
      rw [decide_eq_true_eq] at h
      exact ⟨h1, by omega⟩
    · cases h
  · rintro ⟨h1, h2⟩
    rw [ref_of 50 t 0 h1 (by omega)]
    simpa using h2
/-- Alike. -/
def eqF : Nat → Ty → Ty → Bool
  | 0, _, _ => false
  | r + 1, .mk k ns ls, .mk k' ns' ls' => decide (k = k') && decide (ns = ns') && decide (ls.length = ls'.length) && (ls.zip ls').all fun x => eqF r x.1 x.2
theorem eqF_iff : ∀ (r : Nat) (a b : Ty), validB r a = true → (eqF r a b = true ↔ a = b)
  | 0, _, _, h => by cases h
  | r + 1, .mk k ns ls, .mk k' ns' ls', h => by
    obtain ⟨-, q, hq, hv⟩ := valid_parts h
    injection hq with hq
    subst hq
    have key : ∀ (l m : List Ty), (∀ a ∈ l, validB r a = true) → l.length = m.length → ((l.zip m).all (fun x => eqF r x.1 x.2) = true ↔ l = m) := by
      intro l
      induction l with
      | nil =>
        intro m _ hm
        have : m = [] := List.eq_nil_of_length_eq_zero hm.symm
        subst this
        simp
      | cons a l ih =>
        intro m hl hm
        cases m with
        | nil => cases hm
        | cons b m =>
          rw [List.zip_cons_cons, List.all_cons, Bool.and_eq_true, eqF_iff r a b (hl a (by simp)), ih m (fun c hc => hl c (by simp [hc])) (by simpa using hm)]
          simp
    simp only [eqF, Bool.and_eq_true, decide_eq_true_eq]
    constructor
    · rintro ⟨⟨⟨rfl, rfl⟩, hl⟩, h2⟩
      rw [(key ls ls' hv hl).1 h2]
    · intro e
      injection e with e1 e2 e3
      subst e1 e2 e3
      exact ⟨⟨⟨rfl, rfl⟩, rfl⟩, (key ls ls hv rfl).2 rfl⟩
/-- The kinds of values. -/
def kindOf (k : Int) : Nat := if k = 0 then 127 else if k = 1 then 1 else if k = 2 then 2 else if k = 3 then 4 else if k = 4 then 8 else if k = 5 then 16 else 64
def kindsV : Ty → Nat
  | .mk k _ ls => if k = 7 then ls.foldl (fun m a => m ||| kindOf a.kind) 0 else if k = 8 then 16 else if k = 9 then 32 else kindOf k
def kindsC (t : Ty) : Nat := if checkV t then kindsV t else 0
/-- Something is left open. -/
def vagF : Nat → Ty → Bool
  | 0, _ => false
  | r + 1, .mk k _ ls => decide (k = 0) || decide (k = 5) || ls.any (vagF r)
def vagueV (t : Ty) : Bool := !checkV t || vagF 50 t
def sameV (a b : Ty) : Bool := checkV a && checkV b && eqF 50 a b
theorem sameV_iff (a b : Ty) : sameV a b = true ↔ checkV a = true ∧ a = b := by
  unfold sameV
  rw [Bool.and_eq_true, Bool.and_eq_true]
  constructor
  · rintro ⟨⟨h1, h2⟩, h3⟩
    exact ⟨h1, (eqF_iff 50 a b ((check_iff a).1 h1).1).1 h3⟩
  · rintro ⟨h1, rfl⟩
    exact ⟨⟨h1, h1⟩, (eqF_iff 50 a a ((check_iff a).1 h1).1).2 rfl⟩
end TyD
end Go.Proofs.YthcdbmbimdkcfaaDoor
