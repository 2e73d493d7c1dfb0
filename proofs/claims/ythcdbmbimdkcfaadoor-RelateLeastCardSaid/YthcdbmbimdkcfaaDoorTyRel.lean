/- How types stand to one another. Plain mathematics. -/
import Derived.Test.YthcdbmbimdkcfaaDoorTyMath
namespace Go.Proofs.YthcdbmbimdkcfaaDoor
namespace TyD

def anyT : Ty := .mk 0 [] []
def look (a : Ty) (s : ByteArray) : Option Ty := ((a.names.zip a.args).find? fun x => decide (x.1 = s)).map (·.2)
def fieldsB (p : Ty → Ty → Bool) (a b : Ty) : Bool := (b.names.zip b.args).all fun x => match look a x.1 with | none => false | some y => p y x.2
def arrowB (p : Ty → Ty → Bool) (ls bs : List Ty) : Bool := decide (ls.length = bs.length) && (ls.dropLast.zip bs.dropLast).all (fun x => p x.2 x.1) && p (ls.getLastD anyT) (bs.getLastD anyT)
def maskB (x y : Nat) : Bool := decide (x &&& y = x)
def subB : Nat → Ty → Ty → Bool
  | 0, _, _ => false
  | r + 1, a, b =>
    if b.kind = 0 then true
    else if a.kind = 0 then false
    else if a.kind = 8 ∧ b.kind = 8 then fieldsB sameV a b
    else if a.kind = 9 ∧ b.kind = 9 then arrowB (subB r) a.args b.args
    else if a.kind ≤ 8 then decide (b.kind ≤ 7) && maskB (kindsV a) (kindsV b)
    else false
def suitsE (x y : Ty) : Bool := decide (x.kind = 0) || decide (y.kind = 0) || sameV x y
def easeB : Nat → Ty → Ty → Bool
  | 0, _, _ => false
  | r + 1, a, b =>
    if a.kind = 0 ∨ b.kind = 0 then true
    else if a.kind = 5 ∧ b.kind = 8 then true
    else if a.kind = 8 ∧ b.kind = 8 then fieldsB suitsE a b
    else if a.kind = 9 ∧ b.kind = 9 then arrowB (easeB r) a.args b.args
    else subB (r + 1) a b
def pairB (a b : Ty) : Bool := (decide (a.kind = 8) || decide (a.kind = 9)) && decide (a.kind = b.kind) && decide (a.args.length = b.args.length) && decide (a.names = b.names)
def precB : Nat → Ty → Ty → Bool
  | 0, _, _ => false
  | r + 1, a, b =>
    if b.kind = 0 then true
    else if b.kind = 5 ∧ a.kind = 8 then true
    else if pairB a b then (a.args.zip b.args).all fun x => precB r x.1 x.2
    else sameV a b
def meetF : Nat → Ty → Ty → Option Ty
  | 0, _, _ => none
  | r + 1, a, b =>
    if precB (r + 1) a b then some a
    else if precB (r + 1) b a then some b
    else if pairB a b then ((a.args.zip b.args).mapM fun x => meetF r x.1 x.2).map fun l => .mk a.kind a.names l
    else none
def unionP (p : Nat → Bool) : Ty :=
  let l := ([1, 2, 3, 4, 5, 6].filter p).map fun k => Ty.mk ((k : Nat) : Int) [] []
  match l with
  | [] => anyT
  | [t] => t
  | _ => if l.length = 6 then anyT else .mk 7 [] l
def bitsOf (n : Nat) (k : Nat) : Bool := decide (n &&& kindOf (k : Int) ≠ 0)
def joinV (a b : Ty) : Ty :=
  if checkV a && checkV b then
    if subB 50 a b then b else if subB 50 b a then a else if a.kind ≤ 7 ∧ b.kind ≤ 7 then unionP (bitsOf (kindsV a ||| kindsV b)) else anyT
  else anyT
theorem fieldsB_iff {p : Ty → Ty → Bool} {a b : Ty} : fieldsB p a b = true ↔ ∀ s y, (s, y) ∈ b.names.zip b.args → ∃ x, look a s = some x ∧ p x y = true := by
  unfold fieldsB
  rw [List.all_eq_true]
  constructor
  · intro h s y hm
    have := h _ hm
    simp only at this
    cases hl : look a s with
    | none => rw [hl] at this; cases this
    | some x => rw [hl] at this; exact ⟨x, rfl, this⟩
  · rintro h ⟨s, y⟩ hm
    obtain ⟨x, h1, h2⟩ := h s y hm
    simp only [h1, h2]
theorem look_mem {a : Ty} {s : ByteArray} {x : Ty} (h : look a s = some x) : (s, x) ∈ a.names.zip a.args := by
  unfold look at h
  obtain ⟨⟨s', x'⟩, h1, h2⟩ := Option.map_eq_some_iff.1 h
  simp only at h2
  subst h2
  have h3 := List.mem_of_find?_eq_some h1
  have h4 := List.find?_some h1
  simp only [decide_eq_true_eq] at h4
  subst h4
  exact h3
theorem rising_lt {l : List ByteArray} (h : risingB l = true) : ∀ (j i : Nat), i < j → j < l.length → (l.getD i ⟨#[]⟩).data.toList < (l.getD j ⟨#[]⟩).data.toList := by
  have hk : ∀ n, n < l.length → okAt l n = true := by
    intro n hn
    unfold risingB risingK at h
    rw [List.all_eq_true] at h
    exact h n (by simpa using hn)
  intro j
  induction j with
  | zero => intro i hi; omega
  | succ j ih =>
    intro i hi hj
    have h1 := hk (j + 1) hj
    simp only [okAt, Bool.and_eq_true, Bool.or_eq_true, decide_eq_true_eq, Nat.add_sub_cancel] at h1
    have h2 : (l.getD j ⟨#[]⟩).data.toList < (l.getD (j + 1) ⟨#[]⟩).data.toList := by
      rcases h1.2 with h2 | h2
      · omega
      · exact h2
    by_cases hij : i = j
    · subst hij
      exact h2
    · exact List.lt_trans (ih i (by omega) (by omega)) h2
theorem rising_inj {l : List ByteArray} (h : risingB l = true) {i j : Nat} (hi : i < l.length) (hj : j < l.length) (e : l.getD i ⟨#[]⟩ = l.getD j ⟨#[]⟩) : i = j := by
  rcases Nat.lt_trichotomy i j with h1 | h1 | h1
  · have := rising_lt h j i h1 hj
    rw [e] at this
    exact absurd this (List.lt_irrefl _)
  · exact h1
  · have := rising_lt h i j h1 hi
    rw [e] at this
    exact absurd this (List.lt_irrefl _)
theorem look_of {a : Ty} (hr : risingB a.names = true) {s : ByteArray} {x : Ty} (h : (s, x) ∈ a.names.zip a.args) : look a s = some x := by
  obtain ⟨i, hi⟩ := List.getElem?_of_mem h
  rw [List.getElem?_zip_eq_some] at hi
  obtain ⟨h1, h2⟩ := hi
  unfold look
  cases hf : (a.names.zip a.args).find? fun x => decide (x.1 = s) with
  | none =>
    rw [List.find?_eq_none] at hf
    have := hf _ h
    simp at this
  | some q =>
    obtain ⟨s', y⟩ := q
    have h3 := List.mem_of_find?_eq_some hf
    have h4 := List.find?_some hf
    simp only [decide_eq_true_eq] at h4
    subst h4
    obtain ⟨j, hj⟩ := List.getElem?_of_mem h3
    rw [List.getElem?_zip_eq_some] at hj
    obtain ⟨h5, h6⟩ := hj
    have hil := (List.getElem?_eq_some_iff.1 h1).1
    have hjl := (List.getElem?_eq_some_iff.1 h5).1
    have : i = j := rising_inj hr hil hjl (by simp [List.getD, h1, h5])
    subst this
    rw [h2] at h6
    injection h6 with h6
    subst h6
    rfl
theorem maskB_trans {x y z : Nat} (h1 : maskB x y = true) (h2 : maskB y z = true) : maskB x z = true := by
  simp only [maskB, decide_eq_true_eq] at *
  rw [← h1, Nat.and_assoc, h2]
theorem maskB_refl (x : Nat) : maskB x x = true := by simp [maskB]
/-- What is known of a type that may be, with its depth. -/
structure Ok (r : Nat) (t : Ty) : Prop where
  check : checkV t = true
  valid : validB r t = true
theorem Ok.kind {r : Nat} {t : Ty} (h : Ok r t) : 0 ≤ t.kind ∧ t.kind ≤ 9 := by
  obtain ⟨k, ns, ls⟩ := t
  exact valid_flat h.valid
theorem Ok.pred {r : Nat} {t : Ty} (h : Ok (r + 1) t) : ∀ a ∈ t.args, Ok r a := by
  obtain ⟨k, ns, ls⟩ := t
  intro a ha
  obtain ⟨-, q, hq, hv⟩ := valid_parts h.valid
  injection hq with hq
  subst hq
  exact ⟨check_part h.check ha, hv a ha⟩
theorem Ok.top {t : Ty} (h : checkV t = true) : Ok 50 t := ⟨h, ((check_iff t).1 h).1⟩
theorem Ok.shape {r : Nat} {t : Ty} (h : Ok r t) (hk : t.kind = 8) : t.names.length = t.args.length ∧ risingB t.names = true ∧ ∀ a ∈ t.args, 0 ≤ a.kind ∧ a.kind ≤ 7 := by
  have hp := check_parts h.check
  unfold partsB at hp
  rw [if_neg (by omega), if_pos hk] at hp
  simp only [Bool.and_eq_true, decide_eq_true_eq, List.all_eq_true, flatB] at hp
  exact ⟨hp.1.1, hp.1.2, hp.2⟩
theorem Ok.func {r : Nat} {t : Ty} (h : Ok r t) (hk : t.kind = 9) : t.names.length = 0 ∧ 1 ≤ t.args.length := by
  have hp := check_parts h.check
  unfold partsB at hp
  rw [if_neg (by omega), if_neg (by omega), if_pos hk] at hp
  simpa using hp
theorem Ok.plain {r : Nat} {t : Ty} (h : Ok r t) (hk : t.kind ≤ 6) : t = .mk t.kind [] [] := by
  have hp := check_parts h.check
  unfold partsB at hp
  rw [if_neg (by omega), if_neg (by omega), if_neg (by omega)] at hp
  simp only [Bool.and_eq_true, decide_eq_true_eq] at hp
  obtain ⟨k, ns, ls⟩ := t
  simp only [Ty.names, Ty.args] at hp
  rw [List.eq_nil_of_length_eq_zero hp.1.2, List.eq_nil_of_length_eq_zero hp.2]
  rfl
theorem arrowB_iff {p : Ty → Ty → Bool} {ls bs : List Ty} : arrowB p ls bs = true ↔ ls.length = bs.length ∧ (∀ x y, (x, y) ∈ ls.dropLast.zip bs.dropLast → p y x = true) ∧ p (ls.getLastD anyT) (bs.getLastD anyT) = true := by
  unfold arrowB
  rw [Bool.and_eq_true, Bool.and_eq_true, decide_eq_true_eq, List.all_eq_true, and_assoc]
  constructor
  · rintro ⟨h1, h2, h3⟩
    exact ⟨h1, fun x y hm => h2 _ hm, h3⟩
  · rintro ⟨h1, h2, h3⟩
    exact ⟨h1, fun x hm => h2 x.1 x.2 hm, h3⟩
theorem lastD_mem : ∀ (l : List Ty) (a : Ty), l.getLastD a ∈ a :: l
  | [], a => by simp
  | b :: l, a => by
    rw [List.getLastD_cons]
    exact List.mem_cons_of_mem _ (lastD_mem l b)
theorem last_mem {ls : List Ty} (h : 1 ≤ ls.length) : ls.getLastD anyT ∈ ls := by
  cases ls with
  | nil => simp at h
  | cons a l =>
    rw [List.getLastD_cons]
    exact lastD_mem l a
theorem zip_self {α : Type} {l : List α} {x y : α} (h : (x, y) ∈ l.zip l) : x = y := by
  obtain ⟨i, hi⟩ := List.getElem?_of_mem h
  rw [List.getElem?_zip_eq_some] at hi
  have := hi.1.symm.trans hi.2
  injection this
theorem zip_mid {α : Type} {l m n : List α} (hlm : l.length = m.length) {x z : α} (h : (x, z) ∈ l.zip n) : ∃ y, (x, y) ∈ l.zip m ∧ ∃ i : Nat, l[i]? = some x ∧ m[i]? = some y ∧ n[i]? = some z := by
  obtain ⟨i, hi⟩ := List.getElem?_of_mem h
  rw [List.getElem?_zip_eq_some] at hi
  have hil := (List.getElem?_eq_some_iff.1 hi.1).1
  have hy : m[i]? = some (m[i]'(by omega)) := List.getElem?_eq_getElem (by omega)
  refine ⟨_, List.mem_of_getElem? (i := i) ?_, i, hi.1, hy, hi.2⟩
  rw [List.getElem?_zip_eq_some]
  exact ⟨hi.1, hy⟩
theorem zip_at {α : Type} {l m : List α} {x y : α} {i : Nat} (h1 : l[i]? = some x) (h2 : m[i]? = some y) : (x, y) ∈ l.zip m := by
  refine List.mem_of_getElem? (i := i) ?_
  rw [List.getElem?_zip_eq_some]
  exact ⟨h1, h2⟩
theorem zip_mem {α : Type} {l m : List α} {x y : α} (h : (x, y) ∈ l.zip m) : x ∈ l ∧ y ∈ m := by
  obtain ⟨i, hi⟩ := List.getElem?_of_mem h
  rw [List.getElem?_zip_eq_some] at hi
  exact ⟨List.mem_of_getElem? hi.1, List.mem_of_getElem? hi.2⟩
theorem zip_mem2 {α β : Type} {l : List α} {m : List β} {x : α} {y : β} (h : (x, y) ∈ l.zip m) : x ∈ l ∧ y ∈ m := by
  obtain ⟨i, hi⟩ := List.getElem?_of_mem h
  rw [List.getElem?_zip_eq_some] at hi
  exact ⟨List.mem_of_getElem? hi.1, List.mem_of_getElem? hi.2⟩
theorem same_refl {r : Nat} {t : Ty} (h : Ok r t) : sameV t t = true := (sameV_iff t t).2 ⟨h.check, rfl⟩
theorem sub_refl : ∀ (r : Nat) (a : Ty), Ok r a → subB r a a = true
  | 0, _, h => by cases h.valid
  | r + 1, a, h => by
    rw [subB]
    by_cases h0 : a.kind = 0
    · rw [if_pos h0]
    · rw [if_neg h0, if_neg h0]
      by_cases h8 : a.kind = 8
      · rw [if_pos ⟨h8, h8⟩, fieldsB_iff]
        obtain ⟨h1, h2, h3⟩ := h.shape h8
        intro s y hm
        exact ⟨y, look_of h2 hm, same_refl (h.pred y (zip_mem2 hm).2)⟩
      · rw [if_neg (fun x => h8 x.1)]
        by_cases h9 : a.kind = 9
        · rw [if_pos ⟨h9, h9⟩, arrowB_iff]
          refine ⟨rfl, fun x y hm => ?_, ?_⟩
          · have e := zip_self hm
            subst e
            exact sub_refl r x (h.pred x (List.dropLast_subset _ (zip_mem hm).1))
          · exact sub_refl r _ (h.pred _ (last_mem (h.func h9).2))
        · rw [if_neg (fun x => h9 x.1), if_pos (by have := h.kind; omega), maskB_refl]
          have := h.kind
          simp
          omega
theorem kinds_shape {a : Ty} (h : a.kind = 8) : kindsV a = 16 := by
  obtain ⟨k, ns, ls⟩ := a
  simp only [Ty.kind] at h
  simp [kindsV, h]
theorem sub_trans : ∀ (r : Nat) (a b c : Ty), Ok r a → Ok r b → Ok r c → subB r a b = true → subB r b c = true → subB r a c = true
  | 0, _, _, _, h, _, _, _, _ => by cases h.valid
  | r + 1, a, b, c, ha, hb, hc, h1, h2 => by
    have ka := ha.kind
    have kb := hb.kind
    have kc := hc.kind
    rw [subB] at h1 h2 ⊢
    by_cases c0 : c.kind = 0
    · rw [if_pos c0]
    rw [if_neg c0] at h2 ⊢
    by_cases b0 : b.kind = 0
    · rw [if_pos b0] at h2
      cases h2
    rw [if_neg b0] at h1 h2
    by_cases a0 : a.kind = 0
    · rw [if_pos a0] at h1
      cases h1
    rw [if_neg a0] at h1 ⊢
    by_cases a9 : a.kind = 9
    · by_cases b9 : b.kind = 9
      · by_cases c9 : c.kind = 9
        · rw [if_neg (by omega), if_pos ⟨a9, b9⟩] at h1
          rw [if_neg (by omega), if_pos ⟨b9, c9⟩] at h2
          rw [if_neg (by omega), if_pos ⟨a9, c9⟩]
          rw [arrowB_iff] at h1 h2 ⊢
          obtain ⟨l1, p1, q1⟩ := h1
          obtain ⟨l2, p2, q2⟩ := h2
          refine ⟨l1.trans l2, fun x z hm => ?_, ?_⟩
          · obtain ⟨y, hxy, i, e1, e2, e3⟩ := zip_mid (m := b.args.dropLast) (by simp [l1]) hm
            have hyz := zip_at e2 e3
            exact sub_trans r z y x (hc.pred z (List.dropLast_subset _ (zip_mem hm).2)) (hb.pred y (List.dropLast_subset _ (zip_mem hxy).2)) (ha.pred x (List.dropLast_subset _ (zip_mem hm).1)) (p2 y z hyz) (p1 x y hxy)
          · exact sub_trans r _ _ _ (ha.pred _ (last_mem (ha.func a9).2)) (hb.pred _ (last_mem (hb.func b9).2)) (hc.pred _ (last_mem (hc.func c9).2)) q1 q2
        · rw [if_neg (by omega), if_neg (by omega), if_neg (by omega)] at h2
          cases h2
      · rw [if_neg (by omega), if_neg (by omega), if_neg (by omega)] at h1
        cases h1
    by_cases a8 : a.kind = 8
    · by_cases b8 : b.kind = 8
      · rw [if_pos ⟨a8, b8⟩, fieldsB_iff] at h1
        by_cases c8 : c.kind = 8
        · rw [if_pos ⟨b8, c8⟩, fieldsB_iff] at h2
          rw [if_pos ⟨a8, c8⟩, fieldsB_iff]
          intro s z hm
          obtain ⟨y, g1, g2⟩ := h2 s z hm
          obtain ⟨x, g3, g4⟩ := h1 s y (look_mem g1)
          refine ⟨x, g3, ?_⟩
          rw [sameV_iff] at g2 g4 ⊢
          exact ⟨g4.1, g4.2.trans g2.2⟩
        · rw [if_neg (by omega), if_neg (by omega), if_pos (by omega), kinds_shape b8] at h2
          rw [if_neg (by omega), if_neg (by omega), if_pos (by omega), kinds_shape a8]
          exact h2
      · rw [if_neg (by omega), if_neg (by omega), if_pos (by omega)] at h1
        simp only [Bool.and_eq_true, decide_eq_true_eq] at h1
        rw [if_neg (by omega), if_neg (by omega), if_pos (by omega)] at h2
        simp only [Bool.and_eq_true, decide_eq_true_eq] at h2
        rw [if_neg (by omega), if_neg (by omega), if_pos (by omega)]
        simp only [Bool.and_eq_true, decide_eq_true_eq]
        exact ⟨h2.1, maskB_trans h1.2 h2.2⟩
    · rw [if_neg (by omega), if_neg (by omega), if_pos (by omega)] at h1
      simp only [Bool.and_eq_true, decide_eq_true_eq] at h1
      rw [if_neg (by omega), if_neg (by omega), if_pos (by omega)] at h2
      simp only [Bool.and_eq_true, decide_eq_true_eq] at h2
      rw [if_neg (by omega), if_neg (by omega), if_pos (by omega)]
      simp only [Bool.and_eq_true, decide_eq_true_eq]
      exact ⟨h2.1, maskB_trans h1.2 h2.2⟩
theorem sub_ease : ∀ (r : Nat) (a b : Ty), Ok r a → Ok r b → subB r a b = true → easeB r a b = true
  | 0, _, _, h, _, _ => by cases h.valid
  | r + 1, a, b, ha, hb, h => by
    rw [easeB]
    have h' := h
    rw [subB] at h
    by_cases h0 : a.kind = 0 ∨ b.kind = 0
    · rw [if_pos h0]
    rw [if_neg h0]
    rw [if_neg (by omega), if_neg (by omega)] at h
    by_cases h58 : a.kind = 5 ∧ b.kind = 8
    · rw [if_pos h58]
    rw [if_neg h58]
    by_cases h88 : a.kind = 8 ∧ b.kind = 8
    · rw [if_pos h88, fieldsB_iff] at h ⊢
      intro s y hm
      obtain ⟨x, g1, g2⟩ := h s y hm
      refine ⟨x, g1, ?_⟩
      unfold suitsE
      rw [g2, Bool.or_true]
    rw [if_neg h88] at h ⊢
    by_cases h99 : a.kind = 9 ∧ b.kind = 9
    · rw [if_pos h99, arrowB_iff] at h ⊢
      obtain ⟨l1, p1, q1⟩ := h
      refine ⟨l1, fun x y hm => ?_, ?_⟩
      · exact sub_ease r y x (hb.pred y (List.dropLast_subset _ (zip_mem hm).2)) (ha.pred x (List.dropLast_subset _ (zip_mem hm).1)) (p1 x y hm)
      · exact sub_ease r _ _ (ha.pred _ (last_mem (ha.func h99.1).2)) (hb.pred _ (last_mem (hb.func h99.2).2)) q1
    · rw [if_neg h99]
      exact h'
theorem vag_part {r : Nat} {t : Ty} {a : Ty} (ha : a ∈ t.args) (h : vagF r a = true) : vagF (r + 1) t = true := by
  obtain ⟨k, ns, ls⟩ := t
  rw [vagF, Bool.or_eq_true]
  exact .inr (List.any_eq_true.2 ⟨a, ha, h⟩)
theorem vag_kind {r : Nat} {t : Ty} (h : t.kind = 0 ∨ t.kind = 5) : vagF (r + 1) t = true := by
  obtain ⟨k, ns, ls⟩ := t
  simp only [Ty.kind] at h
  rw [vagF]
  rcases h with rfl | rfl <;> simp
/-- What goes only with a cast leaves something open. -/
theorem ease_vague : ∀ (r : Nat) (a b : Ty), Ok r a → Ok r b → easeB r a b = true → subB r a b = false → vagF r a = true ∨ vagF r b = true
  | 0, _, _, h, _, _, _ => by cases h.valid
  | r + 1, a, b, ha, hb, h, hs => by
    rw [easeB] at h
    have hs' := hs
    rw [subB] at hs
    by_cases a0 : a.kind = 0
    · exact .inl (vag_kind (.inl a0))
    by_cases b0 : b.kind = 0
    · rw [if_pos b0] at hs
      cases hs
    rw [if_neg (by omega)] at h
    rw [if_neg b0, if_neg a0] at hs
    by_cases h58 : a.kind = 5 ∧ b.kind = 8
    · exact .inl (vag_kind (.inr h58.1))
    rw [if_neg h58] at h
    by_cases h88 : a.kind = 8 ∧ b.kind = 8
    · rw [if_pos h88] at h hs
      rw [fieldsB_iff] at h
      by_cases hv : vagF (r + 1) a = true ∨ vagF (r + 1) b = true
      · exact hv
      · exfalso
        have : fieldsB sameV a b = true := by
          rw [fieldsB_iff]
          intro s y hm
          obtain ⟨x, g1, g2⟩ := h s y hm
          refine ⟨x, g1, ?_⟩
          have hx := (zip_mem2 (look_mem g1)).2
          have hy := (zip_mem2 hm).2
          have hox := ha.pred x hx
          unfold suitsE at g2
          rw [Bool.or_eq_true, Bool.or_eq_true, decide_eq_true_eq, decide_eq_true_eq] at g2
          have hr : ∃ q, r = q + 1 := by
            cases r with
            | zero => cases hox.valid
            | succ q => exact ⟨q, rfl⟩
          obtain ⟨q, rfl⟩ := hr
          rcases g2 with (g2 | g2) | g2
          · exact absurd (.inl (vag_part hx (vag_kind (.inl g2)))) hv
          · exact absurd (.inr (vag_part hy (vag_kind (.inl g2)))) hv
          · exact g2
        rw [this] at hs
        cases hs
    rw [if_neg h88] at h hs
    by_cases h99 : a.kind = 9 ∧ b.kind = 9
    · rw [if_pos h99] at h hs
      rw [arrowB_iff] at h
      obtain ⟨l1, p1, q1⟩ := h
      by_cases hv : vagF (r + 1) a = true ∨ vagF (r + 1) b = true
      · exact hv
      · exfalso
        have : arrowB (subB r) a.args b.args = true := by
          rw [arrowB_iff]
          refine ⟨l1, fun x y hm => ?_, ?_⟩
          · cases e : subB r y x with
            | true => rfl
            | false =>
              have hx := List.dropLast_subset _ (zip_mem hm).1
              have hy := List.dropLast_subset _ (zip_mem hm).2
              rcases ease_vague r y x (hb.pred y hy) (ha.pred x hx) (p1 x y hm) e with h1 | h1
              · exact absurd (.inr (vag_part hy h1)) hv
              · exact absurd (.inl (vag_part hx h1)) hv
          · cases e : subB r (a.args.getLastD anyT) (b.args.getLastD anyT) with
            | true => rfl
            | false =>
              have hx := last_mem (ha.func h99.1).2
              have hy := last_mem (hb.func h99.2).2
              rcases ease_vague r _ _ (ha.pred _ hx) (hb.pred _ hy) q1 e with h1 | h1
              · exact absurd (.inl (vag_part hx h1)) hv
              · exact absurd (.inr (vag_part hy h1)) hv
        rw [this] at hs
        cases hs
    · rw [if_neg h99] at h
      rw [h] at hs'
      cases hs'
theorem pairB_iff {a b : Ty} : pairB a b = true ↔ (a.kind = 8 ∨ a.kind = 9) ∧ a.kind = b.kind ∧ a.args.length = b.args.length ∧ a.names = b.names := by
  unfold pairB
  simp only [Bool.and_eq_true, Bool.or_eq_true, decide_eq_true_eq, and_assoc]
theorem prec_refl : ∀ (r : Nat) (a : Ty), Ok r a → precB r a a = true
  | 0, _, h => by cases h.valid
  | r + 1, a, h => by
    rw [precB]
    split
    · rfl
    · split
      · rfl
      · split
        · rw [List.all_eq_true]
          rintro ⟨x, y⟩ hm
          have e := zip_self hm
          subst e
          exact prec_refl r x (h.pred x (zip_mem hm).1)
        · exact same_refl h
theorem all_zip {p : Ty → Ty → Bool} {ls bs : List Ty} : ((ls.zip bs).all fun x => p x.1 x.2) = true ↔ ∀ (i : Nat) x y, ls[i]? = some x → bs[i]? = some y → p x y = true := by
  rw [List.all_eq_true]
  constructor
  · intro h i x y h1 h2
    exact h _ (zip_at h1 h2)
  · rintro h ⟨x, y⟩ hm
    obtain ⟨i, hi⟩ := List.getElem?_of_mem hm
    rw [List.getElem?_zip_eq_some] at hi
    exact h i x y hi.1 hi.2
/-- What it says that one type says ls much ls another, where the other is neither any nor table. -/
theorem prec_cases {r : Nat} {a b : Ty} (h : precB (r + 1) a b = true) : b.kind = 0 ∨ (b.kind = 5 ∧ a.kind = 8) ∨ a = b ∨ (pairB a b = true ∧ ∀ (i : Nat) x y, a.args[i]? = some x → b.args[i]? = some y → precB r x y = true) := by
  rw [precB] at h
  split at h
  · left; assumption
  · split at h
    · right; left; assumption
    · split at h
      · rename_i hp
        rw [all_zip] at h
        exact .inr (.inr (.inr ⟨hp, h⟩))
      · rw [sameV_iff] at h
        exact .inr (.inr (.inl h.2))
theorem prec_pair {r : Nat} {a b : Ty} (hp : pairB a b = true) (h : ∀ (i : Nat) x y, a.args[i]? = some x → b.args[i]? = some y → precB r x y = true) : precB (r + 1) a b = true := by
  rw [precB]
  obtain ⟨h1, h2, -, -⟩ := pairB_iff.1 hp
  rw [if_neg (by omega), if_neg (by omega), if_pos hp, all_zip]
  exact h
theorem pair_trans {a b c : Ty} (h1 : pairB a b = true) (h2 : pairB b c = true) : pairB a c = true := by
  rw [pairB_iff] at *
  obtain ⟨p, q, s, t⟩ := h1
  obtain ⟨_, q2, s2, t2⟩ := h2
  exact ⟨p, q.trans q2, s.trans s2, t.trans t2⟩
theorem pair_symm {a b : Ty} (h : pairB a b = true) : pairB b a = true := by
  rw [pairB_iff] at *
  obtain ⟨p, q, s, t⟩ := h
  exact ⟨by omega, q.symm, s.symm, t.symm⟩
theorem prec_any {r : Nat} {a b : Ty} (h : b.kind = 0) : precB (r + 1) a b = true := by
  rw [precB, if_pos h]
theorem prec_table {r : Nat} {a b : Ty} (h : b.kind = 5) (h2 : a.kind = 8) : precB (r + 1) a b = true := by
  rw [precB, if_neg (by omega), if_pos ⟨h, h2⟩]
theorem prec_trans : ∀ (r : Nat) (a b c : Ty), Ok r a → Ok r b → Ok r c → precB r a b = true → precB r b c = true → precB r a c = true
  | 0, _, _, _, h, _, _, _, _ => by cases h.valid
  | r + 1, a, b, c, ha, hb, hc, h1, h2 => by
    rcases prec_cases h2 with h | ⟨h, hk⟩ | h | ⟨hp, h⟩
    · exact prec_any h
    · rcases prec_cases h1 with g | ⟨g, gk⟩ | g | ⟨gp, g⟩
      · omega
      · omega
      · subst g
        exact h2
      · exact prec_table h (by have := pairB_iff.1 gp; omega)
    · subst h
      exact h1
    · rcases prec_cases h1 with g | ⟨g, gk⟩ | g | ⟨gp, g⟩
      · have := (pairB_iff.1 hp).1
        omega
      · have := (pairB_iff.1 hp).1
        omega
      · subst g
        exact h2
      · refine prec_pair (pair_trans gp hp) fun i x z hx hz => ?_
        have hl := (pairB_iff.1 gp).2.2.1
        have hi := (List.getElem?_eq_some_iff.1 hx).1
        have hy : b.args[i]? = some (b.args[i]'(by omega)) := List.getElem?_eq_getElem (by omega)
        exact prec_trans r x _ z (ha.pred x (List.mem_of_getElem? hx)) (hb.pred _ (List.mem_of_getElem? hy)) (hc.pred z (List.mem_of_getElem? hz)) (g i _ _ hx hy) (h i _ _ hy hz)
theorem ext_args {a b : Ty} (hk : a.kind = b.kind) (hn : a.names = b.names) (hl : a.args.length = b.args.length) (h : ∀ (i : Nat) x y, a.args[i]? = some x → b.args[i]? = some y → x = y) : a = b := by
  obtain ⟨k, ns, ls⟩ := a
  obtain ⟨k', ns', ls'⟩ := b
  simp only [Ty.kind, Ty.names, Ty.args] at *
  subst hk hn
  congr 1
  refine List.ext_getElem hl fun i h1 h2 => ?_
  exact h i _ _ (List.getElem?_eq_getElem h1) (List.getElem?_eq_getElem h2)
theorem prec_anti : ∀ (r : Nat) (a b : Ty), Ok r a → Ok r b → precB r a b = true → precB r b a = true → a = b
  | 0, _, _, h, _, _, _ => by cases h.valid
  | r + 1, a, b, ha, hb, h1, h2 => by
    rcases prec_cases h1 with h | ⟨h, hk⟩ | h | ⟨hp, h⟩
    · rcases prec_cases h2 with g | ⟨g, gk⟩ | g | ⟨gp, g⟩
      · rw [ha.plain (by omega), hb.plain (by omega), g, h]
      · omega
      · exact g.symm
      · have := (pairB_iff.1 gp).1
        omega
    · rcases prec_cases h2 with g | ⟨g, gk⟩ | g | ⟨gp, g⟩
      · omega
      · omega
      · exact g.symm
      · have := (pairB_iff.1 gp).1
        omega
    · exact h
    · rcases prec_cases h2 with g | ⟨g, gk⟩ | g | ⟨gp, g⟩
      · have := (pairB_iff.1 hp).1
        omega
      · have := (pairB_iff.1 hp)
        omega
      · exact g.symm
      · obtain ⟨_, e1, e2, e3⟩ := pairB_iff.1 hp
        refine ext_args e1 e3 e2 fun i x y hx hy => ?_
        exact prec_anti r x y (ha.pred x (List.mem_of_getElem? hx)) (hb.pred y (List.mem_of_getElem? hy)) (h i _ _ hx hy) (g i _ _ hy hx)
/-- What one type says more than another, that one leaves open. -/
theorem prec_vague : ∀ (r : Nat) (a b : Ty), Ok r a → Ok r b → precB r a b = true → a = b ∨ vagF r b = true
  | 0, _, _, h, _, _ => by cases h.valid
  | r + 1, a, b, ha, hb, h1 => by
    rcases prec_cases h1 with h | ⟨h, hk⟩ | h | ⟨hp, h⟩
    · exact .inr (vag_kind (.inl h))
    · exact .inr (vag_kind (.inr h))
    · exact .inl h
    · by_cases hv : vagF (r + 1) b = true
      · exact .inr hv
      · left
        obtain ⟨_, e1, e2, e3⟩ := pairB_iff.1 hp
        refine ext_args e1 e3 e2 fun i x y hx hy => ?_
        rcases prec_vague r x y (ha.pred x (List.mem_of_getElem? hx)) (hb.pred y (List.mem_of_getElem? hy)) (h i _ _ hx hy) with g | g
        · exact g
        · exact absurd (vag_part (List.mem_of_getElem? hy) g) hv
end TyD
end Go.Proofs.YthcdbmbimdkcfaaDoor
