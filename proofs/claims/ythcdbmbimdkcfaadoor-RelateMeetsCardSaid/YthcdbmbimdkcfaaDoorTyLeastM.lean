/- What small types say together may be (plain). -/
import Derived.Test.YthcdbmbimdkcfaaDoorTyMeetT
import Derived.Test.YthcdbmbimdkcfaaDoorTyJoinM
import Derived.Test.YthcdbmbimdkcfaaDoorTyFew
namespace Go.Proofs.YthcdbmbimdkcfaaDoor
open Go.RowKit ObjM
namespace TyD

theorem w64_in {n : Int} (h : -9223372036854775808 ≤ n ∧ n ≤ 9223372036854775807) : w64 n = n := by
  unfold w64 wrap64
  omega
theorem namesN_ge : ∀ (ns : List ByteArray) (n : Int), 0 ≤ n → n + (ns.length : Int) * 1407374883554 ≤ 9000000000000000000 → (∀ s ∈ ns, s.size ≤ 140737488355328) → n ≤ namesN ns n
  | [], n, _, _, _ => Int.le_refl n
  | s :: ns, n, h0, h1, hs => by
    have hss := hs s (List.mem_cons_self ..)
    simp only [List.length_cons] at h1
    have e : w64 (n + (s.size : Int) / 100) = n + (s.size : Int) / 100 := w64_in (by omega)
    have ih := namesN_ge ns (n + (s.size : Int) / 100) (by omega) (by omega) fun x hx => hs x (List.mem_cons_of_mem _ hx)
    show n ≤ namesN ns (w64 (n + (s.size : Int) / 100))
    rw [e]
    omega
theorem count_fold {R r : Nat} : ∀ (ts : List Ty) (m : Int), 0 ≤ m → (∀ a ∈ ts, ∀ m : Int, 0 ≤ m → m ≤ 500 → 500 < countF R a m ∨ m + (sizeF r a : Int) ≤ countF R a m) →
    500 < ts.foldl (fun m a => if 500 < m then m else countF R a m) m ∨ m + (sumF r ts : Int) ≤ ts.foldl (fun m a => if 500 < m then m else countF R a m) m
  | [], m, _, _ => by
    right
    simp [sumF_nil]
  | a :: ts, m, h0, h => by
    rw [List.foldl_cons, sumF_cons]
    by_cases hm : 500 < m
    · rw [if_pos hm]
      left
      have hst : ∀ (l : List Ty) (m : Int), 500 < m → 500 < l.foldl (fun m a => if 500 < m then m else countF R a m) m := by
        intro l
        induction l with
        | nil => exact fun m h => h
        | cons x l ih =>
          intro m h
          rw [List.foldl_cons, if_pos h]
          exact ih m h
      exact hst ts m hm
    · rw [if_neg hm]
      have h1 := h a (List.mem_cons_self ..) m h0 (by omega)
      have hsz := sizeF_pos r a
      have h2 : 0 ≤ countF R a m := by omega
      have ih := count_fold ts (countF R a m) h2 fun x hx => h x (List.mem_cons_of_mem _ hx)
      rcases ih with ih | ih
      · exact .inl ih
      · rcases h1 with h1 | h1
        · left
          omega
        · right
          omega
theorem count_ge : ∀ (r : Nat) (R : Nat) (t : Ty) (n : Int), Ok r t → TyOk t → 0 ≤ n → n ≤ 500 → 500 < countF R t n ∨ n + (sizeF r t : Int) ≤ countF R t n
  | 0, _, t, _, h, _, _, _ => by cases h.valid
  | r + 1, 0, t, n, _, _, _, _ => .inl (by rw [countF]; omega)
  | r + 1, R + 1, t, n, h, ok, h0, h5 => by
    have hnm := (ok_args h).2
    have hp := h.pred
    obtain ⟨k, ns, ts⟩ := t
    obtain ⟨_, _, o2, _, o4⟩ := ok.parts
    simp only [Ty.names, Ty.args] at hnm hp
    rw [countF]
    have e : w64 (n + (1 + (ns.length : Int))) = n + (1 + (ns.length : Int)) := w64_in (by omega)
    rw [e]
    have hge := namesN_ge ns (n + (1 + (ns.length : Int))) (by omega) (by omega) o2
    have hf := count_fold (R := R) (r := r) ts (namesN ns (n + (1 + (ns.length : Int)))) (by omega) fun a ha m hm0 hm5 => count_ge r R a m (hp a ha) (o4 a ha) hm0 hm5
    have hs : sizeF (r + 1) (.mk k ns ts) = 1 + sumF r ts := size_args _
    rcases hf with hf | hf
    · exact .inl hf
    · right
      omega
theorem few_size {t : Ty} (hc : checkV t = true) (ok : TyOk t) (h : fewV t = true) : sizeF 50 t ≤ 500 := by
  have h1 := count_ge 50 61 t 0 (Ok.top hc) ok (by omega) (by omega)
  unfold fewV at h
  simp only [decide_eq_true_eq] at h
  omega
theorem meet_tyok : ∀ (r : Nat) (a b t : Ty), TyOk a → TyOk b → meetF r a b = some t → TyOk t
  | 0, _, _, _, _, _, h => by cases h
  | r + 1, a, b, t, oa, ob, h => by
    rw [meet_def] at h
    split at h
    · injection h with h
      exact h ▸ oa
    · split at h
      · injection h with h
        exact h ▸ ob
      · split at h
        · obtain ⟨l, hl, rfl⟩ := Option.map_eq_some_iff.1 h
          obtain ⟨h1, h2⟩ := mapM_some hl
          obtain ⟨k, ns, ts⟩ := a
          obtain ⟨k', ns', ts'⟩ := b
          obtain ⟨a0, a1, a2, a3, a4⟩ := oa.parts
          obtain ⟨_, _, _, b3, b4⟩ := ob.parts
          simp only [Ty.args, List.length_zip] at h1 h2
          refine .mk _ _ _ a0 a1 a2 (by omega) fun x hx => ?_
          obtain ⟨i, hi⟩ := List.getElem?_of_mem hx
          have hil := (List.getElem?_eq_some_iff.1 hi).1
          have hz : i < (ts.zip ts').length := by rw [List.length_zip]; omega
          obtain ⟨y, hy, hf⟩ := h2 i _ (List.getElem?_eq_getElem hz)
          rw [hi] at hy
          injection hy with hy
          subst hy
          have hm := zip_mem (show ((ts.zip ts')[i].1, (ts.zip ts')[i].2) ∈ ts.zip ts' from List.getElem_mem hz)
          exact meet_tyok r _ _ _ (a4 _ hm.1) (b4 _ hm.2) hf
        · cases h
theorem meetT_of {a b t : Ty} (h : meetT a b = some t) : bothV a b = true ∧ meetF 50 a b = some t := by
  unfold meetT at h
  split at h
  · rename_i hb
    exact ⟨hb, h⟩
  · cases h
theorem precT_of {a b : Ty} (ha : checkV a = true) (hb : checkV b = true) (h : precB 50 a b = true) : precT a b = true := by
  unfold precT
  rw [bothV_mk' ha hb, h]
  rfl
theorem precT_parts {a b : Ty} (h : precT a b = true) : checkV a = true ∧ checkV b = true ∧ precB 50 a b = true := by
  unfold precT at h
  rw [Bool.and_eq_true] at h
  obtain ⟨h1, h2⟩ := both_ok h.1
  exact ⟨h1.check, h2.check, h.2⟩
theorem least_facts {a b : Ty} (oka : TyOk a) (okb : TyOk b) (fa : fewV a = true) (fb : fewV b = true) :
    (∀ t, meetT a b = some t → TyOk t ∧ precT t a = true ∧ precT t b = true) ∧ (∀ c, precT c a = true → precT c b = true → ∃ t, meetT a b = some t ∧ precT c t = true) := by
  have hck : ∀ t, bothV a b = true → meetF 50 a b = some t → checkV t = true := by
    intro t hv hm
    obtain ⟨o1, o2⟩ := both_ok hv
    exact meet_check o1.check o2.check (by have := few_size o1.check oka fa; have := few_size o2.check okb fb; omega) hm
  refine ⟨fun t h => ?_, fun c h1 h2 => ?_⟩
  · obtain ⟨hv, hm⟩ := meetT_of h
    obtain ⟨o1, o2⟩ := both_ok hv
    have ht := hck t hv hm
    obtain ⟨p1, p2⟩ := meet_lower 50 a b t o1 o2 (Ok.top ht) hm
    exact ⟨meet_tyok _ _ _ _ oka okb hm, precT_of ht o1.check p1, precT_of ht o2.check p2⟩
  · obtain ⟨c1, a1, p1⟩ := precT_parts h1
    obtain ⟨_, b1, p2⟩ := precT_parts h2
    obtain ⟨t, hm, p⟩ := meet_greatest 50 a b c (Ok.top a1) (Ok.top b1) (Ok.top c1) p1 p2
    have hv := bothV_mk' a1 b1
    refine ⟨t, by unfold meetT; rw [if_pos hv, hm], precT_of c1 (hck t hv hm) p⟩
theorem self_facts {a : Ty} (h : checkV a = true) : meetT a a = some a ∧ subT a a = true ∧ easeT a a = true ∧ precT a a = true ∧ subT a anyT = true ∧ easeT anyT a = true ∧ sameV a a = true := by
  have o := Ok.top h
  have hany : checkV anyT = true := by decide +kernel
  refine ⟨?_, subT_of h h (sub_refl _ _ o), ?_, precT_of h h (prec_refl _ _ o), subT_of h hany (sub_any_of (r := 49) rfl), ?_, same_refl o⟩
  · unfold meetT
    rw [if_pos (bothV_mk' h h), meet_self o]
  · unfold easeT
    rw [bothV_mk' h h, sub_ease _ _ _ o o (sub_refl _ _ o)]
    rfl
  · unfold easeT
    rw [bothV_mk' hany h]
    rw [easeB, if_pos (.inl rfl)]
    rfl
end TyD
end Go.Proofs.YthcdbmbimdkcfaaDoor
