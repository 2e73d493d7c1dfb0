/- A small type has a short text (plain). -/
import Derived.Test.YtmcnoagihnkkcaaDoorTyStamps
import Derived.Test.YtmcnoagihnkkcaaDoorTyFew
namespace Go.Proofs.YtmcnoagihnkkcaaDoor
open Go.RowKit ObjM
namespace TyD

def cent (s : ByteArray) : Nat := s.size / 100
def xF : Nat → Ty → Nat
  | 0, _ => 0
  | r + 1, .mk _ ns ls => 1 + ns.length + sumL (ns.map cent) + sumL (ls.map (xF r))
theorem w64z_in {n : Int} (h : -9223372036854775808 ≤ n ∧ n ≤ 9223372036854775807) : w64 n = n := by
  unfold w64 wrap64
  omega
theorem namesZ : ∀ (ns : List ByteArray) (n : Int), 0 ≤ n → n + (ns.length : Int) * 1407374883554 ≤ 9000000000000000000 → (∀ s ∈ ns, s.size ≤ 140737488355328) → namesN ns n = n + (sumL (ns.map cent) : Nat)
  | [], n, _, _, _ => by simp [namesN, sumL]
  | s :: ns, n, h0, h1, hs => by
    have hss := hs s (List.mem_cons_self ..)
    simp only [List.length_cons] at h1
    have e : w64 (n + (s.size : Int) / 100) = n + (s.size : Int) / 100 := w64z_in (by omega)
    have ih := namesZ ns (n + (s.size : Int) / 100) (by omega) (by omega) fun x hx => hs x (List.mem_cons_of_mem _ hx)
    show namesN ns (w64 (n + (s.size : Int) / 100)) = _
    rw [e, ih]
    simp only [List.map_cons, sumL, List.foldr_cons, cent]
    omega
theorem foldZ {R : Nat} (g : Ty → Nat) : ∀ (ts : List Ty) (m : Int), 0 ≤ m → (∀ a ∈ ts, ∀ m : Int, 0 ≤ m → m ≤ 500 → 500 < countF R a m ∨ m + (g a : Int) ≤ countF R a m) →
    500 < ts.foldl (fun m a => if 500 < m then m else countF R a m) m ∨ m + (sumL (ts.map g) : Nat) ≤ ts.foldl (fun m a => if 500 < m then m else countF R a m) m
  | [], m, _, _ => by
    right
    simp [sumL]
  | a :: ts, m, h0, h => by
    rw [List.foldl_cons]
    by_cases hm : 500 < m
    · rw [if_pos hm]
      left
      have hst : ∀ (l : List Ty) (m : Int), 500 < m → 500 < l.foldl (fun m a => if 500 < m then m else countF R a m) m := by
        intro l
        induction l with
        | nil => exact fun m h => h
        | cons x l ih =>
          intro m h
          rw [List.foldl_cons, if_pos h]
          exact ih m h
      exact hst ts m hm
    · rw [if_neg hm]
      have h1 := h a (List.mem_cons_self ..) m h0 (by omega)
      have h2 : 0 ≤ countF R a m := by omega
      have ih := foldZ g ts (countF R a m) h2 fun x hx => h x (List.mem_cons_of_mem _ hx)
      simp only [List.map_cons, sumL, List.foldr_cons] at ih ⊢
      omega
theorem okz_names {r : Nat} {a : Ty} (h : Ok r a) : a.names.length ≤ 10000 := by
  obtain ⟨h1, h2⟩ := (check_iff a).1 h.check
  obtain ⟨k, ns, ls⟩ := a
  have h3 := (valid_parts h1).1
  have h4 : sizeF 50 (Ty.mk k ns ls) = 1 + ls.foldl (fun n a => n + sizeF 49 a) 0 := size_args _
  have h5 := stamp_len 49 ls
  have h6 : ns.length ≤ ls.length := by
    unfold partsB at h3
    repeat' split at h3
    all_goals
      simp only [Bool.and_eq_true, decide_eq_true_eq] at h3
      omega
  simp only [Ty.names]
  omega
theorem countZ : ∀ (r : Nat) (R : Nat) (t : Ty) (n : Int), Ok r t → TyOk t → 0 ≤ n → n ≤ 500 → 500 < countF R t n ∨ n + (xF r t : Int) ≤ countF R t n
  | 0, _, t, _, h, _, _, _ => by cases h.valid
  | r + 1, 0, t, n, _, _, _, _ => .inl (by rw [countF]; omega)
  | r + 1, R + 1, t, n, h, ok, h0, h5 => by
    have hnm := okz_names h
    have hp := h.pred
    obtain ⟨k, ns, ts⟩ := t
    obtain ⟨_, _, o2, _, o4⟩ := ok.parts
    simp only [Ty.names, Ty.args] at hnm hp
    rw [countF, xF]
    have e : w64 (n + (1 + (ns.length : Int))) = n + (1 + (ns.length : Int)) := w64z_in (by omega)
    rw [e, namesZ ns (n + (1 + (ns.length : Int))) (by omega) (by omega) o2]
    have hf := foldZ (R := R) (xF r) ts (n + (1 + (ns.length : Int)) + (sumL (ns.map cent) : Nat)) (by omega) fun a ha m hm0 hm5 => countZ r R a m (hp a ha) (o4 a ha) hm0 hm5
    rcases hf with hf | hf
    · exact .inl hf
    · right
      omega
theorem names_cent (ns : List ByteArray) : sumL (ns.map ByteArray.size) ≤ 100 * sumL (ns.map cent) + 99 * ns.length := by
  induction ns with
  | nil => simp [sumL]
  | cons s ns ih =>
    simp only [List.map_cons, sumL, List.foldr_cons, List.length_cons, cent] at ih ⊢
    omega
theorem wt_x : ∀ (r : Nat) (t : Ty), validB r t = true → wtF r t ≤ 200 * xF r t
  | 0, t, h => by cases h
  | r + 1, .mk k ns ls, h => by
    obtain ⟨_, q, hq, hv⟩ := valid_parts h
    obtain rfl : r = q := by omega
    have hs : ∀ l : List Ty, (∀ a ∈ l, validB r a = true) → sumL (l.map (wtF r)) ≤ 200 * sumL (l.map (xF r)) := by
      intro l
      induction l with
      | nil => intro _; simp [sumL]
      | cons a l ih =>
        intro hl
        have h1 := wt_x r a (hl a (List.mem_cons_self ..))
        have h2 := ih fun x hx => hl x (List.mem_cons_of_mem _ hx)
        simp only [List.map_cons, sumL, List.foldr_cons] at h2 ⊢
        omega
    have h1 := hs ls hv
    have h2 := names_cent ns
    rw [wtF, xF]
    omega
theorem few_wt {t : Ty} (ok : TyOk t) (h : fewV t = true) (hc : checkV t = true) : wtF 50 t ≤ 1000000000000 := by
  have h1 := countZ 50 61 t 0 (Ok.top hc) ok (by omega) (by omega)
  have h2 := wt_x 50 t ((check_iff t).1 hc).1
  unfold fewV at h
  simp only [decide_eq_true_eq] at h
  omega
end TyD
end Go.Proofs.YtmcnoagihnkkcaaDoor
