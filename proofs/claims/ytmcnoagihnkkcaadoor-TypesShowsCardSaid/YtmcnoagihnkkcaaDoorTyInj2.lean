/- No two types that may be have one text (plain). -/
import Derived.Test.YtmcnoagihnkkcaaDoorTyInj
namespace Go.Proofs.YtmcnoagihnkkcaaDoor
open Go.RowKit ObjM
namespace TyD
open LexD (nameB WTab)

def klT : Ty → List Int
  | .mk k _ ls => if k = 7 then ls.map Ty.kind else [k]
theorem leaf_of {r : Nat} {a : Ty} (h : validB r a = true) (h0 : 0 ≤ a.kind) (h6 : a.kind ≤ 6) : a = .mk a.kind [] [] ∧ tL r a = bn a.kind := by
  obtain ⟨k, ns, ls⟩ := a
  obtain ⟨hp, q, rfl, -⟩ := valid_parts h
  simp only [Ty.kind] at h0 h6 ⊢
  unfold partsB at hp
  rw [if_neg (by omega), if_neg (by omega), if_neg (by omega)] at hp
  simp only [Bool.and_eq_true, decide_eq_true_eq] at hp
  have e1 := List.length_eq_zero_iff.1 hp.1.2
  have e2 := List.length_eq_zero_iff.1 hp.2
  subst e1 e2
  refine ⟨rfl, ?_⟩
  unfold tL bn
  rw [txtF, if_neg (by omega), if_neg (by omega), if_neg (by omega)]
theorem union_of {r : Nat} {ns : List ByteArray} {ls : List Ty} (h : validB (r + 1) (.mk 7 ns ls) = true) : ns = [] ∧ 2 ≤ ls.length ∧ ∀ a ∈ ls, 0 < a.kind ∧ a.kind ≤ 6 ∧ validB r a = true := by
  obtain ⟨hp, q, hq, hv⟩ := valid_parts h
  obtain rfl : r = q := by omega
  unfold partsB at hp
  rw [if_pos rfl] at hp
  simp only [Bool.and_eq_true, decide_eq_true_eq] at hp
  exact ⟨List.length_eq_zero_iff.1 hp.1.1, hp.1.2, fun a ha => ⟨(mem_kinds hp.2 a ha).1, (mem_kinds hp.2 a ha).2, hv a ha⟩⟩
theorem flat_text {r : Nat} {t : Ty} (h : validB (r + 1) t = true) (h0 : 0 ≤ t.kind) (h7 : t.kind ≤ 7) : ∃ k ks, klT t = k :: ks ∧ (∀ a ∈ k :: ks, 0 ≤ a ∧ a ≤ 6) ∧ tL (r + 1) t = bn k ++ barL ks := by
  obtain ⟨k, ns, ls⟩ := t
  simp only [Ty.kind] at h0 h7
  by_cases h6 : k ≤ 6
  · refine ⟨k, [], by rw [klT, if_neg (by omega)], by intro a ha; simp at ha; omega, ?_⟩
    have := (leaf_of h h0 h6).2
    simp only [Ty.kind] at this
    rw [this]
    simp [barL]
  · obtain rfl : k = 7 := by omega
    obtain ⟨rfl, hl, hm⟩ := union_of h
    cases ls with
    | nil => simp at hl
    | cons a ls =>
      refine ⟨a.kind, ls.map Ty.kind, by rw [klT, if_pos rfl]; rfl, ?_, ?_⟩
      · intro x hx
        rw [← List.map_cons] at hx
        obtain ⟨y, hy, rfl⟩ := List.mem_map.1 hx
        have := hm y hy
        omega
      · have ha := hm a (List.mem_cons_self ..)
        have e : ∀ b ∈ ls, (txtF r b).data.toList = bn b.kind := fun b hb => by
          have := hm b (List.mem_cons_of_mem _ hb)
          exact (leaf_of this.2.2 (by omega) this.2.1).2
        unfold tL
        rw [txtF, if_pos rfl, join_list, List.map_cons, List.map_cons, Lib.join_cons]
        have e1 : (txtF r a).data.toList = bn a.kind := (leaf_of ha.2.2 (by omega) ha.2.1).2
        rw [e1]
        congr 1
        unfold Lib.joinTail barL
        rw [List.map_map, List.map_map, List.map_map]
        congr 1
        refine List.map_congr_left fun b hb => ?_
        simp only [Function.comp_apply]
        rw [e b hb]
        rfl
theorem kl_inj {r : Nat} {t u : Ty} (ht : validB (r + 1) t = true) (hu : validB (r + 1) u = true) (t0 : 0 ≤ t.kind) (t7 : t.kind ≤ 7) (u0 : 0 ≤ u.kind) (u7 : u.kind ≤ 7) (h : klT t = klT u) : t = u := by
  by_cases t6 : t.kind ≤ 6
  · by_cases u6 : u.kind ≤ 6
    · have e1 := (leaf_of ht t0 t6).1
      have e2 := (leaf_of hu u0 u6).1
      rw [e1, e2] at h
      rw [klT, klT, if_neg (by omega), if_neg (by omega)] at h
      injection h with h
      rw [e1, e2, h]
    · obtain ⟨k, ns, ls⟩ := u
      simp only [Ty.kind] at u6 u7
      obtain rfl : k = 7 := by omega
      obtain ⟨rfl, hl, hm⟩ := union_of hu
      rw [(leaf_of ht t0 t6).1, klT, klT, if_neg (by omega), if_pos rfl] at h
      have := congrArg List.length h
      simp at this
      omega
  · by_cases u6 : u.kind ≤ 6
    · obtain ⟨k, ns, ls⟩ := t
      simp only [Ty.kind] at t6 t7
      obtain rfl : k = 7 := by omega
      obtain ⟨rfl, hl, hm⟩ := union_of ht
      rw [(leaf_of hu u0 u6).1, klT, klT, if_pos rfl, if_neg (by omega)] at h
      have := congrArg List.length h
      simp at this
      omega
    · obtain ⟨k, ns, ls⟩ := t
      obtain ⟨k', ns', ls'⟩ := u
      simp only [Ty.kind] at t6 t7 u6 u7
      obtain rfl : k = 7 := by omega
      obtain rfl : k' = 7 := by omega
      obtain ⟨rfl, hl, hm⟩ := union_of ht
      obtain ⟨rfl, hl', hm'⟩ := union_of hu
      rw [klT, klT, if_pos rfl, if_pos rfl] at h
      have e : ∀ (l : List Ty), (∀ a ∈ l, 0 < a.kind ∧ a.kind ≤ 6 ∧ validB r a = true) → (l.map Ty.kind).map (fun k => Ty.mk k [] []) = l := by
        intro l hl
        rw [List.map_map]
        conv => rhs; rw [← List.map_id l]
        refine List.map_congr_left fun a ha => ?_
        have := hl a ha
        exact ((leaf_of this.2.2 (by omega) this.2.1).1).symm
      rw [← e ls hm, ← e ls' hm', h]
theorem name_chars {s : ByteArray} (h : nameB s = true) : (∃ c r, s.data.toList = c :: r ∧ c ≠ 125) ∧ ∀ c ∈ s.data.toList, (!decide (c = 58)) = true := by
  unfold nameB at h
  split at h
  · cases h
  · rename_i c r e
    simp only [Bool.and_eq_true, decide_eq_true_eq] at h
    have hall : ∀ x ∈ c :: r, LexD.parB (x.toNat : Int) = true := by
      have h2 : (List.takeWhile (fun c => LexD.parB (c.toNat : Int)) (c :: r)).length = (c :: r).length := by
        have h3 := h.1.2
        unfold LexD.runN at h3
        rw [h3, ← e]
        exact (bsize s).symm
      have h4 : List.takeWhile (fun c => LexD.parB (c.toNat : Int)) (c :: r) = c :: r := (List.takeWhile_prefix _).eq_of_length h2
      intro x hx
      rw [← h4] at hx
      have := List.all_takeWhile (p := fun c : UInt8 => LexD.parB (c.toNat : Int)) (l := c :: r)
      exact List.all_eq_true.1 this x hx
    have hne : ∀ x : UInt8, LexD.parB (x.toNat : Int) = true → x ≠ 58 ∧ x ≠ 125 := by
      intro x hx
      constructor
      · rintro rfl
        revert hx
        decide
      · rintro rfl
        revert hx
        decide
    refine ⟨⟨c, r, e, (hne c (hall c (List.mem_cons_self ..))).2⟩, fun x hx => ?_⟩
    rw [e] at hx
    simp [(hne x (hall x hx)).1]
theorem rising_names {l : List ByteArray} (h : risingB l = true) : ∀ s ∈ l, nameB s = true := by
  intro s hs
  obtain ⟨i, hi⟩ := List.getElem?_of_mem hs
  have hil := (List.getElem?_eq_some_iff.1 hi).1
  unfold risingB risingK at h
  have h2 := List.all_eq_true.1 h i (List.mem_range.2 hil)
  unfold okAt at h2
  rw [Bool.and_eq_true] at h2
  have e : l.getD i ⟨#[]⟩ = s := by rw [List.getD_eq_getElem?_getD, hi]; rfl
  rw [e] at h2
  exact h2.1
def entL (r : Nat) (x : ByteArray × Ty) : List UInt8 := x.1.data.toList ++ 58 :: 32 :: tL r x.2
theorem shape_text (r : Nat) (ns : List ByteArray) (ls : List Ty) : tL (r + 1) (.mk 8 ns ls) = 123 :: (Lib.join ((ns.zip ls).map (entL r)) [44, 32] ++ [125]) := by
  unfold tL
  rw [txtF, if_neg (by omega), if_pos rfl, ba_append, ba_append, join_list]
  have e : (List.zipWith fieldT ns (ls.map (txtF r))).map (·.data.toList) = (ns.zip ls).map (entL r) := by
    rw [List.zipWith_map_right, List.map_zipWith, List.zip, List.map_zipWith]
    congr 1
    funext n t
    unfold fieldT entL tL
    rw [ba_append, ba_append, List.append_assoc]
    rfl
  rw [e]
  rfl
theorem func_text (r : Nat) (ns : List ByteArray) (ls : List Ty) (h : 1 ≤ ls.length) : tL (r + 1) (.mk 9 ns ls) = 40 :: (Lib.join (ls.dropLast.map (tL r)) [44, 32] ++ 41 :: 32 :: 45 :: 62 :: 32 :: tL r (ls.getLast (by intro e; subst e; simp at h))) := by
  have hne : ls ≠ [] := by intro e; subst e; simp at h
  unfold tL
  rw [txtF, if_neg (by omega), if_neg (by omega), if_pos rfl, ba_append, ba_append, ba_append, join_list]
  have e1 : (ls.map (txtF r)).getLastD ⟨#[]⟩ = txtF r (ls.getLast hne) := by
    rw [List.getLastD_eq_getLast?, List.getLast?_map, List.getLast?_eq_some_getLast hne]
    rfl
  have e2 : ((ls.map (txtF r)).dropLast).map (·.data.toList) = ls.dropLast.map fun t => (txtF r t).data.toList := by
    rw [← List.map_dropLast, List.map_map]
    rfl
  rw [e1, e2]
  simp [parB, arrB, commaB]
theorem first_char {r : Nat} {t : Ty} (h : validB r t = true) : ∃ c l, tL r t = c :: l ∧ c ≠ 41 ∧ ((lowB c = true ∧ t.kind ≤ 7) ∨ (c = 123 ∧ t.kind = 8) ∨ (c = 40 ∧ t.kind = 9)) := by
  obtain ⟨k, ns, ls⟩ := t
  obtain ⟨h0, h9⟩ := valid_flat h
  obtain ⟨hp, q, rfl, -⟩ := valid_parts h
  by_cases h7 : k ≤ 7
  · obtain ⟨k', ks, -, hk, e⟩ := flat_text h h0 h7
    have hb := hk k' (List.mem_cons_self ..)
    obtain ⟨b1, b2⟩ := bn_low hb.1 hb.2
    obtain ⟨c, l, e2⟩ := List.exists_cons_of_ne_nil b2
    have hc := b1 c (by rw [e2]; exact List.mem_cons_self ..)
    refine ⟨c, l ++ barL ks, by rw [e, e2]; rfl, ?_, .inl ⟨hc, h7⟩⟩
    rintro rfl
    revert hc
    decide
  · by_cases h8 : k = 8
    · subst h8
      exact ⟨123, _, shape_text q ns ls, by decide, .inr (.inl ⟨rfl, rfl⟩)⟩
    · obtain rfl : k = 9 := by omega
      unfold partsB at hp
      simp at hp
      exact ⟨40, _, func_text q ns ls (by omega), by decide, .inr (.inr ⟨rfl, rfl⟩)⟩
theorem tL_inj : ∀ (r : Nat) (t u : Ty) (x y : List UInt8), validB r t = true → validB r u = true → Stop x → Stop y → tL r t ++ x = tL r u ++ y → t = u ∧ x = y
  | 0, t, _, _, _, h, _, _, _, _ => by cases h
  | r + 1, t, u, x, y, ht, hu, hx, hy, h => by
    obtain ⟨c, l, e1, -, k1⟩ := first_char ht
    obtain ⟨d, m, e2, -, k2⟩ := first_char hu
    have hcd : c = d := by
      rw [e1, e2] at h
      injection h
    subst hcd
    have t0 : 0 ≤ t.kind := by obtain ⟨k, ns, ls⟩ := t; exact (valid_flat ht).1
    have u0 : 0 ≤ u.kind := by obtain ⟨k, ns, ls⟩ := u; exact (valid_flat hu).1
    rcases k1 with ⟨hc, t7⟩ | ⟨hc, t8⟩ | ⟨hc, t9⟩
    · rcases k2 with ⟨-, u7⟩ | ⟨h2, -⟩ | ⟨h2, -⟩
      · obtain ⟨k, ks, a1, a2, a3⟩ := flat_text ht t0 t7
        obtain ⟨j, js, b1, b2, b3⟩ := flat_text hu u0 u7
        rw [a3, b3, List.append_assoc, List.append_assoc] at h
        have ra := a2 k (List.mem_cons_self ..)
        have rb := b2 j (List.mem_cons_self ..)
        obtain ⟨f1, f2⟩ := span_eq (bn_low ra.1 ra.2).1 (bn_low rb.1 rb.2).1 (bar_low hx ks) (bar_low hy js) h
        obtain ⟨f3, f4⟩ := bar_items (fun a ha => a2 a (List.mem_cons_of_mem _ ha)) (fun a ha => b2 a (List.mem_cons_of_mem _ ha)) hx hy f2
        exact ⟨kl_inj ht hu t0 t7 u0 u7 (by rw [a1, b1, bn_inj ra.1 ra.2 rb.1 rb.2 f1, f3]), f4⟩
      · subst h2
        exact absurd hc (by decide)
      · subst h2
        exact absurd hc (by decide)
    · subst hc
      rcases k2 with ⟨h2, -⟩ | ⟨-, u8⟩ | ⟨h2, -⟩
      · exact absurd h2 (by decide)
      · obtain ⟨k, ns, ls⟩ := t
        obtain ⟨k', ns', ls'⟩ := u
        simp only [Ty.kind] at t8 u8
        subst t8 u8
        obtain ⟨hp, q, hq, hv⟩ := valid_parts ht
        obtain ⟨hp', q', hq', hv'⟩ := valid_parts hu
        obtain rfl : r = q := by omega
        obtain rfl : r = q' := by omega
        unfold partsB at hp hp'
        simp at hp hp'
        rw [shape_text, shape_text] at h
        simp only [List.cons_append, List.cons.injEq, true_and, List.append_assoc, List.nil_append] at h
        have pr : ∀ a ∈ ns.zip ls, ∀ b ∈ ns'.zip ls', ∀ x y, Stop x → Stop y → entL r a ++ x = entL r b ++ y → a = b ∧ x = y := by
          rintro ⟨n, a⟩ ha ⟨n', b⟩ hb x y hx hy e
          obtain ⟨ha1, ha2⟩ := zip_mem2 ha
          obtain ⟨hb1, hb2⟩ := zip_mem2 hb
          unfold entL at e
          rw [List.append_assoc, List.append_assoc] at e
          obtain ⟨f1, f2⟩ := span_eq (p := fun c => !decide (c = 58)) (name_chars (rising_names hp.1.2 n ha1)).2 (name_chars (rising_names hp'.1.2 n' hb1)).2 (.inr ⟨58, _, rfl, by decide⟩) (.inr ⟨58, _, rfl, by decide⟩) e
          have f5 : tL r a ++ x = tL r b ++ y := by simpa using f2
          obtain ⟨f3, f4⟩ := tL_inj r a b x y (hv a ha2) (hv' b hb2) hx hy f5
          exact ⟨by rw [ba_ext f1, f3], f4⟩
        have hd : ∀ (ns : List ByteArray) (ls : List Ty), risingB ns = true → ∀ a ∈ ns.zip ls, ∃ c l, entL r a = c :: l ∧ c ≠ 125 := by
          rintro ns ls hr ⟨n, a⟩ ha
          obtain ⟨c, l, e, hc⟩ := (name_chars (rising_names hr n (zip_mem2 ha).1)).1
          exact ⟨c, l ++ 58 :: 32 :: tL r a, by unfold entL; rw [e]; rfl, hc⟩
        obtain ⟨f1, f2⟩ := join_items (.inr rfl) pr (hd ns ls hp.1.2) (hd ns' ls' hp'.1.2) h
        have g1 : ns = ns' := by
          have := congrArg (List.map Prod.fst) f1
          rwa [List.map_fst_zip (by omega), List.map_fst_zip (by omega)] at this
        have g2 : ls = ls' := by
          have := congrArg (List.map Prod.snd) f1
          rwa [List.map_snd_zip (by omega), List.map_snd_zip (by omega)] at this
        exact ⟨by rw [g1, g2], f2⟩
      · exact absurd h2 (by decide)
    · subst hc
      rcases k2 with ⟨h2, -⟩ | ⟨h2, -⟩ | ⟨-, u9⟩
      · exact absurd h2 (by decide)
      · exact absurd h2 (by decide)
      · obtain ⟨k, ns, ls⟩ := t
        obtain ⟨k', ns', ls'⟩ := u
        simp only [Ty.kind] at t9 u9
        subst t9 u9
        obtain ⟨hp, q, hq, hv⟩ := valid_parts ht
        obtain ⟨hp', q', hq', hv'⟩ := valid_parts hu
        obtain rfl : r = q := by omega
        obtain rfl : r = q' := by omega
        unfold partsB at hp hp'
        simp at hp hp'
        have hl : 1 ≤ ls.length := by omega
        have hl' : 1 ≤ ls'.length := by omega
        have hne : ls ≠ [] := by intro e; subst e; simp at hl
        have hne' : ls' ≠ [] := by intro e; subst e; simp at hl'
        rw [func_text r ns ls hl, func_text r ns' ls' hl'] at h
        simp only [List.cons_append, List.cons.injEq, true_and, List.append_assoc] at h
        have pr : ∀ a ∈ ls.dropLast, ∀ b ∈ ls'.dropLast, ∀ x y, Stop x → Stop y → tL r a ++ x = tL r b ++ y → a = b ∧ x = y :=
          fun a ha b hb x y hx hy e => tL_inj r a b x y (hv a (List.dropLast_subset _ ha)) (hv' b (List.dropLast_subset _ hb)) hx hy e
        obtain ⟨f1, f2⟩ := join_items (.inl rfl) pr
          (fun a ha => by obtain ⟨c, l, e, hc, -⟩ := first_char (hv a (List.dropLast_subset _ ha)); exact ⟨c, l, e, hc⟩)
          (fun a ha => by obtain ⟨c, l, e, hc, -⟩ := first_char (hv' a (List.dropLast_subset _ ha)); exact ⟨c, l, e, hc⟩) h
        simp only [List.cons.injEq, true_and] at f2
        obtain ⟨f3, f4⟩ := tL_inj r _ _ x y (hv _ (List.getLast_mem hne)) (hv' _ (List.getLast_mem hne')) hx hy f2
        have g1 : ns = ns' := by rw [hp.1, hp'.1]
        have g2 : ls = ls' := by rw [← List.dropLast_concat_getLast hne, ← List.dropLast_concat_getLast hne', f1, f3]
        exact ⟨by rw [g1, g2], f4⟩
theorem txt_inj {t u : Ty} (ht : checkV t = true) (hu : checkV u = true) (h : txtF 50 t = txtF 50 u) : t = u := by
  have h2 : tL 50 t ++ [] = tL 50 u ++ [] := by
    unfold tL
    rw [h]
  exact (tL_inj 50 t u [] [] ((check_iff t).1 ht).1 ((check_iff u).1 hu).1 (.inl rfl) (.inl rfl) h2).1
end TyD
end Go.Proofs.YtmcnoagihnkkcaaDoor
