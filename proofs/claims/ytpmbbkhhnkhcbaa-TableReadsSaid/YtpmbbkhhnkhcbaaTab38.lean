/- What never goes; plain. -/
import Derived.Test.YtpmbbkhhnkhcbaaTab36
namespace Go.Proofs.Ytpmbbkhhnkhcbaa
open Go.RowKit ObjM Go.Maps
namespace TabD
open LabelM LabelD ValD

/-- No kind more. -/
def subI (a b : Int) : Prop := BitVec.ofInt 64 a &&& BitVec.ofInt 64 b = BitVec.ofInt 64 a
theorem subI_refl (a : Int) : subI a a := BitVec.and_self
theorem subI_and (a b : Int) : subI (andI a b) a := by
  unfold subI
  rw [ofInt_andI, BitVec.and_comm (BitVec.ofInt 64 a), BitVec.and_assoc, BitVec.and_self]
theorem subI_trans {a b c : Int} (h : subI a b) (k : subI b c) : subI a c := by
  unfold subI at *
  rw [← h, BitVec.and_assoc, k]
theorem andNot_sub {a b : Int} (h : subI a b) : bits BinOp.andNot IntKind.i64 a b = 0 := by
  unfold subI at h
  have e : bits BinOp.andNot IntKind.i64 a b = IntKind.i64.wrap ((BitVec.ofInt 64 a &&& ~~~BitVec.ofInt 64 b).toNat : Nat) := rfl
  rw [e, ← h, BitVec.and_assoc]
  have : BitVec.ofInt 64 b &&& ~~~BitVec.ofInt 64 b = 0#64 := by
    apply BitVec.eq_of_getLsbD_eq
    intro i hi
    rw [BitVec.getLsbD_and, BitVec.getLsbD_not]
    cases (BitVec.ofInt 64 b).getLsbD i <;> simp
  rw [this, BitVec.and_zero]
  rfl
/-- Fields stay, in order. -/
def MonoF (fs fs1 : List Fd) : Prop := fs.length ≤ fs1.length ∧ ∀ (i : Nat) (f : Fd), fs[i]? = some f → ∃ g : Fd, fs1[i]? = some g ∧ g.1 = f.1
/-- Stamps stay, in order, and let no more in. -/
def MonoS (ss ss1 : List St) : Prop := ss.length ≤ ss1.length ∧ ∀ (i : Nat) (s : St), ss[i]? = some s → ∃ t : St, ss1[i]? = some t ∧ t.1 = s.1 ∧ subI t.2 s.2
theorem MonoF.refl (fs : List Fd) : MonoF fs fs := ⟨Nat.le_refl _, fun _ f h => ⟨f, h, rfl⟩⟩
theorem MonoS.refl (ss : List St) : MonoS ss ss := ⟨Nat.le_refl _, fun _ s h => ⟨s, h, rfl, subI_refl _⟩⟩
theorem MonoS.trans {a b c : List St} (h : MonoS a b) (k : MonoS b c) : MonoS a c :=
  ⟨Nat.le_trans h.1 k.1, fun i s hs => by
    obtain ⟨t, ht, h1, h2⟩ := h.2 i s hs
    obtain ⟨u, hu, k1, k2⟩ := k.2 i t ht
    exact ⟨u, hu, k1.trans h1, subI_trans k2 h2⟩⟩
theorem putF_mono (lab : Nat) (fs : List Fd) (ss : List St) (c : Nat) (key v : V) : MonoF fs (putF lab fs ss c key v).2 := by
  unfold putF
  split
  · exact .refl _
  · split
    · exact .refl _
    · split
      · split
        · refine ⟨by simp, fun i f hf => ⟨f, ?_, rfl⟩⟩
          show (fs ++ _)[i]? = some f
          rw [List.getElem?_append_left (List.getElem?_eq_some_iff.1 hf).1]
          exact hf
        · exact .refl _
      · rename_i i hpl
        split
        · exact .refl _
        · rename_i f hf
          split
          · refine ⟨by simp, fun j g hg => ?_⟩
            by_cases hij : i = j
            · subst hij
              rw [hf] at hg
              cases hg
              exact ⟨(f.1, v.with (c ||| key.l)), by simp [(List.getElem?_eq_some_iff.1 hf).1], rfl⟩
            · exact ⟨g, by simpa [hij] using hg, rfl⟩
          · exact .refl _
theorem withF_mono (ss : List St) (s : St) : MonoS ss (withF ss s) := by
  unfold withF
  cases hn : nameAt ss (key8 s.1) with
  | none =>
    refine ⟨by simp, fun i t ht => ⟨t, ?_, rfl, subI_refl _⟩⟩
    show (ss ++ [s])[i]? = some t
    rw [List.getElem?_append_left (List.getElem?_eq_some_iff.1 ht).1]
    exact ht
  | some n =>
    obtain ⟨e, he, -⟩ := nameAt_some hn
    show MonoS ss (ss.modify n _)
    rw [modify_set ss n e he]
    refine ⟨by simp, fun i t ht => ?_⟩
    by_cases hij : n = i
    · subst hij
      rw [he] at ht
      cases ht
      exact ⟨(e.1, andI e.2 s.2), by simp [(List.getElem?_eq_some_iff.1 he).1], rfl, subI_and _ _⟩
    · exact ⟨t, by simpa [hij] using ht, rfl, subI_refl _⟩
theorem nxt_mono (ss l : List St) : MonoS ss (nxt ss l) := by
  unfold nxt
  induction l generalizing ss with
  | nil => exact .refl _
  | cons a r ih => exact (withF_mono ss a).trans (ih (withF ss a))
/-- Each stamp has a field of a kind that may be. -/
def InvS (fs : List Fd) (ss : List St) : Prop := ∀ s ∈ ss, ∃ kd, kindAt fs (strKey s.1) = some kd ∧ mayB s.2 kd = true
theorem kindAt_some {fs : List Fd} {v : V} {kd : Int} (h : kindAt fs v = some kd) : ∃ i f, placeOf fs v = some i ∧ fs[i]? = some f ∧ f.2.k = kd := by
  unfold kindAt at h
  cases hp : placeOf fs v with
  | none => rw [hp] at h; cases h
  | some i =>
    rw [hp] at h
    cases hf : fs[i]? with
    | none => simp [hf] at h
    | some f => exact ⟨i, f, rfl, hf, by simpa [hf] using h⟩
theorem fit_of_mem {ss : List St} (hnd : ND ss) {s : St} (hs : s ∈ ss) (kd : Int) : fitB ss (key8 s.1) kd = mayB s.2 kd := by
  rw [← allows_fit hnd]
  unfold allowsB
  induction ss with
  | nil => simp at hs
  | cons a r ih =>
    unfold ND at hnd ih
    rw [List.map_cons, List.nodup_cons] at hnd
    rw [List.all_cons]
    rcases List.mem_cons.1 hs with rfl | hs
    · have hr : r.all (fun x => !(key8 x.1 == key8 s.1) || mayB x.2 kd) = true := by
        rw [List.all_eq_true]
        intro x hx
        have : ¬ key8 x.1 = key8 s.1 := fun h9 => hnd.1 (List.mem_map.2 ⟨x, hx, h9⟩)
        simp [this]
      rw [hr]
      simp
    · have hne : ¬ key8 a.1 = key8 s.1 := fun h9 => hnd.1 (List.mem_map.2 ⟨s, hs, h9.symm⟩)
      rw [ih hnd.2 hs]
      simp [hne]
theorem put_inv {lab : Nat} {fs : List Fd} {ss : List St} (c : Nat) (key v : V) (hnd : ND ss) (h : InvS fs ss) : InvS (putF lab fs ss c key v).2 ss := by
  unfold putF
  split
  · exact h
  · rename_i hk
    split
    · exact h
    · rename_i hfit
      split
      · rename_i hp
        split
        · intro s hs
          obtain ⟨kd, h1, h2⟩ := h s hs
          obtain ⟨i, f, q1, q2, q3⟩ := kindAt_some h1
          refine ⟨kd, ?_, h2⟩
          unfold kindAt
          rw [placeOf_snoc, q1]
          show Option.map _ ((fs ++ _)[i]?) = _
          rw [List.getElem?_append_left (List.getElem?_eq_some_iff.1 q2).1, q2]
          simp [q3]
        · exact h
      · rename_i i hp
        split
        · exact h
        · rename_i f hf
          split
          · intro s hs
            obtain ⟨kd, h1, h2⟩ := h s hs
            obtain ⟨j, g, q1, q2, q3⟩ := kindAt_some h1
            by_cases hij : i = j
            · subst hij
              rw [hf] at q2
              cases q2
              obtain ⟨f', hf', hs1⟩ := placeOf_some hp
              rw [hf] at hf'
              cases hf'
              obtain ⟨f', hf', hs2⟩ := placeOf_some q1
              rw [hf] at hf'
              cases hf'
              have e1 := kval_eq hs1
              have e2 := kval_eq hs2
              have e3 : kval key = kval (strKey s.1) := e1.symm.trans e2
              have hk3 : key.k = 3 ∧ key.s = s.1 := by
                unfold kval strKey at e3
                injection e3 with e3
                have e4 := congrArg Array.toList e3
                simp at e4
                exact ⟨e4.1, e4.2.2⟩
              have hfit' : fitB ss (key8 key.s) v.k = true := by
                cases h9 : fitB ss (key8 key.s) v.k
                · exact absurd ⟨hk3.1, h9⟩ hfit
                · rfl
              rw [hk3.2, fit_of_mem hnd hs] at hfit'
              refine ⟨v.k, ?_, hfit'⟩
              unfold kindAt
              show Option.bind (placeOf (fs.set i (f.1, v.with (c ||| key.l))) _) _ = _
              rw [placeOf_set fs i f hf, q1]
              simp [(List.getElem?_eq_some_iff.1 hf).1, V.with]
            · refine ⟨kd, ?_, h2⟩
              unfold kindAt
              show Option.bind (placeOf (fs.set i (f.1, v.with (c ||| key.l))) _) _ = _
              rw [placeOf_set fs i f hf, q1]
              simp [hij, q2, q3]
          · exact h
theorem withF_mem {ss : List St} {s x : St} (hx : x ∈ withF ss s) : key8 x.1 = key8 s.1 ∨ x ∈ ss := by
  unfold withF at hx
  cases hn : nameAt ss (key8 s.1) with
  | none =>
    rw [hn] at hx
    rcases List.mem_append.1 hx with h | h
    · exact .inr h
    · have : x = s := by simpa using h
      exact .inl (by rw [this])
  | some n =>
    rw [hn] at hx
    obtain ⟨e, he, hek⟩ := nameAt_some hn
    have hx : x ∈ ss.modify n (fun e => (e.1, andI e.2 s.2)) := hx
    rw [modify_set ss n e he] at hx
    rcases List.mem_or_eq_of_mem_set hx with h | h
    · exact .inr h
    · exact .inl (by rw [h]; exact hek)
theorem nxt_mem {ss l : List St} {x : St} (hx : x ∈ nxt ss l) : (∃ s ∈ l, key8 s.1 = key8 x.1) ∨ x ∈ ss := by
  unfold nxt at hx
  induction l generalizing ss with
  | nil => exact .inr hx
  | cons a r ih =>
    rcases ih hx with ⟨s, hs, hk⟩ | h
    · exact .inl ⟨s, by simp [hs], hk⟩
    · rcases withF_mem h with h | h
      · exact .inl ⟨a, by simp, h.symm⟩
      · exact .inr h
theorem stamp_inv {fs : List Fd} {ss l : List St} (hnd : ND ss) (hl : ∀ s ∈ l, StOk s) (h : InvS fs ss) : InvS fs ((stampsRun fs ss l).getD ss) ∧ MonoS ss ((stampsRun fs ss l).getD ss) := by
  rw [run_all hnd hl]
  unfold rstampF
  split
  · rename_i hall
    rw [List.all_eq_true] at hall
    refine ⟨fun x hx => ?_, nxt_mono ss l⟩
    have hx : x ∈ nxt ss l := hx
    rcases nxt_mem hx with ⟨s, hs, hk⟩ | hxs
    · have h1 := hall s hs
      have h2 : s.1 = x.1 := str_eq hk
      unfold okS at h1
      rw [h2] at h1
      cases hkd : kindAt fs (strKey x.1) with
      | none => rw [hkd] at h1; cases h1
      | some kd =>
        rw [hkd] at h1
        refine ⟨kd, rfl, ?_⟩
        have h3 : allowsB (nxt ss l) (key8 x.1) kd = true := h1
        rw [allows_fit (ND_nxt hnd l), fit_of_mem (ND_nxt hnd l) hx] at h3
        exact h3
    · exact h x hxs
  · exact ⟨h, .refl _⟩
theorem act_mono {lab : Nat} {fs : List Fd} {ss : List St} (a : ActT) (hok : ActOk a) (hnd : ND ss) (h : InvS fs ss) : MonoF fs (actF lab fs ss a).1 ∧ MonoS ss (actF lab fs ss a).2 ∧ InvS (actF lab fs ss a).1 (actF lab fs ss a).2 := by
  unfold actF
  split
  · exact ⟨putF_mono _ _ _ _ _ _, .refl _, put_inv _ _ _ hnd h⟩
  · split
    · exact ⟨.refl _, .refl _, h⟩
    · split
      · exact ⟨.refl _, .refl _, h⟩
      · have := stamp_inv hnd hok.2.2.2.2.1 h
        exact ⟨.refl _, this.2, this.1⟩
theorem inv_val {fs : List Fd} {ss : List St} (h : InvS fs ss) {s : St} (hs : s ∈ ss) : ∃ n : Nat, (valOf fs (strKey s.1)).k = n ∧ n ≤ 62 ∧ (bits BinOp.and IntKind.i64 (s.2 / 2 ^ n) 1 == 0) = false := by
  obtain ⟨kd, h1, h2⟩ := h s hs
  obtain ⟨i, f, q1, q2, q3⟩ := kindAt_some h1
  have hv : (valOf fs (strKey s.1)).k = kd := by
    unfold valOf
    rw [if_pos (strKey_key s.1), q1]
    simp [q2, q3]
  unfold mayB at h2
  simp only [Bool.and_eq_true, decide_eq_true_eq] at h2
  obtain ⟨⟨h0, h62⟩, hb⟩ := h2
  refine ⟨kd.toNat, by rw [hv]; omega, by omega, ?_⟩
  rw [and_one_zero, hb]
  rfl
end TabD
end Go.Proofs.Ytpmbbkhhnkhcbaa
