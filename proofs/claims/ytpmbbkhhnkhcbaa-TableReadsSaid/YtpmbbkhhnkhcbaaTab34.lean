/- Both tables, side by side. -/
import Derived.Test.YtpmbbkhhnkhcbaaTab33
namespace Go.Proofs.Ytpmbbkhhnkhcbaa
open Go.RowKit ObjM Go.Maps
namespace TabD
open LabelM LabelD ValD

def Both (w : World) (B T R lab N : Nat) (fs : List Fd) (ss : List St) (O : List Nat) : Prop :=
  ∃ fv pm sv nm gv rv, IsTS w B T lab fs fv pm sv nm N ss ∧ IsRS w B R lab fs gv rv ss ∧ (∀ x, fv.ownBlock = some x → gv.ownBlock ≠ some x) ∧ B ≤ R ∧ ND ss ∧ fs.length ≤ N ∧ N ≤ 100000 ∧ O = tblk T fv pm ++ (nm.toList ++ R :: gv.ownBlock.toList) ∧ B ≤ w.heap.size
theorem IsTS.more {w : World} {B T lab : Nat} {fs : List Fd} {fv : Value} {pm : Option Nat} {sv : Value} {nm : Option Nat} {N M : Nat} {ss : List St} (h : IsTS w B T lab fs fv pm sv nm N ss) (hN : N ≤ M) (hM : M ≤ 1000000) : IsTS w B T lab fs fv pm sv nm M ss :=
  ⟨h.1, ⟨h.2.1.1, h.2.1.2.1.more hN, h.2.1.2.2.1, by have := h.2.1.2.2.2.1; omega, hM⟩, h.2.2⟩
theorem IsTS.keeps {w w' : World} {B T lab : Nat} {fs : List Fd} {fv : Value} {pm : Option Nat} {sv : Value} {nm : Option Nat} {N : Nat} {ss : List St} {S : List Nat} (h : IsTS w B T lab fs fv pm sv nm N ss) (k : Keeps S w w') (h1 : ∀ x ∈ tblk T fv pm, x ∉ S) (h2 : ∀ x, nm = some x → x ∉ S) (h3 : ∀ x, sv.ownBlock = some x → x ∉ S) : IsTS w' B T lab fs fv pm sv nm N ss := by
  refine ⟨⟨h.1.1.keeps k (h1 T (by simp [tblk])), own_keeps h.1.2.1 k fun g hg => h1 g (by simp [tblk, hg]), h.1.2.2.1.below fun b hb => ?_, h.1.2.2.2⟩, h.2.1.keeps k h3 h2, h.2.2⟩
  subst hb
  exact k.block b h.1.2.2.1.lt (h1 b (by simp [tblk]))
theorem Both.parts {w : World} {B T R lab N : Nat} {fs : List Fd} {ss : List St} {O : List Nat} (h : Both w B T R lab N fs ss O) : ∀ x ∈ O, B ≤ x ∧ x < w.heap.size := by
  obtain ⟨fv, pm, sv, nm, gv, rv, h1, h2, h3, h4, h5, h6, h7, rfl, h9⟩ := h
  intro x hx
  rcases List.mem_append.1 hx with hx | hx
  · rcases List.mem_cons.1 hx with rfl | hx
    · exact ⟨h1.1.2.2.2.1, h1.1.1.lt⟩
    · rcases List.mem_append.1 hx with hx | hx
      · exact own_lt h1.1.2.1 x (by simpa using hx)
      · have e : pm = some x := by simpa using hx
        have hp := h1.1.2.2.1
        rw [e] at hp
        exact ⟨hp.1, hp.lt⟩
  · rcases List.mem_append.1 hx with hx | hx
    · have e : nm = some x := by simpa using hx
      have hp := h1.2.1.2.1
      rw [e] at hp
      exact ⟨hp.1, hp.lt⟩
    · rcases List.mem_cons.1 hx with rfl | hx
      · exact ⟨h4, h2.1.1.lt⟩
      · exact own_lt h2.1.2.1 x (by simpa using hx)
theorem Both.below {w w' : World} {B T R lab N : Nat} {fs : List Fd} {ss : List St} {O : List Nat} (h : Both w B T R lab N fs ss O) (hb : Below w.heap.size w w') : Both w' B T R lab N fs ss O := by
  obtain ⟨fv, pm, sv, nm, gv, rv, h1, h2, h3, h4, h5, h6, h7, h8, h9⟩ := h
  exact ⟨fv, pm, sv, nm, gv, rv, h1.below hb, h2.below hb, h3, h4, h5, h6, h7, h8, Nat.le_trans h9 hb.size⟩
theorem Both.drewN {w : World} {B T R lab N : Nat} {fs : List Fd} {ss : List St} {O : List Nat} (h : Both w B T R lab N fs ss O) (n : Nat) : Both (w.drewN n) B T R lab N fs ss O := h.below (below_drewN (Below.refl _ _) n)
theorem Both.more {w : World} {B T R lab N M : Nat} {fs : List Fd} {ss : List St} {O : List Nat} (h : Both w B T R lab N fs ss O) (hN : N ≤ M) (hM : M ≤ 100000) : Both w B T R lab M fs ss O := by
  obtain ⟨fv, pm, sv, nm, gv, rv, h1, h2, h3, h4, h5, h6, h7, h8, h9⟩ := h
  exact ⟨fv, pm, sv, nm, gv, rv, h1.more hN (by omega), h2, h3, h4, h5, by omega, hM, h8, h9⟩
/-- What was changed is of the tables' own. -/
def OwnStep (w w' : World) (O O' : List Nat) : Prop := Keeps O w w' ∧ ∀ x ∈ O', x ∈ O ∨ w.heap.size ≤ x
theorem OwnStep.below {w w' : World} {O : List Nat} (h : Below w.heap.size w w') : OwnStep w w' O O := ⟨Keeps.below' h O, fun _ hx => .inl hx⟩
theorem OwnStep.trans {a b c : World} {O P Q : List Nat} (h : OwnStep a b O P) (k : OwnStep b c P Q) : OwnStep a c O Q :=
  ⟨h.1.trans k.1 h.2, fun x hx => by
    rcases k.2 x hx with h1 | h1
    · exact h.2 x h1
    · exact .inr (Nat.le_trans h.1.size h1)⟩
theorem OwnStep.toBelow {w w' : World} {B T R lab N : Nat} {fs : List Fd} {ss : List St} {O O' : List Nat} (h : OwnStep w w' O O') (hb : Both w B T R lab N fs ss O) : Below B w w' :=
  h.1.toBelow B hb.choose_spec.choose_spec.choose_spec.choose_spec.choose_spec.choose_spec.2.2.2.2.2.2.2.2 fun x hx => (hb.parts x hx).1
/-- A Put on both. -/
theorem both_put {w w1 w2 : World} {B T R lab N : Nat} {fs fs1 : List Fd} {ss : List St} {er : Int} {e1 e2 : Ending} {fv : Value} {pm : Option Nat} {sv : Value} {nm : Option Nat} {gv rv : Value} {O : List Nat}
    (h1 : IsTS w B T lab fs fv pm sv nm N ss) (h2 : IsRS w B R lab fs gv rv ss) (h3 : ∀ x, fv.ownBlock = some x → gv.ownBlock ≠ some x) (h4 : B ≤ R) (h5 : ND ss) (hl : fs1.length ≤ N) (hN : N ≤ 100000) (hO : O = tblk T fv pm ++ (nm.toList ++ R :: gv.ownBlock.toList)) (hB : B ≤ w.heap.size)
    (hp : PutTS w B T lab fv pm sv nm N ss (er, fs1) e1 w1) :
    (IsRS w1 B R lab fs gv rv ss ∧ B ≤ w1.heap.size) ∧ (RPut w1 B R lab gv rv ss (er, fs1) e2 w2 → ∃ O', Both w2 B T R lab N fs1 ss O' ∧ OwnStep w w2 O O') := by
  obtain ⟨-, fv1, pm1, p1, p2, p3⟩ := hp
  have hRt : R ∉ tblk T fv pm := by
    intro hm
    rcases List.mem_cons.1 hm with h9 | hm
    · subst h9
      exact h2.1.1.ne h1.1.1 (by decide) rfl
    · rcases List.mem_append.1 hm with hm | hm
      · obtain ⟨cs, hc⟩ := own_row h1.1.2.1 R (by simpa using hm)
        exact hc.ne h2.1.1 (by decide) rfl
      · have e : pm = some R := by simpa using hm
        have hp := h1.1.2.2.1
        rw [e] at hp
        exact hp.ne h2.1.1 rfl
  have hgt : ∀ b, gv.ownBlock = some b → b ∉ tblk T fv pm := by
    intro b hb hm
    obtain ⟨cs, hc⟩ := own_row h2.1.2.1 b hb
    rcases List.mem_cons.1 hm with h9 | hm
    · subst h9
      exact hc.ne h1.1.1 (by decide) rfl
    · rcases List.mem_append.1 hm with hm | hm
      · exact h3 b (by simpa using hm) hb
      · have e : pm = some b := by simpa using hm
        have hp := h1.1.2.2.1
        rw [e] at hp
        exact hp.ne hc rfl
  have hrt : ∀ b, rv.ownBlock = some b → b ∉ tblk T fv pm := by
    intro b hb hm
    obtain ⟨cs, hc⟩ := own_row h2.2.1 b hb
    rcases List.mem_cons.1 hm with h9 | hm
    · subst h9
      exact hc.ne h1.1.1 (by decide) rfl
    · rcases List.mem_append.1 hm with hm | hm
      · obtain ⟨ds, hd⟩ := own_row h1.1.2.1 b (by simpa using hm)
        exact hc.ne hd (by decide) rfl
      · have e : pm = some b := by simpa using hm
        have hp := h1.1.2.2.1
        rw [e] at hp
        exact hp.ne hc rfl
  have k2 : IsRS w1 B R lab fs gv rv ss := h2.keeps p2 hRt hgt hrt
  refine ⟨⟨k2, Nat.le_trans hB p2.size⟩, fun hr => ?_⟩
  obtain ⟨-, gv2, r1, r2, r3⟩ := hr
  have hd1 : ∀ x, fv1.ownBlock = some x → gv.ownBlock ≠ some x := by
    intro x hx hg
    rcases p3 x (by simp [tblk, hx]) with h9 | h9
    · exact hgt x hg h9
    · have := (own_lt h2.1.2.1 x hg).2
      omega
  have hpt : IsTS w2 B T lab fs1 fv1 pm1 sv nm N ss := by
    refine p1.keeps r2 (fun x hx hm => ?_) (fun x hx hm => ?_) (fun x hx hm => ?_)
    · rcases List.mem_cons.1 hm with h9 | hm
      · subst h9
        rcases List.mem_cons.1 hx with h8 | hx
        · subst h8
          exact k2.1.1.ne p1.1.1 (by decide) rfl
        · rcases List.mem_append.1 hx with hx | hx
          · obtain ⟨cs, hc⟩ := own_row p1.1.2.1 x (by simpa using hx)
            exact hc.ne k2.1.1 (by decide) rfl
          · have e : pm1 = some x := by simpa using hx
            have hp := p1.1.2.2.1
            rw [e] at hp
            exact hp.ne k2.1.1 rfl
      · have hg : gv.ownBlock = some x := by simpa using hm
        obtain ⟨cs, hc⟩ := own_row k2.1.2.1 x hg
        rcases List.mem_cons.1 hx with h8 | hx
        · subst h8
          exact hc.ne p1.1.1 (by decide) rfl
        · rcases List.mem_append.1 hx with hx | hx
          · exact hd1 x (by simpa using hx) hg
          · have e : pm1 = some x := by simpa using hx
            have hp := p1.1.2.2.1
            rw [e] at hp
            exact hp.ne hc rfl
    · have hp := p1.2.1.2.1
      rw [hx] at hp
      rcases List.mem_cons.1 hm with h9 | hm
      · subst h9
        exact hp.ne k2.1.1 rfl
      · obtain ⟨cs, hc⟩ := own_row k2.1.2.1 x (by simpa using hm)
        exact hp.ne hc rfl
    · obtain ⟨ds, hd⟩ := own_row p1.2.1.1 x hx
      rcases List.mem_cons.1 hm with h9 | hm
      · subst h9
        exact hd.ne k2.1.1 (by decide) rfl
      · obtain ⟨cs, hc⟩ := own_row k2.1.2.1 x (by simpa using hm)
        exact hd.ne hc (by decide) rfl
  refine ⟨_, ⟨fv1, pm1, sv, nm, gv2, rv, hpt, r1, fun x hx hg => ?_, h4, h5, hl, hN, rfl, Nat.le_trans hB (Nat.le_trans p2.size r2.size)⟩, ?_, fun x hx => ?_⟩
  · rcases r3 x hg with h9 | h9
    · exact hd1 x hx h9
    · have := (own_lt p1.1.2.1 x hx).2
      omega
  · rw [hO]
    exact (p2.mono fun x hx => .inl (List.mem_append_left _ hx)).trans r2 fun x hx => .inl (List.mem_append_right _ (List.mem_append_right _ hx))
  · rw [hO]
    rcases List.mem_append.1 hx with hx | hx
    · rcases p3 x hx with h9 | h9
      · exact .inl (List.mem_append_left _ h9)
      · exact .inr h9
    · rcases List.mem_append.1 hx with hx | hx
      · exact .inl (List.mem_append_right _ (List.mem_append_left _ hx))
      · rcases List.mem_cons.1 hx with rfl | hx
        · exact .inl (by simp)
        · rcases r3 x (by simpa using hx) with h9 | h9
          · exact .inl (by simp [h9])
          · exact .inr (Nat.le_trans p2.size h9)
end TabD
end Go.Proofs.Ytpmbbkhhnkhcbaa
