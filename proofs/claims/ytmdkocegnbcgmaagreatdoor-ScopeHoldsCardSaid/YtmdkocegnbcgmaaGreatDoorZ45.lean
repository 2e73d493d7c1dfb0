/- A check that can be decided: where it says yes, tree.Check takes the list. Stage 11's awake: its text as nodes. -/
import Derived.Test.YtmdkocegnbcgmaaGreatDoorZ43
import Derived.Test.YtmdkocegnbcgmaaGreatDoorZ44
namespace Go.Proofs.YtmdkocegnbcgmaaGreatDoor
open Go.RowKit ObjM
namespace TreeD
def textC (x : Nd) : Bool :=
  if x.kind = 2 ∨ x.kind = 36 then false
  else if x.kind = 4 ∨ x.kind = 5 ∨ x.kind = 17 ∨ x.kind = 23 then freeB x.text
  else if x.kind = 18 ∨ x.kind = 25 ∨ x.kind = 33 then LexD.nameB x.text
  else if x.kind = 14 then memB BOOLS x.text else if x.kind = 15 then intB x.text else if x.kind = 16 then true
  else if x.kind = 21 then decide (0 ≤ builtinV x.text) else if x.kind = 27 then memB BINS x.text else if x.kind = 28 then memB UNS x.text
  else if x.kind = 31 then memB TYS x.text else decide (x.text.size = 0)
theorem textB_of {x : Nd} (h : textC x = true) : textB x = true := by
  unfold textC at h
  unfold textB
  by_cases h2 : x.kind = 2
  · simp [h2] at h
  by_cases h36 : x.kind = 36
  · simp [h36] at h
  rw [if_neg (by simp [h2, h36])] at h
  rw [if_neg h2, if_neg h36]
  exact h
def ownC (l : List Nd) (x : Nd) : Bool :=
  decide (1 ≤ x.kind) && (decide (x.kind ≤ 36) && (decide (0 ≤ x.pos) && (fitB (WANT.getD x.kind.toNat []) (kindsOf l x.kids) && (textC x && restB l x))))
theorem ownB_of {l : List Nd} {x : Nd} (h : ownC l x = true) : ownB l x = true := by
  unfold ownC at h
  unfold ownB
  simp only [Bool.and_eq_true] at h ⊢
  exact ⟨h.1, h.2.1, h.2.2.1, h.2.2.2.1, textB_of h.2.2.2.2.1, h.2.2.2.2.2⟩
def goC (l : List Nd) : Nat → List Nd → List Bool → Option (List Bool)
  | _, [], u => some u
  | i, x :: r, u => match takeKids i x.kids u with
    | none => none
    | some u' => if ownC l x = true then goC l (i + 1) r u' else none
theorem goV_of {l : List Nd} : ∀ (r : List Nd) (i : Nat) (u v : List Bool), goC l i r u = some v → goV l i r u = .inr v
  | [], _, _, _, h => by
    simp only [goC, Option.some.injEq] at h
    subst h
    rfl
  | x :: r, i, u, v, h => by
    unfold goC at h
    split at h
    · cases h
    · rename_i u' hu
      split at h
      · rename_i ho
        have hs : stepV l i x u = some u' := by
          unfold stepV
          rw [hu]
          simp [ownB_of ho]
        unfold goV
        rw [hs]
        exact goV_of r (i + 1) u' v h
      · cases h
def checkC (l : List Nd) : Bool := match goC l 0 l (List.replicate l.length false) with
  | none => false
  | some u => !l.isEmpty && (wholeB l u && decide (deepV l ≤ 200))
theorem checkV_of {l : List Nd} (h : checkC l = true) : checkV l = (0, 0) := by
  unfold checkC at h
  split at h
  · cases h
  · rename_i u hu
    simp only [Bool.and_eq_true, decide_eq_true_eq] at h
    rw [checkV_eq, goV_of _ _ _ _ hu]
    have h0 : l ≠ [] := by
      rintro rfl
      simp at h
    unfold endV
    simp only
    rw [if_neg h0, if_neg (by simp [h.2.1]), if_neg (by omega)]
end TreeD
namespace ScD
open TreeD (Nd)
def t11 : ByteArray := ⟨#[108, 111, 99, 97, 108, 32, 120, 32, 61, 32, 49, 32, 102, 117, 110, 99, 116, 105, 111, 110, 32, 102, 40, 41, 32, 114, 101, 116, 117, 114, 110, 32, 120, 32, 101, 110, 100]⟩
def okC (l : List Nd) : Bool := l.all fun n => decide (n.text.size ≤ 140737488355328) && (decide (n.kids.length < 1000000) && n.kids.all fun x => decide (-9223372036854775808 ≤ x) && decide (x ≤ 9223372036854775807))
theorem ok_of {l : List Nd} (h : okC l = true) : (∀ n ∈ l, TreeD.NdOk n) ∧ ∀ n ∈ l, n.kids.length < 1000000 := by
  simp only [okC, List.all_eq_true, Bool.and_eq_true, decide_eq_true_eq] at h
  exact ⟨fun n hn => ⟨(h n hn).1, by have := (h n hn).2.1; omega, (h n hn).2.2⟩, fun n hn => (h n hn).2.1⟩
/-- The awake's text: its nodes are a tree, and the model comes to an end: two variables, the first taken, two functions. -/
theorem t11_all : ∃ l st, ParD.parseP t11 = some l ∧ TreeD.checkV l = (0, 0) ∧ V l 30 (l.length - 1) (startP l) = some st ∧ (l.length ≤ 50000 ∧ (∀ n ∈ l, TreeD.NdOk n) ∧ ∀ n ∈ l, n.kids.length < 1000000) ∧ st.vars = [(2, 0, true), (8, 0, false)] ∧ st.funcs = [-1, 7] := by
  have h : ((ParD.parseP t11).bind fun l => (V l 30 (l.length - 1) (startP l)).map fun st => (TreeD.checkC l && (decide (l.length ≤ 50000) && okC l), st.vars, st.funcs)) = some (true, [(2, 0, true), (8, 0, false)], [-1, 7]) := by decide +kernel
  rw [Option.bind_eq_some_iff] at h
  obtain ⟨l, hl, h⟩ := h
  rw [Option.map_eq_some_iff] at h
  obtain ⟨st, hs, h⟩ := h
  injection h with h1 h2
  injection h2 with h2 h3
  simp only [Bool.and_eq_true, decide_eq_true_eq] at h1
  exact ⟨l, st, hl, TreeD.checkV_of h1.1, hs, ⟨h1.2.1, ok_of h1.2.2⟩, h2, h3⟩
end ScD
end Go.Proofs.YtmdkocegnbcgmaaGreatDoor
namespace Go.Proofs.YtmdkocegnbcgmaaGreatDoor
open Go.RowKit ObjM
namespace ScD
open TreeD (Nd)
open ParD (Row addrP)
set_option maxRecDepth 100000 in
set_option maxHeartbeats 16000000 in
theorem awake_any (w : World) (hT : NumD.Tab w) (ht : TreeD.Tt w) (hk : TreeD.Tk w) :
    Calls Tryz.prog 5 #[] w fun e w' => e = .returned (.bool true) ∧ Below w.heap.size w w' := by
  obtain ⟨l, st, hl, hc, hV, ⟨h5, hok, hkl⟩, hv, hf⟩ := t11_all
  have HPa := Lib.hid (ParD.rparse_any t11 l w hT hl)
  have HPr := Lib.hid (fun w1 v (hb : Below w.heap.size w w1) (hn : ParD.NdsCap w1 v l) => program_any w1 v l 30 st h5 hok hkl ⟨ht.below hb, hk.below (Nat.le_refl _) hb, hn.1, hn.2⟩ hc hV)
  have HSt := Lib.hid (⟨hv, hf⟩ : _ ∧ _)
  clear hl hc hV h5 hok hkl hv hf hT ht hk
  unfold t11 at HPa
  go_enter Tryz.func5, Tryz.ntmps5
  go_wp2_with fail
  refine HPa.out.mono ?_
  rintro e w1 ⟨v, rfl, hn, hb⟩
  have HP := Lib.hid (HPr.out w1 v hb hn)
  have HB := Lib.hid hb
  clear HPr HPa hn hb
  go_wp2_with fail
  refine HP.out.mono ?_
  rintro e w2 ⟨vv, v0, v1, v2, rfl, hb2, rv, r0, r1, r2⟩
  rw [HSt.out.1] at rv
  rw [HSt.out.2] at r1
  have hB2 := HB.out.trans (hb2.mono HB.out.size)
  obtain ⟨a0, n0, c0, rfl⟩ := own_slice r0
  obtain ⟨a2, n2, c2, rfl⟩ := own_slice r2
  unfold Row at r1
  rcases own_shape rv with ⟨-, -, e⟩ | ⟨gv, cv, xv, rfl, hgv, hhv, hnv, hcv, hlv, htv⟩
  · simp [rowVr] at e
  rcases own_shape r1 with ⟨-, e, -⟩ | ⟨g1, d1, x1, rfl, -, -, -, -, -, -⟩
  · simp at e
  have z2 := own_cell rv 2 (by simp [rowVr])
  have lv := hhv.lt
  simp [rowVr] at z2
  have HEnd : Hid (∀ w3, Below w2.heap.size w2 w3 → Below w.heap.size w w3) := Lib.hid fun w3 h3 => hB2.trans (h3.mono hB2.size)
  clear rv r0 r1 r2 hb2 hB2 HSt HP HB hhv hlv htv hgv hnv hcv
  go_wp2_with fail
  go_ret
  exact ⟨rfl, HEnd.out _ ((Below.refl _ w2).alloc (Nat.le_refl _) _)⟩
end ScD
end Go.Proofs.YtmdkocegnbcgmaaGreatDoor
