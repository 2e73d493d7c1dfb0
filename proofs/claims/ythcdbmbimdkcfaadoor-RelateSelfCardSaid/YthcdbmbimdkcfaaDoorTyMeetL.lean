/- What two types say together: what the walks want. -/
import Derived.Test.YthcdbmbimdkcfaaDoorTyJoin
import Derived.Test.YthcdbmbimdkcfaaDoorTyMeet
import Derived.Test.YthcdbmbimdkcfaaDoorTySub
import Derived.Deep.DeepCutAuto
namespace Go.Proofs.YthcdbmbimdkcfaaDoor
open Go.RowKit ObjM
namespace TyD
open LexD (WTab)

/-- What Meet answers: a type that stands on what came in (below n0) or on what was made; or none. -/
def MeetIs (n0 : Nat) (w : World) (o : Option Ty) (e : Ending) (w' : World) : Prop :=
  match o with
  | some t => ∃ vn va, e = .returned (.tuple #[.agg #[.int .i64 t.kind, vn, va], .bool true]) ∧ Snug w' (fun k => k < n0 ∨ w.heap.size ≤ k ∧ k < w'.heap.size) vn va t ∧ Below w.heap.size w w'
  | none => e = .returned (.tuple #[.agg #[.int .i64 0, .slice none 0 0, .slice none 0 0], .bool false]) ∧ Below w.heap.size w w'
/-- The part that a round has found, in a variable of its own. -/
def PartIs (n0 : Nat) (wr : World) (o : Option Ty) (s8 s9 : Value) (wx : World) : Prop :=
  Below wr.heap.size wr wx ∧ match o with
  | some t => ∃ G an cn aa ca, s8 = .pointer (some ⟨G, 0, none⟩) ∧ s9 = .bool true ∧ wr.heap.size ≤ G ∧ Has wx G 25 [.int .i64 t.kind, .slice an t.names.length cn, .slice aa t.args.length ca] ∧
      Snug wx (fun k => k < n0 ∨ wr.heap.size ≤ k ∧ k < wx.heap.size ∧ k ≠ G) (.slice an t.names.length cn) (.slice aa t.args.length ca) t
  | none => s9 = .bool false
theorem below_drew {W0 W w : World} (h : Below W0.heap.size W0 W) (k : Below W.drew.heap.size W.drew w) : Below W0.heap.size W0 w := h.trans (((Below.refl _ W).drew.trans k).mono h.size)
theorem partA {n0 : Nat} {wr w5 : World} {t : Ty} {an aa : Option Addr} {cn ca : Nat} (hn : n0 ≤ wr.heap.size)
    (hs : Snug w5 (fun k => k < n0 ∨ (wr.alloc (.cells #[.int .i64 0, .slice none 0 0, .slice none 0 0] 25)).drew.heap.size ≤ k ∧ k < w5.heap.size) (.slice an t.names.length cn) (.slice aa t.args.length ca) t)
    (hb : Below (wr.alloc (.cells #[.int .i64 0, .slice none 0 0, .slice none 0 0] 25)).drew.heap.size (wr.alloc (.cells #[.int .i64 0, .slice none 0 0, .slice none 0 0] 25)).drew w5) :
    PartIs n0 wr (some t) (.pointer (some ⟨wr.heap.size, 0, none⟩)) (.bool true) (((w5.setCell ⟨wr.heap.size, 0, none⟩ (.int .i64 t.kind)).setCell ⟨wr.heap.size, 1, none⟩ (.slice an t.names.length cn)).setCell ⟨wr.heap.size, 2, none⟩ (.slice aa t.args.length ca)) := by
  have h5 := (Has.new wr 25 [.int .i64 0, .slice none 0 0, .slice none 0 0]).drew.below hb (by simp)
  have K := keep3 w5 wr.heap.size (.int .i64 t.kind) (.slice an t.names.length cn) (.slice aa t.args.length ca)
  have hb0 : Below wr.heap.size wr w5 := below_on ((Below.refl _ wr).alloc (Nat.le_refl _) _).drew hb
  refine ⟨((hb0.setCell (by simp) _).setCell (by simp) _).setCell (by simp) _, wr.heap.size, an, cn, aa, ca, rfl, rfl, Nat.le_refl _, has3 h5, (hs.keeps K (by intro x hx; simp at hx; simp; omega)).sub (fun k hk => ?_) (fun k hk => ?_)⟩
  · have := K.size
    simp at hk
    omega
  · have := K.size
    have := hb0.size
    omega
theorem partB {n0 : Nat} {wr w5 : World} {t : Ty} {an aa : Option Addr} {cn ca : Nat} (hn : n0 ≤ wr.heap.size)
    (hs : Snug w5 (fun k => k < n0 ∨ wr.drew.heap.size ≤ k ∧ k < w5.heap.size) (.slice an t.names.length cn) (.slice aa t.args.length ca) t)
    (hb : Below wr.drew.heap.size wr.drew w5) :
    PartIs n0 wr (some t) (.pointer (some ⟨w5.heap.size, 0, none⟩)) (.bool true) (w5.alloc (.cells #[.int .i64 t.kind, .slice an t.names.length cn, .slice aa t.args.length ca] 25)) := by
  have hb0 : Below wr.heap.size wr w5 := below_on (Below.refl _ wr).drew hb
  have hz : wr.drew.heap.size = wr.heap.size := rfl
  refine ⟨hb0.alloc hb0.size _, w5.heap.size, an, cn, aa, ca, rfl, rfl, hb0.size, Has.new w5 25 _, (hs.keeps (Keeps.alloc [] w5 _) (by simp)).sub (fun k hk => ?_) (fun k hk => ?_)⟩
  · simp only [World.size_alloc]
    omega
  · simp only [World.size_alloc] at hk ⊢
    have := hb0.size
    omega
theorem partA0 {n0 : Nat} {wr w5 : World} {s8 : Value} {a b c : Value}
    (hb : Below (wr.alloc (.cells #[.int .i64 0, .slice none 0 0, .slice none 0 0] 25)).drew.heap.size (wr.alloc (.cells #[.int .i64 0, .slice none 0 0, .slice none 0 0] 25)).drew w5) :
    PartIs n0 wr none s8 (.bool false) (((w5.setCell ⟨wr.heap.size, 0, none⟩ a).setCell ⟨wr.heap.size, 1, none⟩ b).setCell ⟨wr.heap.size, 2, none⟩ c) := by
  have hb0 : Below wr.heap.size wr w5 := below_on ((Below.refl _ wr).alloc (Nat.le_refl _) _).drew hb
  exact ⟨((hb0.setCell (by simp) _).setCell (by simp) _).setCell (by simp) _, rfl⟩
theorem partB0 {n0 : Nat} {wr w5 : World} {s8 : Value} {o : Go.Obj} (hb : Below wr.drew.heap.size wr.drew w5) : PartIs n0 wr none s8 (.bool false) (w5.alloc o) := by
  have hb0 : Below wr.heap.size wr w5 := below_on (Below.refl _ wr).drew hb
  exact ⟨hb0.alloc hb0.size _, rfl⟩
theorem ok_args {r : Nat} {a : Ty} (h : Ok r a) : a.args.length ≤ 10000 ∧ a.names.length ≤ 10000 := by
  obtain ⟨h1, h2⟩ := (check_iff a).1 h.check
  obtain ⟨k, ns, ls⟩ := a
  have h3 := (valid_parts h1).1
  have h4 := size_args (r := 49) (Ty.mk k ns ls)
  have h5 := sumF_len 49 ls
  have h6 := parts_names h3
  have e : sizeF 50 (Ty.mk k ns ls) = 1 + sumF 49 ls := h4
  simp only [Ty.args, Ty.names]
  omega
theorem mapM_drop {r : Nat} {l m : List Ty} {k : Nat} (hl : k < l.length) (hm : k < m.length) : ((l.drop k).zip (m.drop k)).mapM (fun x => meetF r x.1 x.2) = (meetF r l[k] m[k]).bind fun t => (((l.drop (k + 1)).zip (m.drop (k + 1))).mapM (fun x => meetF r x.1 x.2)).map (t :: ·) := by
  rw [List.drop_eq_getElem_cons hl, List.drop_eq_getElem_cons hm, List.zip_cons_cons, List.mapM_cons]
  simp only [bind, pure]
  cases meetF r l[k] m[k] with
  | none => rfl
  | some t => cases ((l.drop (k + 1)).zip (m.drop (k + 1))).mapM (fun x => meetF r x.1 x.2) <;> rfl
theorem meet_def {r : Nat} {a b : Ty} : meetF (r + 1) a b = if precB (r + 1) a b then some a else if precB (r + 1) b a then some b else if pairB a b then ((a.args.zip b.args).mapM fun x => meetF r x.1 x.2).map fun l => .mk a.kind a.names l else none := rfl
theorem meet_fin {n0 : Nat} {w W w1 : World} {R : Nat} {t : Ty} {vn va : Value} {D : Nat → Prop} (hb : Below w.heap.size w W) (hR : w.heap.size ≤ R ∧ R < W.heap.size) (hs : Snug w1 D vn va t) (hD : ∀ k, D k → k < n0 ∨ W.heap.size ≤ k ∧ k < w1.heap.size) (hn : n0 ≤ w.heap.size) (h1 : Below W.heap.size W w1) (a b c : Value) :
    MeetIs n0 w (some t) (.returned (.tuple #[.agg #[.int .i64 t.kind, vn, va], .bool true])) (((w1.setCell ⟨R, 0, none⟩ a).setCell ⟨R, 1, none⟩ b).setCell ⟨R, 2, none⟩ c) := by
  have K := keep3 w1 R a b c
  have hw := hb.size
  have hw1 := h1.size
  have hk1 := K.size
  refine ⟨vn, va, rfl, (hs.keeps K fun x hx hd => ?_).sub (fun k hk => ?_) (fun k hk => ?_), ?_⟩
  · have := hD x hd
    simp at hx
    omega
  · have := hD k hk
    omega
  · omega
  · exact (hb.trans (h1.mono hw)).trans (K.toBelow w.heap.size (Nat.le_trans hw hw1) (by intro x hx; simp at hx; omega))
end TyD
end Go.Proofs.YthcdbmbimdkcfaaDoor
