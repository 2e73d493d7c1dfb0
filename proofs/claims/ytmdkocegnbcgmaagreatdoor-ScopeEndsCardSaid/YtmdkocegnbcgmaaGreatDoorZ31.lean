/- The document's parser: what looks at the next token, and goes past it. -/
import Derived.Test.YtmdkocegnbcgmaaGreatDoorZ30
import Derived.Deep.RegionHeld3
import Derived.Deep.DeepCutAuto
import Derived.BigQuiet
import Derived.LoopTactic
import Derived.WalkSmall
namespace Go.Proofs.YtmdkocegnbcgmaaGreatDoor
open Go.RowKit ObjM
namespace ParD
open TreeD (Nd builtinV)
open LexD (Tok)

set_option maxRecDepth 100000 in
set_option maxHeartbeats 4000000 in
theorem is_any (B P : Nat) (T : List Tok) (A : Nat → Prop) (tv : Value) (st : PS) (s : ByteArray) (w : World) (h : PAt w B P T A tv st) :
    Calls Tryz.prog 29 #[.pointer (some ⟨P, 0, none⟩), .string s] w fun e w' => e = .returned (.bool (isP T s st)) ∧ ∃ m, w' = w.drewN m := by
  obtain ⟨b, cap, la, ln, lc, rfl, -, c0, c1, c2, c3, c4, c5, f, lp, t0, t1, t2, t3, t4, lb, ne, li, l0, ls⟩ := h.reads
  unfold isP
  generalize cur T st = t at t0 t1 t2 t3 t4 ⊢
  generalize st.i = i at c1 li l0 ls t0 t1 t2 t3 t4
  generalize T.length = n at c0 li
  clear c2 c3 c4 c5 f h t2 t3 t4
  have HT : ∀ a, a = ((t.kind == 2 || t.kind == 5) && eqB t.text s) → ∀ m n, (fun e w' => e = Ending.returned (.bool ((t.kind == 2 || t.kind == 5) && eqB t.text s)) ∧ ∃ m, w' = w.drewN m) (.returned (.bool a)) ((w.drewN m).drewN n) := by
    rintro a rfl m n
    exact ⟨rfl, _, World.drewN_drewN ..⟩
  have HT := Lib.hid HT
  have hq : (t.text.toList == s.toList) = eqB t.text s := by rw [ByteArray.toList_eq, ByteArray.toList_eq]; rfl
  have HQ := Lib.hid hq
  clear hq
  by_cases k2 : t.kind = 2
  · have e2 : (t.kind == 2) = true := by simpa using k2
    clear k2
    go_enter Tryz.func29, Tryz.ntmps29
    go_wp2
    go_quiet (fail)
    go_wp2
    go_quiet (fail)
    go_wp2
    go_ret
    exact HT.out _ (by rw [e2, HQ.out]; rfl) _ _
  · have e2 : (t.kind == 2) = false := by simpa using k2
    clear k2
    by_cases k5 : t.kind = 5
    · have e5 : (t.kind == 5) = true := by simpa using k5
      clear k5
      go_enter Tryz.func29, Tryz.ntmps29
      go_wp2
      go_quiet (fail)
      go_wp2
      go_quiet (fail)
      go_wp2
      go_ret
      exact HT.out _ (by rw [e2, e5, HQ.out]; rfl) _ _
    · have e5 : (t.kind == 5) = false := by simpa using k5
      clear k5
      go_enter Tryz.func29, Tryz.ntmps29
      go_wp2
      go_quiet (fail)
      go_wp2
      go_quiet (fail)
      go_wp2
      go_ret
      exact HT.out _ (by rw [e2, e5]; rfl) _ _
theorem PAt.drewN {W : World} {B P : Nat} {T : List Tok} {A : Nat → Prop} {tv : Value} {st : PS} (h : PAt W B P T A tv st) (n : Nat) : PAt (W.drewN n) B P T A tv st := h.below (_root_.Go.below_drewN (Below.refl _ _) n)
theorem Fr.drewN {B : Nat} {a b : World} (h : Fr B a b) (n : Nat) : Fr B a (b.drewN n) := ⟨h.k.drewN n, _root_.Go.below_drewN h.b n⟩
theorem need_some {T : List Tok} {s : ByteArray} {st st' : PS} {z : Int} (h : needP T s st = some (z, st')) : isP T s st = true ∧ st.i + 1 < T.length ∧ z = (cur T st).lo ∧ st' = { st with i := st.i + 1 } := by
  unfold needP adv at h
  split at h
  · rename_i h1
    split at h
    · rename_i h2
      simp only [Option.map_some, Option.some.injEq, Prod.mk.injEq] at h
      exact ⟨h1, h2, h.1.symm, h.2.symm⟩
    · cases h
  · cases h
set_option maxRecDepth 100000 in
set_option maxHeartbeats 4000000 in
theorem need_any (B P : Nat) (T : List Tok) (A : Nat → Prop) (tv : Value) (st st' : PS) (s : ByteArray) (z : Int) (w : World) (h : PAt w B P T A tv st) (hM : needP T s st = some (z, st')) :
    Calls Tryz.prog 51 #[.pointer (some ⟨P, 0, none⟩), .string s] w (Ret B P T A tv w (.int .i64 z) st') := by
  obtain ⟨h1, h2, rfl, rfl⟩ := need_some hM
  obtain ⟨i, l, o⟩ := st
  have HS := Lib.hid h
  have HIs := Lib.hid (fun n => (is_any B P T A tv ⟨i, l, o⟩ s (w.drewN n) (h.drewN n)))
  rw [h1] at HIs
  obtain ⟨b, cap, la, ln, lc, rfl, -, c0, c1, c2, c3, c4, c5, f, lp, t0, t1, t2, t3, t4, lb, ne, li, l0, ls⟩ := h.reads
  have HR : Hid (∀ m, Ret B P T A (.slice (some ⟨b, 0, none⟩) T.length cap) w (.int .i64 (cur T ⟨i, l, o⟩).lo) ⟨i + 1, l, o⟩ (.returned (.int .i64 (cur T ⟨i, l, o⟩).lo)) ((w.drewN m).setCell ⟨P, 1, none⟩ (.int .i64 ((i : Int) + 1)))) := Lib.hid fun m => by
    obtain ⟨q1, q2⟩ := (HS.out.drewN m).setI h2
    exact ⟨rfl, q1, ((Fr.refl B w).drewN m).trans q2⟩
  generalize cur T ⟨i, l, o⟩ = t at t0 t1 t2 t3 t4 HR ⊢
  simp only at c1 li l0 ls t2
  have hw : IntKind.i64.wrap ((i : Int) + 1) = (i : Int) + 1 := IntWalk.i64_in _ (by omega)
  have f1 := f 1
  generalize T.length = n at c0 li HR ⊢
  clear c2 c3 c4 h t0 t1 t3 t4 hM h1 h2 f HS
  go_enter Tryz.func51, Tryz.ntmps51
  go_wp2
  go_quiet (fail)
  go_wp2_with fail
  refine (HIs.out _).mono ?_
  rintro e w1 ⟨rfl, m, rfl⟩
  go_wp2
  go_ret
  exact HR.out _
theorem take_some {T : List Tok} {s : ByteArray} {st st' : PS} {q : Bool} (h : takeP T s st = some (q, st')) : (q = true ∧ isP T s st = true ∧ st.i + 1 < T.length ∧ st' = { st with i := st.i + 1 }) ∨ (q = false ∧ isP T s st = false ∧ st' = st) := by
  unfold takeP adv at h
  split at h
  · rename_i h1
    split at h
    · rename_i h2
      simp only [Option.map_some, Option.some.injEq, Prod.mk.injEq] at h
      exact .inl ⟨h.1.symm, h1, h2, h.2.symm⟩
    · cases h
  · rename_i h1
    simp only [Option.some.injEq, Prod.mk.injEq] at h
    exact .inr ⟨h.1.symm, by simpa using h1, h.2.symm⟩
set_option maxRecDepth 100000 in
set_option maxHeartbeats 4000000 in
theorem take_any (B P : Nat) (T : List Tok) (A : Nat → Prop) (tv : Value) (st st' : PS) (s : ByteArray) (q : Bool) (w : World) (h : PAt w B P T A tv st) (hM : takeP T s st = some (q, st')) :
    Calls Tryz.prog 83 #[.pointer (some ⟨P, 0, none⟩), .string s] w (Ret B P T A tv w (.bool q) st') := by
  obtain ⟨i, l, o⟩ := st
  have HS := Lib.hid h
  have HIs := Lib.hid (fun n => (is_any B P T A tv ⟨i, l, o⟩ s (w.drewN n) (h.drewN n)))
  have hI0 := is_any B P T A tv ⟨i, l, o⟩ s w h
  obtain ⟨b, cap, la, ln, lc, rfl, -, c0, c1, c2, c3, c4, c5, f, lp, t0, t1, t2, t3, t4, lb, ne, li, l0, ls⟩ := h.reads
  simp only at c1 li l0 ls
  have hw : IntKind.i64.wrap ((i : Int) + 1) = (i : Int) + 1 := IntWalk.i64_in _ (by omega)
  have f1 := f 1
  rcases take_some hM with ⟨rfl, h1, h2, rfl⟩ | ⟨rfl, h1, rfl⟩
  · rw [h1] at hI0
    have HI0 := Lib.hid hI0
    have HR : Hid (∀ m, Ret B P T A (.slice (some ⟨b, 0, none⟩) T.length cap) w (.bool true) ⟨i + 1, l, o⟩ (.returned (.bool true)) ((w.drewN m).setCell ⟨P, 1, none⟩ (.int .i64 ((i : Int) + 1)))) := Lib.hid fun m => by
      obtain ⟨q1, q2⟩ := (HS.out.drewN m).setI h2
      exact ⟨rfl, q1, ((Fr.refl B w).drewN m).trans q2⟩
    clear c2 c3 c4 h t0 t1 t2 t3 t4 hM h1 h2 f HS hI0 c0 li
    go_enter Tryz.func83, Tryz.ntmps83
    go_wp2_with fail
    refine (HI0.out).mono ?_
    rintro e w1 ⟨rfl, m, rfl⟩
    go_wp2
    go_ret
    exact HR.out _
  · rw [h1] at hI0
    have HI0 := Lib.hid hI0
    have HR : Hid (∀ m, Ret B P T A (.slice (some ⟨b, 0, none⟩) T.length cap) w (.bool false) ⟨i, l, o⟩ (.returned (.bool false)) (w.drewN m)) := Lib.hid fun m => ⟨rfl, HS.out.drewN m, (Fr.refl B w).drewN m⟩
    clear c2 c3 c4 h t0 t1 t2 t3 t4 hM h1 f HS hI0 c0 li
    go_enter Tryz.func83, Tryz.ntmps83
    go_wp2_with fail
    refine (HI0.out).mono ?_
    rintro e w1 ⟨rfl, m, rfl⟩
    go_wp2
    go_ret
    exact HR.out _
theorem deep_some {st st' : PS} (h : deepP st = some st') : st.opn < 150 ∧ st' = { st with opn := st.opn + 1 } := by
  unfold deepP at h
  split at h
  · rename_i h1
    simp only [Option.some.injEq] at h
    exact ⟨h1, h.symm⟩
  · cases h
set_option maxRecDepth 100000 in
set_option maxHeartbeats 4000000 in
theorem deeper_any (B P : Nat) (T : List Tok) (A : Nat → Prop) (tv : Value) (st st' : PS) (at_ : Int) (w : World) (h : PAt w B P T A tv st) (hM : deepP st = some st') :
    Calls Tryz.prog 90 #[.pointer (some ⟨P, 0, none⟩), .int .i64 at_] w (Ret B P T A tv w (.bool true) st') := by
  obtain ⟨i, l, o⟩ := st
  obtain ⟨h1, rfl⟩ := deep_some hM
  simp only at h1
  have HR : Hid (Ret B P T A tv w (.bool true) ⟨i, l, o + 1⟩ (.returned (.bool true)) (w.setCell ⟨P, 3, none⟩ (.int .i64 ((o : Int) + 1)))) := Lib.hid (by
    obtain ⟨q1, q2⟩ := h.setO (o' := o + 1) (by omega) ((o : Int) + 1) (by omega)
    exact ⟨rfl, q1, q2⟩)
  obtain ⟨b, cap, la, ln, lc, rfl, -, c0, c1, c2, c3, c4, c5, f, lp, t0, t1, t2, t3, t4, lb, ne, li, l0, ls⟩ := h.reads
  simp only at c3
  have hw : IntKind.i64.wrap ((o : Int) + 1) = (o : Int) + 1 := IntWalk.i64_in _ (by omega)
  have f3 := f 3
  have hi : ¬ (150 : Int) < (o : Int) + 1 := by omega
  clear c2 c1 c4 h t0 t1 t2 t3 t4 hM h1 f c0 li l0 ls
  go_enter Tryz.func90, Tryz.ntmps90
  go_wp2
  go_ret
  exact HR.out
theorem kind_some {T : List Tok} {k : Int} {st st' : PS} {t : Tok} (h : kindP T k st = some (t, st')) : (cur T st).kind = k ∧ st.i + 1 < T.length ∧ t = cur T st ∧ st' = { st with i := st.i + 1 } := by
  unfold kindP adv at h
  split at h
  · rename_i h1
    split at h
    · rename_i h2
      simp only [Option.map_some, Option.some.injEq, Prod.mk.injEq] at h
      exact ⟨h1, h2, h.1.symm, h.2.symm⟩
    · cases h
  · cases h
def tokA (t : Tok) : Value := .agg #[.int .i64 t.kind, .string t.text, .int .i64 t.lo, .int .i64 t.hi, .int .i64 t.n]
set_option maxRecDepth 100000 in
set_option maxHeartbeats 4000000 in
theorem kind_any (B P : Nat) (T : List Tok) (A : Nat → Prop) (tv : Value) (st st' : PS) (k : Int) (t : Tok) (w : World) (h : PAt w B P T A tv st) (hM : kindP T k st = some (t, st')) :
    Calls Tryz.prog 52 #[.pointer (some ⟨P, 0, none⟩), .int .i64 k] w (Ret B P T A tv w (tokA t) st') := by
  obtain ⟨h1, h2, rfl, rfl⟩ := kind_some hM
  obtain ⟨i, l, o⟩ := st
  have HS := Lib.hid h
  obtain ⟨b, cap, la, ln, lc, rfl, -, c0, c1, c2, c3, c4, c5, f, lp, t0, t1, t2, t3, t4, lb, ne, li, l0, ls⟩ := h.reads
  simp only at c1 li l0 ls
  have hw : IntKind.i64.wrap ((i : Int) + 1) = (i : Int) + 1 := IntWalk.i64_in _ (by omega)
  have f1 := f 1
  have hk : ((cur T ⟨i, l, o⟩).kind != k) = false := by simpa using h1
  generalize cur T ⟨i, l, o⟩ = t at t0 t1 t2 t3 t4 hk ⊢
  clear c2 c3 c4 h hM h1 f
  have hr := HS.out.setI h2
  have HR : Hid (∀ x y, PAt (((w.setCell ⟨P, 1, none⟩ (.int .i64 ((i : Int) + 1))).alloc x).alloc y).drew B P T A (.slice (some ⟨b, 0, none⟩) T.length cap) ⟨i + 1, l, o⟩ ∧ Fr B w (((w.setCell ⟨P, 1, none⟩ (.int .i64 ((i : Int) + 1))).alloc x).alloc y).drew) := Lib.hid fun x y => by
    refine ⟨((hr.1.alloc x).alloc y).drew, ((hr.2.alloc hr.1.bw x).alloc (Nat.le_trans hr.1.bw (by simp)) y).drew⟩
  have hz : (w.setCell ⟨P, 1, none⟩ (.int .i64 ((i : Int) + 1))).heap.size = w.heap.size := by simp [World.setCell]
  have HZ := Lib.hid hz
  clear hr HS h2 hz
  go_enter Tryz.func52, Tryz.ntmps52
  go_wp2
  go_region
  all_goals
    go_wp2
    refine bodyPost_ret (v := tokA t) ?_ rfl ?_
    · simp [results, Tryz.results52, go_sem]
      rfl
    · obtain ⟨q1, q2⟩ := HR.out _ _
      exact ⟨rfl, q1, q2⟩
/-- What was written is nothing that the parser has. -/
theorem PAt.side {ts : List TypeId} {W W' : World} {B P : Nat} {T : List Tok} {A : Nat → Prop} {tv : Value} {st : PS} (h : PAt W B P T A tv st) (k : KeepsT ts W W') (kb : Below B W W') (h1 : 53 ∉ ts) (h2 : 40 ∉ ts) (h3 : 3 ∉ ts) : PAt W' B P T A tv st := by
  obtain ⟨b, cap, e, hb, ht⟩ := h.tks
  obtain ⟨lv, nv, g1, g2, g3, g4⟩ := h.obj
  exact ⟨h.lt, h.tl, ⟨b, cap, e, hb, fun i t hi => tk_below hb kb (ht i t hi)⟩, ⟨lv, nv, g1.keepsT k h1, g2, own_keepsT g3 k h2, fun x hx => ⟨(g4 x hx).1.keepsT k h3, (g4 x hx).2⟩⟩, h.low, Nat.le_trans h.bw kb.size, h.ol, h.ll, tab_below h.tab h.tg kb, h.tg, h.nb, fun a ha => Nat.lt_of_lt_of_le (h.av a ha) kb.size⟩
theorem set5 {a b : World} {B G : Nat} {cs : List Value} (h : Fr B a b) (hG : Has b G 57 cs) (ha : a.heap.size ≤ G) (hB : B ≤ a.heap.size) (v0 v1 v2 v3 v4 : Value) :
    Fr B a (((((b.setCell ⟨G, 0, none⟩ v0).setCell ⟨G, 1, none⟩ v1).setCell ⟨G, 2, none⟩ v2).setCell ⟨G, 3, none⟩ v3).setCell ⟨G, 4, none⟩ v4) ∧
    (∀ {P : Nat} {T : List Tok} {A : Nat → Prop} {tv : Value} {st : PS}, PAt b B P T A tv st → PAt (((((b.setCell ⟨G, 0, none⟩ v0).setCell ⟨G, 1, none⟩ v1).setCell ⟨G, 2, none⟩ v2).setCell ⟨G, 3, none⟩ v3).setCell ⟨G, 4, none⟩ v4) B P T A tv st) := by
  have k5 : ∀ {ts : List TypeId} {a : World}, KeepsT ts a b → (57 ∈ ts ∨ a.heap.size ≤ G) → KeepsT ts a (((((b.setCell ⟨G, 0, none⟩ v0).setCell ⟨G, 1, none⟩ v1).setCell ⟨G, 2, none⟩ v2).setCell ⟨G, 3, none⟩ v3).setCell ⟨G, 4, none⟩ v4) := by
    intro ts a h ht
    exact ((((h.set hG ht 0 v0).set (hG.set 0 v0) ht 1 v1).set ((hG.set 0 v0).set 1 v1) ht 2 v2).set (((hG.set 0 v0).set 1 v1).set 2 v2) ht 3 v3).set ((((hG.set 0 v0).set 1 v1).set 2 v2).set 3 v3) ht 4 v4
  have b5 : ∀ {a : World}, Below B a b → Below B a (((((b.setCell ⟨G, 0, none⟩ v0).setCell ⟨G, 1, none⟩ v1).setCell ⟨G, 2, none⟩ v2).setCell ⟨G, 3, none⟩ v3).setCell ⟨G, 4, none⟩ v4) := by
    intro a h
    have hg : B ≤ G := Nat.le_trans hB ha
    exact ((((h.setCell hg v0).setCell hg v1).setCell hg v2).setCell hg v3).setCell hg v4
  exact ⟨⟨k5 h.k (.inr ha), b5 h.b⟩, fun hp => hp.side (k5 (KeepsT.refl [57] b) (.inl (by simp))) (b5 (Below.refl _ _)) (by decide +kernel) (by decide +kernel) (by decide +kernel)⟩
theorem var_some {T : List Tok} {st st' : PS} {t : Tok} (h : varP T st = some (t, st')) : kindP T 1 st = some (t, st') ∧ builtinV t.text < 0 := by
  unfold varP at h
  rw [Option.bind_eq_some_iff] at h
  obtain ⟨r, h1, h2⟩ := h
  split at h2
  · cases h2
  · rename_i h3
    simp only [Option.some.injEq] at h2
    subst h2
    exact ⟨h1, by simp only at h3; omega⟩
set_option maxRecDepth 100000 in
set_option maxHeartbeats 4000000 in
theorem variable_any (B P : Nat) (T : List Tok) (A : Nat → Prop) (tv : Value) (st st' : PS) (t : Tok) (w : World) (h : PAt w B P T A tv st) (hM : varP T st = some (t, st')) :
    Calls Tryz.prog 86 #[.pointer (some ⟨P, 0, none⟩)] w (Ret B P T A tv w (tokA t) st') := by
  obtain ⟨h1, h2⟩ := var_some hM
  have HK := Lib.hid (kind_any B P T A tv st st' 1 t (w.alloc (.cells #[.int .i64 0, .string ⟨#[]⟩, .int .i64 0, .int .i64 0, .int .i64 0] 57)) (h.alloc _) h1)
  have HF := Lib.hid (((Fr.refl B w).alloc h.bw (.cells #[.int .i64 0, .string ⟨#[]⟩, .int .i64 0, .int .i64 0, .int .i64 0] 57)))
  have HA := Lib.hid (Has.new w 57 [.int .i64 0, .string ⟨#[]⟩, .int .i64 0, .int .i64 0, .int .i64 0])
  have HBw := Lib.hid h.bw
  have HV := Lib.hid (fun W => TreeD.refBuiltin_any t.text W)
  have hbi : ¬ (0 : Int) ≤ builtinV t.text := by omega
  generalize builtinV t.text = bv at hbi HV
  clear h hM h1 h2
  unfold tokA at HK ⊢
  go_enter Tryz.func86, Tryz.ntmps86
  go_wp2_with fail
  refine (HK.out).mono ?_
  rintro e w1 ⟨rfl, HS1, HF1⟩
  have hr := HA.out.keepsT HF1.k (by decide +kernel)
  have r0 := hr.cell 0
  have r1 := hr.cell 1
  have r2 := hr.cell 2
  have r3 := hr.cell 3
  have r4 := hr.cell 4
  have f0 := hr.frozen 0
  have f1 := hr.frozen 1
  have f2 := hr.frozen 2
  have f3 := hr.frozen 3
  have f4 := hr.frozen 4
  have lr := hr.lt
  simp only [List.getElem?_cons_zero, List.getElem?_cons_succ] at r0 r1 r2 r3 r4
  have HE := Lib.hid (⟨HS1, HF.out.trans HF1⟩ : _ ∧ _)
  have HA1 := Lib.hid hr
  clear HS1 HF1 hr HK
  go_wp2_with fail
  refine (HV.out _).mono ?_
  rintro e w2 ⟨rfl, rfl⟩
  go_wp2
  obtain ⟨q1, q2⟩ := set5 HE.out.2 HA1.out (Nat.le_refl _) HBw.out (.int .i64 t.kind) (.string t.text) (.int .i64 t.lo) (.int .i64 t.hi) (.int .i64 t.n)
  have q3 := q2 HE.out.1
  have hy := ((((((HA1.out.set 0 (.int .i64 t.kind)).set 1 (.string t.text)).set 2 (.int .i64 t.lo)).set 3 (.int .i64 t.hi)).set 4 (.int .i64 t.n))).keepsT ((KeepsT.refl [] _).alloc (.cells #[.int .i64 t.kind, .string t.text, .int .i64 t.lo, .int .i64 t.hi, .int .i64 t.n] 57)) (by simp)
  have y0 := hy.cell 0
  have y1 := hy.cell 1
  have y2 := hy.cell 2
  have y3 := hy.cell 3
  have y4 := hy.cell 4
  simp only [List.set_cons_zero, List.set_cons_succ, List.getElem?_cons_zero, List.getElem?_cons_succ] at y0 y1 y2 y3 y4
  exact bodyPost_ret (v := .agg #[.int .i64 t.kind, .string t.text, .int .i64 t.lo, .int .i64 t.hi, .int .i64 t.n]) (by simp [results, Tryz.results86, go_sem, y0, y1, y2, y3, y4]) rfl ⟨rfl, q3.alloc _, q1.alloc q3.bw _⟩
end ParD
end Go.Proofs.YtmdkocegnbcgmaaGreatDoor
