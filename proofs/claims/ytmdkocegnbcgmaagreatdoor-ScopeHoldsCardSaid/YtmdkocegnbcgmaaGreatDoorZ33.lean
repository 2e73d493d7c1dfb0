/- The document's parser: whether a block ends; a node more. -/
import Derived.Test.YtmdkocegnbcgmaaGreatDoorZ31
import Derived.Deep.RegionLaw
import Derived.Test.YtmdkocegnbcgmaaGreatDoorZ32
import Derived.LoopTactic
import Derived.Test.YtmdkocegnbcgmaaGreatDoorZ6
import Derived.Test.YtmdkocegnbcgmaaGreatDoorZ28
import Derived.Deep.RegionHeld3
import Derived.BigQuiet
namespace Go.Proofs.YtmdkocegnbcgmaaGreatDoor
open Go.RowKit ObjM RoundM
namespace ParD
open TreeD (Nd builtinV)
open LexD (Tok)

theorem is_drewN (B P : Nat) (T : List Tok) (A : Nat → Prop) (tv : Value) (st : PS) (s : ByteArray) (q : Bool) (w : World) (h : PAt w B P T A tv st) (hq : isP T s st = q) (n : Nat) :
    Calls Tryz.prog 29 #[.pointer (some ⟨P, 0, none⟩), .string s] (w.drewN n) fun e w' => e = .returned (.bool q) ∧ ∃ m, w' = w.drewN m := by
  refine (is_any B P T A tv st s (w.drewN n) (h.drewN n)).mono ?_
  rintro e w' ⟨rfl, m, rfl⟩
  exact ⟨by rw [hq], n + m, World.drewN_drewN ..⟩
set_option maxRecDepth 100000 in
set_option maxHeartbeats 4000000 in
theorem ends_any (B P : Nat) (T : List Tok) (A : Nat → Prop) (tv : Value) (st : PS) (w : World) (h : PAt w B P T A tv st) :
    Calls Tryz.prog 56 #[.pointer (some ⟨P, 0, none⟩)] w fun e w' => e = .returned (.bool (endsP T st)) ∧ ∃ m, w' = w.drewN m := by
  obtain ⟨b1, hb1⟩ : ∃ q, isP T ⟨#[101, 110, 100]⟩ st = q := ⟨_, rfl⟩
  obtain ⟨b2, hb2⟩ : ∃ q, isP T ⟨#[101, 108, 115, 101]⟩ st = q := ⟨_, rfl⟩
  obtain ⟨b3, hb3⟩ : ∃ q, isP T ⟨#[101, 108, 115, 101, 105, 102]⟩ st = q := ⟨_, rfl⟩
  have H1 := Lib.hid (is_drewN B P T A tv st ⟨#[101, 110, 100]⟩ b1 w h hb1)
  have H2 := Lib.hid (is_drewN B P T A tv st ⟨#[101, 108, 115, 101]⟩ b2 w h hb2)
  have H3 := Lib.hid (is_drewN B P T A tv st ⟨#[101, 108, 115, 101, 105, 102]⟩ b3 w h hb3)
  have HV : endsP T st = ((cur T st).kind == 0 || b1 || b2 || b3) := by
    rw [← hb1, ← hb2, ← hb3]
    rfl
  rw [HV]
  obtain ⟨b, cap, la, ln, lc, rfl, -, c0, c1, c2, c3, c4, c5, f, lp, t0, t1, t2, t3, t4, lb, ne, li, l0, ls⟩ := h.reads
  generalize cur T st = t at t0 ⊢
  obtain ⟨bk, hk⟩ : ∃ q, (t.kind == 0) = q := ⟨_, rfl⟩
  rw [hk]
  generalize st.i = i at c1 li l0 ls t0
  clear c2 c3 c4 c5 f h t1 t2 t3 t4 hb1 hb2 hb3 HV
  have HT : Hid (∀ a, a = (bk || b1 || b2 || b3) → ∀ m, (fun e w' => e = Ending.returned (.bool (bk || b1 || b2 || b3)) ∧ ∃ m, w' = w.drewN m) (.returned (.bool a)) (w.drewN m)) := Lib.hid (by
    rintro a rfl m
    exact ⟨rfl, _, rfl⟩)
  have HQ := fun (s : ByteArray) => True
  cases bk <;> cases b1 <;> cases b2 <;> cases b3
  all_goals
    go_enter Tryz.func56, Tryz.ntmps56
    go_wp2
    go_quiet ((go_at_call 29; first | with_reducible exact (H1.out _) | with_reducible exact (H2.out _) | with_reducible exact (H3.out _)))
    go_wp2
    go_ret
    exact HT.out _ rfl _
theorem nodeK_some {k : Int} {s : ByteArray} {pos : Int} {kids : List Int} {st st' : PS} {z : Int} (h : nodeP k s pos kids st = some (z, st')) : st.l.length < 1000 ∧ z = (st.l.length : Int) ∧ st' = { st with l := st.l ++ [⟨k, s, kids, pos⟩] } := by
  unfold nodeP at h
  split at h
  · rename_i h1
    simp only [Option.some.injEq, Prod.mk.injEq] at h
    exact ⟨h1, h.1.symm, h.2.symm⟩
  · cases h
theorem infoIntP : (Tryz.prog.info? 3).map (fun i => (i.zero, i.size, i.bytes)) = some (some (.int .i64 0), 1, 8) := by kernel_rfl
theorem infoNodeP : (Tryz.prog.info? 40).map (fun i => (i.zero, i.size, i.bytes)) = some (some (.agg #[.int .i64 0, .string ⟨#[]⟩, .slice none 0 0, .int .i64 0]), 4, 56) := by kernel_rfl
theorem info_partsP {P : Program} {t : TypeId} {z : Value} {s b : Nat} (h : (P.info? t).map (fun i => (i.zero, i.size, i.bytes)) = some (some z, s, b)) : ∃ i, P.info? t = some i ∧ i.zero = some z ∧ i.size = s ∧ i.bytes = b := by
  cases hi : P.info? t with
  | none => rw [hi] at h; cases h
  | some i =>
    rw [hi] at h
    simp only [Option.map_some, Option.some.injEq, Prod.mk.injEq] at h
    exact ⟨i, rfl, h.1, h.2.1, h.2.2⟩
theorem own_new {v2 : Value} {n : Nat} (h : v2.ownBlock = (Value.slice none 0 0).ownBlock ∨ v2.ownBlock = some n) : ∀ g, v2.ownBlock = some g → n ≤ g := by
  intro g hg
  rcases h with h | h
  · rw [h] at hg
    cases hg
  · rw [h] at hg
    injection hg with hg
    omega
/-- Numbers copied into a row of the call's own. -/
theorem clone_run {W : World} {kv : Value} {ks : List Int} (B : Nat) (h : TreeD.KidsAt W kv ks) (hn : ks.length ≤ 1000) (hB : B ≤ W.heap.size) :
    ∃ v2 W2, (Builtin.append_ #[31, 31] 31 #[.slice none 0 0, kv]).run Tryz.prog W = .ok v2 W2 ∧ Row W2 B v2 ks ∧ Below W.heap.size W W2 ∧ ∀ g, v2.ownBlock = some g → W.heap.size ≤ g := by
  obtain ⟨i0, hi, hz0, hz1, hz2⟩ := info_partsP infoIntP
  obtain ⟨av, cap, rfl, h1⟩ := h
  rcases h1 with rfl | ⟨g, o, rfl, hg, h2⟩
  · cases av with
    | none => exact ⟨_, _, run_append_owned_none (P := Tryz.prog) (w := W) B 31 31 3 i0 1 Tryz.underlying31 hi (.slice none 0 0) 0 [] (World.ownsRow_nil _ _ _ _), Row.nil _ _, Below.refl _ _, by simp [Value.ownBlock]⟩
    | some a =>
      obtain ⟨v2, w2, hrun, ho, hg, -, hob⟩ := run_append_own_at (P := Tryz.prog) (w := W) B 31 31 3 i0 (.int .i64 0) 1 8 Tryz.underlying31 hi hz0 hz1 hz2 rfl (by decide) (.slice none 0 0) 0 [] (World.ownsRow_nil _ _ _ _) a 0 cap [] rfl (fun j u hj => by simp at hj) (by simp) (by unfold maxLen; omega) (by omega) hB
      exact ⟨v2, w2, hrun, by simpa [Row] using ho, (Below.refl _ W).grown hg (Nat.le_refl _) (by simp [Value.ownBlock]), own_new hob⟩
  · obtain ⟨v2, w2, hrun, ho, hg2, -, hob⟩ := run_append_own_at (P := Tryz.prog) (w := W) B 31 31 3 i0 (.int .i64 0) 1 8 Tryz.underlying31 hi hz0 hz1 hz2 rfl (by decide) (.slice none 0 0) 0 [] (World.ownsRow_nil _ _ _ _) ⟨g, o, none⟩ ks.length cap (ks.map (Value.int .i64)) (by simp) (fun j u hj => by
      rw [List.getElem?_map] at hj
      obtain ⟨x, hx, rfl⟩ := Option.map_eq_some_iff.1 hj
      rw [addrP]
      exact h2 j x hx) (by simp [Value.oneCell']) (by unfold maxLen; omega) (by omega) hB
    exact ⟨v2, w2, hrun, by simpa [Row] using ho, (Below.refl _ W).grown hg2 (Nat.le_refl _) (by simp [Value.ownBlock]), own_new hob⟩
/-- What stands behind the kids' copy. -/
structure Kid1 (W : World) (B P : Nat) (T : List Tok) (A : Nat → Prop) (tv lv : Value) (i o : Nat) (l : List Nd) (kids : List Int) (v1 : Value) (W1 : World) : Prop where
  p : PAt W1 B P T A tv ⟨i, l, o⟩
  f : Fr B W W1
  r : Row W1 B v1 kids
  lv : W1.cell? ⟨P, 2, none⟩ = some lv
  nw : ∀ g, v1.ownBlock = some g → ¬ A g
/-- .. and behind the node itself. -/
structure Kid2 (W : World) (B P : Nat) (T : List Tok) (A : Nat → Prop) (tv : Value) (i o : Nat) (l : List Nd) (v2 : Value) (W2 : World) : Prop where
  p : PAt (W2.setCell ⟨P, 2, none⟩ v2) B P T A tv ⟨i, l, o⟩
  f : Fr B W (W2.setCell ⟨P, 2, none⟩ v2)
  c : ∃ u, W2.cell? ⟨P, 2, none⟩ = some u
  z : W2.frozen? ⟨P, 2, none⟩ = false
  lt : P < W2.heap.size
  sh : ∃ a c, v2 = .slice a l.length c
theorem PAt.kid1 {W : World} {B P i o : Nat} {T : List Tok} {A : Nat → Prop} {tv lv kv : Value} {l : List Nd} {ks : List Int} (h : PAt W B P T A tv ⟨i, l, o⟩) (hl : W.cell? ⟨P, 2, none⟩ = some lv) (hk : TreeD.KidsAt W kv ks) (hn : ks.length ≤ 1000) :
    ∃ v1 W1, (Builtin.append_ #[31, 31] 31 #[.slice none 0 0, kv]).run Tryz.prog W = .ok v1 W1 ∧ Kid1 W B P T A tv lv i o l ks v1 W1 := by
  obtain ⟨v1, W1, hrun, hr, hb, hnw⟩ := clone_run B hk hn h.bw
  obtain ⟨lv', nv, h1, -⟩ := h.obj
  exact ⟨v1, W1, hrun, h.below hb, Fr.of hb h.bw, hr, (hb.cell (p := ⟨P, 2, none⟩) h1.lt).trans hl, fun g hg ha => by have := hnw g hg; have := h.av g ha; omega⟩
theorem Kid1.kid2 {W W1 : World} {B P i o : Nat} {T : List Tok} {A : Nat → Prop} {tv lv v1 : Value} {l : List Nd} {ks : List Int} (h : Kid1 W B P T A tv lv i o l ks v1 W1) (hl : l.length < 1000) (k : Int) (s : ByteArray) (pos : Int) :
    ∃ v2 W2, (Builtin.append_ #[22, 22] 22 #[lv, .slice (some ⟨W1.heap.size, 0, none⟩) 1 1]).run Tryz.prog (W1.alloc (.cells #[.int .i64 k, .string s, v1, .int .i64 pos] 40)) = .ok v2 W2 ∧ Kid2 W B P T A tv i o (l ++ [⟨k, s, ks, pos⟩]) v2 W2 := by
  obtain ⟨i0, hi, hz0, hz1, hz2⟩ := info_partsP infoNodeP
  obtain ⟨lv', nv, h1, h2, h3, h4⟩ := h.p.obj
  simp only at h1 h2
  have e : lv' = lv := by
    have := h1.cell 2
    rw [h.lv] at this
    simpa using this.symm
  subst e
  have hnl : nv.length = l.length := by rw [← h2, List.length_map]
  obtain ⟨a1, n1, c1, hv1⟩ : ∃ a n c, v1 = .slice a n c := by
    rcases own_shape h.r with ⟨rfl, -, -⟩ | ⟨g, cap, cs, rfl, -⟩
    · exact ⟨_, _, _, rfl⟩
    · exact ⟨_, _, _, rfl⟩
  have hA := Has.new W1 40 [.int .i64 k, .string s, v1, .int .i64 pos]
  have hB := h.p.bw
  obtain ⟨v2, W2, hrun, ho, hg, -, hob⟩ := run_append_own_at (P := Tryz.prog) (w := W1.alloc (.cells #[.int .i64 k, .string s, v1, .int .i64 pos] 40)) B 22 22 40 i0 _ 4 56 Tryz.underlying22 hi hz0 hz1 hz2 rfl (by decide) lv' nv.length (rowN nv) (h3.alloc _) ⟨W1.heap.size, 0, none⟩ 1 1 [.int .i64 k, .string s, v1, .int .i64 pos] rfl
    (fun j u hj => by
      rw [addrP, Nat.zero_add]
      exact (hA.cell j).trans hj)
    (fun u hu => by
      rw [hv1] at hu
      simp at hu
      rcases hu with rfl | rfl | rfl | rfl <;> rfl) (by unfold maxLen; omega) (by omega) (by simp; omega)
  have kA : KeepsT [] W1 (W1.alloc (.cells #[.int .i64 k, .string s, v1, .int .i64 pos] 40)) := (KeepsT.refl _ _).alloc _
  have kG : KeepsT [40] W1 W2 := (kA.mono (by simp)).grown hg (fun g hgb => by
    obtain ⟨cs, hcs⟩ := own_row (h3.alloc (.cells #[.int .i64 k, .string s, v1, .int .i64 pos] 40)) g hgb
    exact .inr ⟨_, _, hcs, by simp⟩)
  have bG : Below B W1 W2 := ((Below.refl B W1).alloc hB _).grown hg (by simp; omega) (fun g hgb => (own_lt h3 g hgb).1)
  have hP2 := h1.keepsT kG (by decide +kernel)
  have kS : KeepsT [53, 40] W1 (W2.setCell ⟨P, 2, none⟩ v2) := (kG.mono (by simp)).set hP2 (.inl (by simp)) 2 v2
  have bS : Below B W1 (W2.setCell ⟨P, 2, none⟩ v2) := bG.setCell h.p.low _
  have kP : KeepsT [53] W2 (W2.setCell ⟨P, 2, none⟩ v2) := (KeepsT.refl _ W2).set hP2 (.inl (by simp)) 2 v2
  obtain ⟨b, cap, et, hb, ht⟩ := h.p.tks
  refine ⟨v2, W2, hrun, ⟨?_, h.f.trans ⟨kS, bS⟩, ⟨_, hP2.cell 2⟩, hP2.frozen 2, hP2.lt, ?_⟩⟩
  · refine ⟨h.p.lt, h.p.tl, ⟨b, cap, et, hb, fun i t hi => tk_below hb bS (ht i t hi)⟩, ⟨v2, nv ++ [(⟨k, s, ks, pos⟩, v1)], hP2.set 2 v2, by rw [List.map_append, h2]; rfl, ?_, ?_⟩, h.p.low, Nat.le_trans h.p.bw bS.size, h.p.ol, by simp; omega, tab_below h.p.tab h.p.tg bS, h.p.tg, h.p.nb, fun a ha => Nat.lt_of_lt_of_le (h.p.av a ha) bS.size⟩
    · rw [rowN_snoc, List.length_append]
      exact own_keepsT ho kP (by decide +kernel)
    · intro x hx
      rcases List.mem_append.1 hx with hx | hx
      · exact ⟨(h4 x hx).1.keepsT kS (by decide +kernel), (h4 x hx).2⟩
      · rw [List.mem_singleton] at hx
        subst hx
        exact ⟨h.r.keepsT kS (by decide +kernel), h.nw⟩
  · rcases own_shape ho with ⟨-, e2, -⟩ | ⟨g, cap, cs, e2, -⟩
    · omega
    · exact ⟨_, _, by rw [e2, List.length_append, hnl]; rfl⟩
theorem step_append_ex {P : Program} {ops : Array Oper} {o : Oper} {a : Act} {w : World} {K : Act → World → Prop} {Q : Exit → Act → World → Prop} {E : Prop}
    (hg : o.guard = none) (s x : Operand) (t : TypeId) (hop : o.op = Op.call { callee := Callee.builtin Builtin.append, args := #[s, x], argTypes := #[t, t] })
    (v u : Value) (hs : a.eval s = v) (hx : a.eval x = u) (R : Value → World → Prop) (hrun : ∃ v' w', (Builtin.append_ #[t, t] o.type #[v, u]).run P w = .ok v' w' ∧ R v' w')
    (hK : ∀ v' w', R v' w' → K (a.put o.dst v') w') :
    if Region.wanted o (yielded ops a.tmps) = true then Oper.wp P o a w K Q else E := by
  have hw : Region.wanted o (yielded ops a.tmps) = true := by simp [Region.wanted, hg]
  rw [if_pos hw]
  subst hs hx
  obtain ⟨v', w', hrun, hr⟩ := hrun
  unfold Oper.wp
  simp [execOp, hop, resolve, invoke, builtin, hrun, Result.andThen]
  exact hK v' w' hr
theorem Row.shape {W : World} {B : Nat} {v : Value} {ks : List Int} (h : Row W B v ks) : ∃ a c, v = .slice a ks.length c := by
  rcases own_shape h with ⟨rfl, e, -⟩ | ⟨g, cap, cs, rfl, -⟩
  · exact ⟨none, 0, by rw [e]⟩
  · exact ⟨_, _, rfl⟩
set_option maxRecDepth 100000 in
set_option maxHeartbeats 8000000 in
theorem node_any (B P : Nat) (T : List Tok) (A : Nat → Prop) (tv : Value) (st st' : PS) (k : Int) (s : ByteArray) (pos : Int) (kv : Value) (ks : List Int) (z : Int) (w : World) (h : PAt w B P T A tv st) (hk : TreeD.KidsAt w kv ks) (hn : ks.length ≤ 1000) (hM : nodeP k s pos ks st = some (z, st')) :
    Calls Tryz.prog 33 #[.pointer (some ⟨P, 0, none⟩), .int .i64 k, .string s, .int .i64 pos, kv] w (Ret B P T A tv w (.int .i64 z) st') := by
  obtain ⟨i, l, o⟩ := st
  obtain ⟨h1, rfl, rfl⟩ := nodeK_some hM
  simp only at h1
  obtain ⟨b, cap, la, ln, lc, rfl, -, c0, c1, c2, c3, c4, c5, f, lp, -⟩ := h.reads
  obtain ⟨av, ac, rfl⟩ := hk.shape
  have HK1 := Lib.hid ((h.drew).kid1 (W := w.drew) c2 (hk.below (Nat.le_refl _) (Below.refl _ _).drew) hn)
  have HK2 : Hid (∀ v1 W1, Kid1 w.drew B P T A (.slice (some ⟨b, 0, none⟩) T.length cap) (.slice la ln lc) i o l ks v1 W1 → ∃ v2 W2, (Builtin.append_ #[22, 22] 22 #[(.slice la ln lc), .slice (some ⟨W1.heap.size, 0, none⟩) 1 1]).run Tryz.prog (W1.alloc (.cells #[.int .i64 k, .string s, v1, .int .i64 pos] 40)) = .ok v2 W2 ∧ Kid2 w.drew B P T A (.slice (some ⟨b, 0, none⟩) T.length cap) i o (l ++ [⟨k, s, ks, pos⟩]) v2 W2) := Lib.hid fun v1 W1 h9 => h9.kid2 h1 k s pos
  have HD : Hid (Fr B w w.drew) := Lib.hid (Fr.refl B w).drew
  have hw : IntKind.i64.wrap ((l.length : Int) + 1 - 1) = l.length := by rw [show (l.length : Int) + 1 - 1 = l.length by omega]; exact IntWalk.i64_in _ (by omega)
  have hw2 : IntKind.i64.wrap (l.length : Int) = l.length := IntWalk.i64_in _ (by omega)
  have hz : (((l ++ [(⟨k, s, ks, pos⟩ : Nd)]).length : Nat) : Int) = (l.length : Int) + 1 := by simp
  have HZ := Lib.hid hz
  have f2 := f 2
  clear c0 c1 c3 c4 f h hk hn hM h1 hz
  go_enter Tryz.func33, Tryz.ntmps33
  go_wp2
  refine region_E (S := S2 4 (fun W => W.cell? ⟨P, 2, none⟩ = some (.slice la ln lc)) 99 (fun _ => True)) (by kernel_rfl) ?_
  have k2 : w.drew.cell? ⟨P, 2, none⟩ = some (.slice la ln lc) := c2
  refine wpAnyE_take (i := 0) (oi := { dst := some 16, op := Op.move (.tmp 0), type := _, pos := _, after := _, guard := _ }) (v := .pointer (some ⟨P, 0, none⟩)) rfl (by kernel_rfl) (by kernel_rfl) (by kernel_rfl) (fun _ _ _ h => h) (Or.inl ⟨by rfl, ?_⟩) ⟨fun e => by omega, fun e => by omega⟩ ?_
  · intro w' hs
    clear hs
    go_simp
  try simp only [Act.put, List.setIfInBounds_toArray, List.set_cons_zero, List.set_cons_succ]
  refine wpAnyE_take (i := 1) (oi := { dst := some 17, op := Op.move (.tmp 0), type := _, pos := _, after := _, guard := _ }) (v := .pointer (some ⟨P, 0, none⟩)) rfl (by kernel_rfl) (by kernel_rfl) (by kernel_rfl) (fun _ _ _ h => h) (Or.inl ⟨by rfl, ?_⟩) ⟨fun e => by omega, fun e => by omega⟩ ?_
  · intro w' hs
    clear hs
    go_simp
  try simp only [Act.put, List.setIfInBounds_toArray, List.set_cons_zero, List.set_cons_succ]
  refine wpAnyE_take (i := 2) (oi := { dst := some 18, op := Op.nilCheck (.tmp 17), type := _, pos := _, after := _, guard := _ }) (v := .pointer (some ⟨P, 0, none⟩)) rfl (by kernel_rfl) (by kernel_rfl) (by kernel_rfl) (fun _ _ _ h => h) (Or.inl ⟨by rfl, ?_⟩) ⟨fun e => by omega, fun e => by omega⟩ ?_
  · intro w' hs
    clear hs
    go_simp
  try simp only [Act.put, List.setIfInBounds_toArray, List.set_cons_zero, List.set_cons_succ]
  refine wpAnyE_take (i := 3) (oi := { dst := some 19, op := Op.fieldAddr 53 (.tmp 18) 2, type := _, pos := _, after := _, guard := _ }) (v := .pointer (some ⟨P, 2, none⟩)) rfl (by kernel_rfl) (by kernel_rfl) (by kernel_rfl) (fun _ _ _ h => h) (Or.inl ⟨by rfl, ?_⟩) ⟨fun e => by omega, fun e => by omega⟩ ?_
  · intro w' hs
    clear hs
    go_simp
  try simp only [Act.put, List.setIfInBounds_toArray, List.set_cons_zero, List.set_cons_succ]
  refine wpAnyE_take (i := 4) (oi := { dst := some 20, op := Op.load 22 (.tmp 19), type := _, pos := _, after := _, guard := _ }) (v := .slice la ln lc) rfl (by kernel_rfl) (by kernel_rfl) (by kernel_rfl) (fun _ _ _ h => h) (Or.inl ⟨by rfl, ?_⟩) ⟨fun _ => k2, fun e => by omega⟩ ?_
  · intro w' hs
    have s0 := hs.1 rfl
    go_simp
  try simp only [Act.put, List.setIfInBounds_toArray, List.set_cons_zero, List.set_cons_succ]
  refine wpAnyE_take (i := 5) (oi := { dst := some 21, op := Op.move (.tmp 1), type := _, pos := _, after := _, guard := _ }) (v := .int .i64 k) rfl (by kernel_rfl) (by kernel_rfl) (by kernel_rfl) (fun _ _ _ h => h) (Or.inl ⟨by rfl, ?_⟩) ⟨fun e => by omega, fun e => by omega⟩ ?_
  · intro w' hs
    clear hs
    go_simp
  try simp only [Act.put, List.setIfInBounds_toArray, List.set_cons_zero, List.set_cons_succ]
  refine wpAnyE_take (i := 6) (oi := { dst := some 22, op := Op.move (.tmp 2), type := _, pos := _, after := _, guard := _ }) (v := .string s) rfl (by kernel_rfl) (by kernel_rfl) (by kernel_rfl) (fun _ _ _ h => h) (Or.inl ⟨by rfl, ?_⟩) ⟨fun e => by omega, fun e => by omega⟩ ?_
  · intro w' hs
    clear hs
    go_simp
  try simp only [Act.put, List.setIfInBounds_toArray, List.set_cons_zero, List.set_cons_succ]
  refine wpAnyE_take (i := 7) (oi := { dst := some 23, op := Op.move (.tmp 3), type := _, pos := _, after := _, guard := _ }) (v := .int .i64 pos) rfl (by kernel_rfl) (by kernel_rfl) (by kernel_rfl) (fun _ _ _ h => h) (Or.inl ⟨by rfl, ?_⟩) ⟨fun e => by omega, fun e => by omega⟩ ?_
  · intro w' hs
    clear hs
    go_simp
  try simp only [Act.put, List.setIfInBounds_toArray, List.set_cons_zero, List.set_cons_succ]
  refine wpAnyE_take (i := 8) (oi := { dst := some 24, op := Op.move (.tmp 4), type := _, pos := _, after := _, guard := _ }) (v := .slice av ks.length ac) rfl (by kernel_rfl) (by kernel_rfl) (by kernel_rfl) (fun _ _ _ h => h) (Or.inl ⟨by rfl, ?_⟩) ⟨fun e => by omega, fun e => by omega⟩ ?_
  · intro w' hs
    clear hs
    go_simp
  try simp only [Act.put, List.setIfInBounds_toArray, List.set_cons_zero, List.set_cons_succ]
  refine wpAnyE_ready (rs := [9]) (by kernel_rfl) (by simp) ?_
  refine AllReadyE.cons (o := { dst := some 25, op := Op.call { callee := .builtin .append, args := #[.const (.slice none 0 0), .tmp 24], argTypes := #[31, 31] }, type := _, pos := _, after := _, guard := _ }) rfl (fun K hK => ?_) AllReadyE.nil
  refine step_append_ex rfl (.const (.slice none 0 0)) (.tmp 24) 31 rfl _ _ rfl rfl _ HK1.out ?_
  rintro v1 W1 hq1
  obtain ⟨a1, c1, rfl⟩ := hq1.r.shape
  have HK3 := Lib.hid (HK2.out _ W1 hq1)
  have HP1 : Hid (∀ o, (W1.alloc o).cell? ⟨P, 2, none⟩ = some (.slice la ln lc)) := Lib.hid fun o => (Below.cell (p := ⟨P, 2, none⟩) ((Below.refl W1.heap.size W1).alloc (Nat.le_refl _) o) (by obtain ⟨_, _, eo, -⟩ := hq1.p.obj; exact eo.lt)).trans hq1.lv
  have hl1 := hq1.lv
  clear hq1
  refine hK.out _ _ (pres2 (.inr fun _ => hl1) (.inr fun h => h)) ?_
  clear HK1 HK2 hl1
  clear hK K
  try simp only [Act.put, List.setIfInBounds_toArray, List.set_cons_zero, List.set_cons_succ]
  refine wpAnyE_take (i := 10) (oi := { dst := some 26, op := Op.build 40 #[(0, .tmp 21), (1, .tmp 22), (3, .tmp 23), (2, .tmp 25)], type := _, pos := _, after := _, guard := _ }) (v := .agg #[.int .i64 k, .string s, .slice a1 ks.length c1, .int .i64 pos]) rfl (by kernel_rfl) (by kernel_rfl) (by kernel_rfl) (fun _ _ _ h => h) (Or.inl ⟨by rfl, ?_⟩) ⟨fun e => by omega, fun e => by omega⟩ ?_
  · intro w' hs
    clear hs
    go_simp
  try simp only [Act.put, List.setIfInBounds_toArray, List.set_cons_zero, List.set_cons_succ]
  refine wpAnyE_ready (rs := [11]) (by kernel_rfl) (by simp) ?_
  refine AllReadyE.cons (o := { dst := some 27, op := Op.buildSlice 22 1 #[(0, .tmp 26)], type := _, pos := _, after := _, guard := _ }) rfl (fun K hK => ?_) AllReadyE.nil
  go_simp
  refine hK.out _ _ (pres2 (.inr fun _ => HP1.out _) (.inr fun h => h)) ?_
  clear hK K
  try simp only [Act.put, List.setIfInBounds_toArray, List.set_cons_zero, List.set_cons_succ]
  refine wpAnyE_ready (rs := [12]) (by kernel_rfl) (by simp) ?_
  refine AllReadyE.cons (o := { dst := some 28, op := Op.call { callee := .builtin .append, args := #[.tmp 20, .tmp 27], argTypes := #[22, 22] }, type := _, pos := _, after := _, guard := _ }) rfl (fun K hK => ?_) AllReadyE.nil
  refine step_append_ex rfl (.tmp 20) (.tmp 27) 22 rfl _ _ rfl rfl _ HK3.out ?_
  rintro v2 W2 hq2
  obtain ⟨u2, y2⟩ := hq2.c
  have yf := hq2.z
  have yl := hq2.lt
  obtain ⟨a2, n2, rfl⟩ := hq2.sh
  have HE := Lib.hid (⟨hq2.p, hq2.f⟩ : _ ∧ _)
  clear hq2 HK3
  refine hK.out _ _ (pres2 (.inl (by kernel_rfl)) (.inr fun h => h)) ?_
  clear hK K
  try simp only [Act.put, List.setIfInBounds_toArray, List.set_cons_zero, List.set_cons_succ]
  refine wpAnyE_take (i := 13) (oi := { dst := some 29, op := Op.nilCheck (.tmp 16), type := _, pos := _, after := _, guard := _ }) (v := .pointer (some ⟨P, 0, none⟩)) rfl (by kernel_rfl) (by kernel_rfl) (by kernel_rfl) (fun _ _ _ h => h) (Or.inl ⟨by rfl, ?_⟩) ⟨fun e => by omega, fun e => by omega⟩ ?_
  · intro w' hs
    clear hs
    go_simp
  try simp only [Act.put, List.setIfInBounds_toArray, List.set_cons_zero, List.set_cons_succ]
  refine wpAnyE_take (i := 14) (oi := { dst := some 30, op := Op.fieldAddr 53 (.tmp 29) 2, type := _, pos := _, after := _, guard := _ }) (v := .pointer (some ⟨P, 2, none⟩)) rfl (by kernel_rfl) (by kernel_rfl) (by kernel_rfl) (fun _ _ _ h => h) (Or.inl ⟨by rfl, ?_⟩) ⟨fun e => by omega, fun e => by omega⟩ ?_
  · intro w' hs
    clear hs
    go_simp
  try simp only [Act.put, List.setIfInBounds_toArray, List.set_cons_zero, List.set_cons_succ]
  refine wpAnyE_ready (rs := [15]) (by kernel_rfl) (by simp) ?_
  refine AllReadyE.cons (o := { dst := none, op := Op.store 22 (.tmp 30) (.tmp 28), type := _, pos := _, after := _, guard := _ }) rfl (fun K hK => ?_) AllReadyE.nil
  go_simp
  refine hK.out _ _ (pres2 (.inl (by kernel_rfl)) (.inr fun h => h)) ?_
  clear hK K
  try simp only [Act.put, List.setIfInBounds_toArray, List.set_cons_zero, List.set_cons_succ]
  refine wpAnyE_done (by kernel_rfl) ?_ _
  go_wp2
  refine bodyPost_ret (v := .int .i64 (l.length : Int)) (by simp [results, Tryz.results33, go_sem]) rfl ⟨rfl, ?_, ?_⟩
  · have h9 := HE.out.1
    simpa using h9
  · have h9 := HE.out.2
    have h8 := HD.out.trans h9
    simpa using h8
end ParD
end Go.Proofs.YtmdkocegnbcgmaaGreatDoor
namespace Go.Proofs.YtmdkocegnbcgmaaGreatDoor
open Go.RowKit ObjM RoundM
namespace ParD
open TreeD (Nd builtinV)
open LexD (Tok)

theorem kids_nil (W : World) : TreeD.KidsAt W (.slice none 0 0) [] := ⟨none, 0, rfl, .inl rfl⟩
theorem kids_new (W : World) (zs : List Int) (n c : Nat) (hn : zs.length = n) : TreeD.KidsAt (W.alloc (.cells (zs.map (Value.int .i64)).toArray 3)) (.slice (some ⟨W.heap.size, 0, none⟩) n c) zs := by
  subst hn
  refine ⟨_, c, rfl, .inr ⟨_, 0, rfl, by simp, fun i x hx => ?_⟩⟩
  rw [Nat.zero_add, (Has.new W 3 (zs.map (Value.int .i64))).cell i, List.getElem?_map, hx]
  rfl
theorem kids_row {W : World} {B : Nat} {v : Value} {ks : List Int} (h : Row W B v ks) : TreeD.KidsAt W v ks := by
  obtain ⟨a, c, rfl⟩ := h.shape
  refine ⟨a, c, rfl, ?_⟩
  rcases own_shape h with ⟨-, e, -⟩ | ⟨g, cap, cs, e1, hB, hh, hnc, hcm, hcl, htk⟩
  · exact .inl (List.length_eq_zero_iff.1 e)
  · injection e1 with e1 e2 e3
    subst e1 e3
    refine .inr ⟨g, 0, rfl, hh.lt, fun i x hx => ?_⟩
    have hi := (List.getElem?_eq_some_iff.1 hx).1
    have := own_cell h i (by simpa using hi)
    rw [Nat.zero_add, this, List.getElem_map]
    rw [List.getElem?_eq_getElem hi] at hx
    injection hx with hx
    rw [hx]
set_option maxRecDepth 100000 in
set_option maxHeartbeats 4000000 in
theorem none_any (B P : Nat) (T : List Tok) (A : Nat → Prop) (tv : Value) (st st' : PS) (z : Int) (w : World) (h : PAt w B P T A tv st) (hM : noneP st = some (z, st')) :
    Calls Tryz.prog 84 #[.pointer (some ⟨P, 0, none⟩)] w (Ret B P T A tv w (.int .i64 z) st') := by
  have HN := Lib.hid (node_any B P T A tv st st' 12 ⟨#[]⟩ 0 (.slice none 0 0) [] z w h (kids_nil w) (by simp) hM)
  clear h hM
  go_enter Tryz.func84, Tryz.ntmps84
  go_wp2_with fail
  refine (HN.out).mono ?_
  rintro e w1 ⟨rfl, h1, h2⟩
  have HE : Hid (PAt w1 B P T A tv st' ∧ Fr B w w1) := Lib.hid ⟨h1, h2⟩
  clear h1 h2 HN
  go_wp2
  go_ret
  exact ⟨rfl, HE.out⟩
/-- A token put into memory of its own. -/
structure Boxed (B : Nat) (w W : World) (P : Nat) (T : List Tok) (A : Nat → Prop) (tv : Value) (st : PS) (G : Nat) (t : Tok) : Prop where
  p : PAt W B P T A tv st
  f : Fr B w W
  h : Has W G 57 [.int .i64 t.kind, .string t.text, .int .i64 t.lo, .int .i64 t.hi, .int .i64 t.n]
theorem Boxed.next {B : Nat} {w W W' : World} {P : Nat} {T : List Tok} {A : Nat → Prop} {tv : Value} {st st' : PS} {G : Nat} {t : Tok} (h : Boxed B w W P T A tv st G t) (hp : PAt W' B P T A tv st') (hf : Fr B W W') : Boxed B w W' P T A tv st' G t :=
  ⟨hp, h.f.trans hf, h.h.keepsT hf.k (by decide +kernel)⟩
theorem PAt.box {B : Nat} {w : World} {P : Nat} {T : List Tok} {A : Nat → Prop} {tv : Value} {st : PS} (h : PAt w B P T A tv st) (t : Tok) : Boxed B w (w.alloc (.cells #[.int .i64 t.kind, .string t.text, .int .i64 t.lo, .int .i64 t.hi, .int .i64 t.n] 57)).drew P T A tv st w.heap.size t :=
  ⟨(h.alloc _).drew, ((Fr.refl B w).alloc h.bw _).drew, (Has.new w 57 [.int .i64 t.kind, .string t.text, .int .i64 t.lo, .int .i64 t.hi, .int .i64 t.n]).drew⟩
/-- The operators. -/
def RW : List ByteArray := [⟨#[111, 114]⟩, ⟨#[97, 110, 100]⟩, ⟨#[61, 61]⟩, ⟨#[126, 61]⟩, ⟨#[60]⟩, ⟨#[60, 61]⟩, ⟨#[62]⟩, ⟨#[62, 61]⟩, ⟨#[46, 46]⟩, ⟨#[43]⟩, ⟨#[45]⟩, ⟨#[42]⟩, ⟨#[47, 47]⟩, ⟨#[37]⟩]
theorem rank_no {s : ByteArray} (h : ¬ s ∈ RW) : rankB s = 0 := by
  have n : ∀ x ∈ RW, eqB s x = false := fun x hx => by
    rw [Bool.eq_false_iff]
    intro e
    exact h (eqB_iff.1 e ▸ hx)
  have n0 : eqB s wOr = false := n ⟨#[111, 114]⟩ (by simp [RW])
  have n1 : eqB s wAnd = false := n ⟨#[97, 110, 100]⟩ (by simp [RW])
  have n2 : eqB s sSame = false := n ⟨#[61, 61]⟩ (by simp [RW])
  have n3 : eqB s sOther = false := n ⟨#[126, 61]⟩ (by simp [RW])
  have n4 : eqB s sLess = false := n ⟨#[60]⟩ (by simp [RW])
  have n5 : eqB s sLessEq = false := n ⟨#[60, 61]⟩ (by simp [RW])
  have n6 : eqB s sMore = false := n ⟨#[62]⟩ (by simp [RW])
  have n7 : eqB s sMoreEq = false := n ⟨#[62, 61]⟩ (by simp [RW])
  have n8 : eqB s sCat = false := n ⟨#[46, 46]⟩ (by simp [RW])
  have n9 : eqB s sPlus = false := n ⟨#[43]⟩ (by simp [RW])
  have n10 : eqB s sMinus = false := n ⟨#[45]⟩ (by simp [RW])
  have n11 : eqB s sStar = false := n ⟨#[42]⟩ (by simp [RW])
  have n12 : eqB s sSlash = false := n ⟨#[47, 47]⟩ (by simp [RW])
  have n13 : eqB s sRest = false := n ⟨#[37]⟩ (by simp [RW])
  simp [rankB, n0, n1, n2, n3, n4, n5, n6, n7, n8, n9, n10, n11, n12, n13]
set_option maxRecDepth 100000 in
set_option maxHeartbeats 16000000 in
theorem rank_any (B P : Nat) (T : List Tok) (A : Nat → Prop) (tv : Value) (st : PS) (w : World) (h : PAt w B P T A tv st) :
    Calls Tryz.prog 121 #[.pointer (some ⟨P, 0, none⟩)] w (Ret B P T A tv w (.int .i64 (rankP T st)) st) := by
  obtain ⟨i, l, o⟩ := st
  have HB := Lib.hid (h.box (cur T ⟨i, l, o⟩))
  obtain ⟨b, cap, la, ln, lc, rfl, -, c0, c1, c2, c3, c4, c5, f, lp, t0, t1, t2, t3, t4, lb, ne, li, l0, ls⟩ := h.reads
  unfold rankP
  generalize cur T ⟨i, l, o⟩ = t at t0 t1 t2 t3 t4 HB ⊢
  obtain ⟨kd, tx, lo, hi, n⟩ := t
  simp only at c1 li l0 ls t0 t1 t2 t3 t4 HB ⊢
  have HR : Hid (∀ v, v = (if kd ≠ 5 ∧ kd ≠ 2 then 0 else rankB tx) → Ret B P T A (.slice (some ⟨b, 0, none⟩) T.length cap) w (.int .i64 (if kd ≠ 5 ∧ kd ≠ 2 then 0 else rankB tx)) ⟨i, l, o⟩ (.returned (.int .i64 v)) (w.alloc (.cells #[.int .i64 kd, .string tx, .int .i64 lo, .int .i64 hi, .int .i64 n] 57)).drew) := Lib.hid (by
    rintro v rfl
    exact ⟨rfl, HB.out.p, HB.out.f⟩)
  clear c2 c3 c4 c5 f h HB
  by_cases hk : kd ≠ 5 ∧ kd ≠ 2
  · have h5 : (kd != 5) = true := by simpa using hk.1
    have h2 : (kd != 2) = true := by simpa using hk.2
    have HV := Lib.hid (HR.out 0 (by rw [if_pos hk]))
    rw [if_pos hk] at HV ⊢
    clear hk HR
    go_enter Tryz.func121, Tryz.ntmps121
    go_wp2
    go_region
    all_goals
      go_wp2
      go_ret
      exact HV.out
  · rw [if_neg hk] at HR ⊢
    have hq : (kd != 5) = false ∨ (kd != 5) = true ∧ (kd != 2) = false := by
      by_cases h5 : kd = 5
      · exact .inl (by simp [h5])
      · refine .inr ⟨by simpa using h5, ?_⟩
        have : kd = 2 := by
          apply Classical.byContradiction
          intro h2
          exact hk ⟨h5, h2⟩
        simp [this]
    clear hk
    by_cases hw : tx ∈ RW
    · obtain ⟨v, hv⟩ : ∃ v, rankB tx = v := ⟨_, rfl⟩
      have HV := Lib.hid (HR.out v hv.symm)
      rw [hv] at HV ⊢
      clear HR
      simp only [RW, List.mem_cons, List.not_mem_nil, or_false] at hw
      rcases hw with rfl | rfl | rfl | rfl | rfl | rfl | rfl | rfl | rfl | rfl | rfl | rfl | rfl | rfl
      all_goals
        first
          | obtain rfl : v = 1 := hv.symm
          | obtain rfl : v = 2 := hv.symm
          | obtain rfl : v = 3 := hv.symm
          | obtain rfl : v = 4 := hv.symm
          | obtain rfl : v = 5 := hv.symm
          | obtain rfl : v = 6 := hv.symm
        clear hv
        rcases hq with h5 | ⟨h5, h2⟩
        all_goals
          go_enter Tryz.func121, Tryz.ntmps121
          go_wp2
          go_region
          all_goals
            go_wp2
            go_ret
            exact HV.out
    · have HV := Lib.hid (HR.out 0 (rank_no hw).symm)
      rw [rank_no hw] at HV ⊢
      have n0 : (tx.toList == [111, 114]) = false := TreeD.ne_list (fun e => hw (by rw [e]; simp [RW]))
      have n1 : (tx.toList == [97, 110, 100]) = false := TreeD.ne_list (fun e => hw (by rw [e]; simp [RW]))
      have n2 : (tx.toList == [61, 61]) = false := TreeD.ne_list (fun e => hw (by rw [e]; simp [RW]))
      have n3 : (tx.toList == [126, 61]) = false := TreeD.ne_list (fun e => hw (by rw [e]; simp [RW]))
      have n4 : (tx.toList == [60]) = false := TreeD.ne_list (fun e => hw (by rw [e]; simp [RW]))
      have n5 : (tx.toList == [60, 61]) = false := TreeD.ne_list (fun e => hw (by rw [e]; simp [RW]))
      have n6 : (tx.toList == [62]) = false := TreeD.ne_list (fun e => hw (by rw [e]; simp [RW]))
      have n7 : (tx.toList == [62, 61]) = false := TreeD.ne_list (fun e => hw (by rw [e]; simp [RW]))
      have n8 : (tx.toList == [46, 46]) = false := TreeD.ne_list (fun e => hw (by rw [e]; simp [RW]))
      have n9 : (tx.toList == [43]) = false := TreeD.ne_list (fun e => hw (by rw [e]; simp [RW]))
      have n10 : (tx.toList == [45]) = false := TreeD.ne_list (fun e => hw (by rw [e]; simp [RW]))
      have n11 : (tx.toList == [42]) = false := TreeD.ne_list (fun e => hw (by rw [e]; simp [RW]))
      have n12 : (tx.toList == [47, 47]) = false := TreeD.ne_list (fun e => hw (by rw [e]; simp [RW]))
      have n13 : (tx.toList == [37]) = false := TreeD.ne_list (fun e => hw (by rw [e]; simp [RW]))
      clear hw HR
      rcases hq with h5 | ⟨h5, h2⟩
      all_goals
        go_enter Tryz.func121, Tryz.ntmps121
        go_wp2
        go_region
        all_goals
          go_wp2
          go_ret
          exact HV.out
end ParD
end Go.Proofs.YtmdkocegnbcgmaaGreatDoor
namespace Go.Proofs.YtmdkocegnbcgmaaGreatDoor
open Go.RowKit ObjM RoundM
namespace ParD
open TreeD (Nd builtinV)
open LexD (Tok)

theorem num_some {T : List Tok} {st st' : PS} {z : Int} (h : numP T st = some (z, st')) : 0 ≤ (cur T st).n ∧ st.i + 1 < T.length ∧ nodeP 15 ⟨(Lib.itoa (cur T st).n).toArray⟩ (cur T st).lo [] { st with i := st.i + 1 } = some (z, st') := by
  unfold numP adv at h
  split at h
  · cases h
  · rename_i h1
    split at h
    · rename_i h2
      exact ⟨by omega, h2, h⟩
    · cases h
theorem cur_mem {W : World} {B P : Nat} {T : List Tok} {A : Nat → Prop} {tv : Value} {st : PS} (h : PAt W B P T A tv st) : cur T st ∈ T := by
  unfold cur
  rw [List.getD_eq_getElem?_getD, List.getElem?_eq_getElem h.lt]
  exact List.getElem_mem h.lt
set_option maxRecDepth 100000 in
set_option maxHeartbeats 4000000 in
theorem number_any (B P : Nat) (T : List Tok) (A : Nat → Prop) (tv : Value) (st st' : PS) (z : Int) (w : World) (h : PAt w B P T A tv st) (hM : numP T st = some (z, st')) :
    Calls Tryz.prog 144 #[.pointer (some ⟨P, 0, none⟩), tokA (cur T st)] w (Ret B P T A tv w (.int .i64 z) st') := by
  obtain ⟨h0, h2, h3⟩ := num_some hM
  have hn9 := h.nb _ (cur_mem h)
  obtain ⟨i, l, o⟩ := st
  obtain ⟨b, cap, la, ln, lc, rfl, -, c0, c1, c2, c3, c4, c5, f, lp, -, -, -, -, -, lb, ne, li, l0, ls⟩ := h.reads
  simp only at c1 li l0 ls h2 h3
  generalize cur T ⟨i, l, o⟩ = t at h0 h3 hn9 ⊢
  obtain ⟨kd, tx, lo, hi, n⟩ := t
  unfold tokA
  simp only at h0 h3 hn9 ⊢
  obtain ⟨q1, q2⟩ := h.setI h2
  have hx := Has.new (w.setCell ⟨P, 1, none⟩ (.int .i64 ((i : Int) + 1))) 57 [.int .i64 kd, .string tx, .int .i64 lo, .int .i64 hi, .int .i64 n]
  have hz : (w.setCell ⟨P, 1, none⟩ (.int .i64 ((i : Int) + 1))).heap.size = w.heap.size := by simp [World.setCell]
  rw [hz] at hx
  have HW := Lib.hid (⟨q1.alloc _, q2.alloc q1.bw _, hx⟩ : PAt ((w.setCell ⟨P, 1, none⟩ (.int .i64 ((i : Int) + 1))).alloc (.cells #[.int .i64 kd, .string tx, .int .i64 lo, .int .i64 hi, .int .i64 n] 57)) B P T A _ ⟨i + 1, l, o⟩ ∧ Fr B w ((w.setCell ⟨P, 1, none⟩ (.int .i64 ((i : Int) + 1))).alloc (.cells #[.int .i64 kd, .string tx, .int .i64 lo, .int .i64 hi, .int .i64 n] 57)) ∧ _)
  clear hz
  have HN : Hid (∀ W, PAt W B P T A (.slice (some ⟨b, 0, none⟩) T.length cap) ⟨i + 1, l, o⟩ → Calls Tryz.prog 33 #[.pointer (some ⟨P, 0, none⟩), .int .i64 15, .string ⟨(Lib.itoa n).toArray⟩, .int .i64 lo, .slice none 0 0] W (Ret B P T A (.slice (some ⟨b, 0, none⟩) T.length cap) W (.int .i64 z) st')) := Lib.hid fun W hp => node_any B P T A _ ⟨i + 1, l, o⟩ st' 15 _ lo _ [] z W hp (kids_nil W) (by simp) h3
  have HSh : Hid (∀ W, NumD.Tab W → Calls Tryz.prog 46 #[.int .i64 n] W fun e w' => e = .returned (.string ⟨(Lib.itoa n).toArray⟩) ∧ Below W.heap.size W w') := Lib.hid fun W hT => NumD.refShow_any n (by omega) hn9 W hT
  have hw : IntKind.i64.wrap ((i : Int) + 1) = (i : Int) + 1 := IntWalk.i64_in _ (by omega)
  have hn0 : ¬ n < 0 := by omega
  have f1 := f 1
  generalize (⟨(Lib.itoa n).toArray⟩ : ByteArray) = sn at HN HSh
  clear c0 c2 c3 c4 f h hM h3 q1 q2 hx h0 hn9 h2 li
  go_enter Tryz.func144, Tryz.ntmps144
  go_wp2_with fail
  generalize (w.setCell ⟨P, 1, none⟩ (.int .i64 ((i : Int) + 1))).alloc (.cells #[.int .i64 kd, .string tx, .int .i64 lo, .int .i64 hi, .int .i64 n] 57) = W2 at HW ⊢
  have HKp : Hid (∀ W, Fr B W2 W → W.cell? ⟨w.heap.size, 2, none⟩ = some (.int .i64 lo) ∧ W.cell? ⟨w.heap.size, 4, none⟩ = some (.int .i64 n)) := Lib.hid fun W hf => by
    have hh := HW.out.2.2.keepsT hf.k (by decide +kernel)
    exact ⟨hh.cell 2, hh.cell 4⟩
  have HF0 : Hid (Fr B W2 W2.drew) := Lib.hid (Fr.refl B W2).drew
  go_region_held3 (fun W => W.cell? ⟨w.heap.size, 2, none⟩ = some (.int .i64 lo) ∧ W.cell? ⟨w.heap.size, 4, none⟩ = some (.int .i64 n))
    (exact HKp.out _ (by first | exact HF0.out | exact HF1.out | exact HF2.out))
    (first
      | (go_at_call 46
         refine (HSh.out _ (HW.out.1.drew).tab).mono ?_
         rintro e w3 ⟨rfl, hb3⟩
         have HF1 : Hid (Fr B W2 w3) := Lib.hid (HF0.out.trans (Fr.of hb3 HW.out.1.bw))
         have HP1 : Hid (PAt w3 B P T A (.slice (some ⟨b, 0, none⟩) T.length cap) ⟨i + 1, l, o⟩) := Lib.hid (HW.out.1.drew.below hb3)
         clear hb3)
      | (go_at_call 33
         refine (HN.out _ HP1.out).mono ?_
         rintro e w4 ⟨rfl, hp4, hf4⟩
         have HF2 : Hid (Fr B W2 w4) := Lib.hid (HF1.out.trans hf4)
         have HP2 := Lib.hid hp4
         clear hp4 hf4))
  all_goals
    go_wp2_with fail
    go_ret
    exact ⟨rfl, HP2.out, HW.out.2.1.trans HF2.out⟩
theorem prim_some {T : List Tok} {F : Fns} {st st' : PS} {z : Int} (h : (stepF T F).prim st = some (z, st')) :
    ((cur T st).kind = 3 ∧ numP T st = some (z, st')) ∨
    ((cur T st).kind = 1 ∧ st.i + 1 < T.length ∧ builtinV (cur T st).text < 0 ∧ nodeP 17 (cur T st).text (cur T st).lo [] { st with i := st.i + 1 } = some (z, st')) ∨
    (((cur T st).kind ≠ 3 ∧ (cur T st).kind ≠ 4 ∧ (cur T st).kind ≠ 1) ∧ takeP T wNil st = some (true, { st with i := st.i + 1 }) ∧ nodeP 13 ⟨#[]⟩ (cur T st).lo [] { st with i := st.i + 1 } = some (z, st')) := by
  simp only [stepF] at h
  split at h
  · rename_i h1
    exact .inl ⟨h1, h⟩
  · rename_i h1
    split at h
    · cases h
    · rename_i h2
      split at h
      · rename_i h3
        rw [Option.bind_eq_some_iff] at h
        obtain ⟨s1, hs1, h⟩ := h
        unfold adv at hs1
        split at hs1
        · rename_i h4
          injection hs1 with hs1
          subst hs1
          split at h
          · cases h
          · exact .inr (.inl ⟨h3, h4, by omega, h⟩)
        · cases hs1
      · rename_i h3
        split at h
        · rename_i h4
          rw [Option.bind_eq_some_iff] at h
          obtain ⟨s1, hs1, h⟩ := h
          have hs0 := hs1
          unfold adv at hs1
          split at hs1
          · injection hs1 with hs1
            subst hs1
            refine .inr (.inr ⟨⟨h1, h2, h3⟩, ?_, h⟩)
            unfold takeP
            rw [if_pos h4, hs0]
            rfl
          · cases hs1
        · cases h
set_option maxRecDepth 100000 in
set_option maxHeartbeats 8000000 in
theorem prim_any (F : Fns) (B P : Nat) (T : List Tok) (A : Nat → Prop) (tv : Value) (st st' : PS) (z : Int) (w : World) (h : PAt w B P T A tv st) (hM : (stepF T F).prim st = some (z, st')) :
    Calls Tryz.prog 124 #[.pointer (some ⟨P, 0, none⟩)] w (Ret B P T A tv w (.int .i64 z) st') := by
  have HB := Lib.hid (h.box (cur T st))
  rcases prim_some hM with ⟨hk, hm⟩ | ⟨hk, hi, hb, hm⟩ | ⟨⟨hk3, hk4, hk1⟩, ht, hm⟩
  · have HN := Lib.hid (number_any B P T A tv st st' z _ HB.out.p hm)
    obtain ⟨i, l, o⟩ := st
    obtain ⟨b, cap, la, ln, lc, rfl, -, c0, c1, c2, c3, c4, c5, f, lp, t0, t1, t2, t3, t4, lb, ne, li, l0, ls⟩ := h.reads
    generalize cur T ⟨i, l, o⟩ = t at t0 t1 t2 t3 t4 hk HB HN
    obtain ⟨kd, tx, lo, hi, n⟩ := t
    unfold tokA at HN
    simp only at c1 li l0 ls t0 t1 t2 t3 t4 HB HN hk
    subst hk
    clear c2 c3 c4 c5 f h hM hm
    go_enter Tryz.func124, Tryz.ntmps124
    go_wp2
    go_region
    all_goals
      go_wp2_with fail
      refine (HN.out).mono ?_
      rintro e w1 ⟨rfl, h1, h2⟩
      have HE := Lib.hid (⟨h1, HB.out.f.trans h2⟩ : _ ∧ _)
      clear h1 h2
      go_wp2_with fail
      go_ret
      exact ⟨rfl, HE.out⟩
  · obtain ⟨i, l, o⟩ := st
    have HV := Lib.hid (fun W => TreeD.refBuiltin_any (cur T ⟨i, l, o⟩).text W)
    have hbi : ¬ (0 : Int) ≤ builtinV (cur T ⟨i, l, o⟩).text := by omega
    obtain ⟨b, cap, la, ln, lc, rfl, -, c0, c1, c2, c3, c4, c5, f, lp, t0, t1, t2, t3, t4, lb, ne, li, l0, ls⟩ := h.reads
    simp only at hi hm c1 li l0 ls t0 t1 t2 t3 t4
    obtain ⟨q1, q2⟩ := h.setI hi
    have HN : Hid (∀ W, PAt W B P T A (.slice (some ⟨b, 0, none⟩) T.length cap) ⟨i + 1, l, o⟩ → Calls Tryz.prog 33 #[.pointer (some ⟨P, 0, none⟩), .int .i64 17, .string (cur T ⟨i, l, o⟩).text, .int .i64 (cur T ⟨i, l, o⟩).lo, .slice none 0 0] W (Ret B P T A (.slice (some ⟨b, 0, none⟩) T.length cap) W (.int .i64 z) st')) := Lib.hid fun W hp => node_any B P T A _ ⟨i + 1, l, o⟩ st' 17 _ _ _ [] z W hp (kids_nil W) (by simp) hm
    generalize cur T ⟨i, l, o⟩ = t at t0 t1 t2 t3 t4 hk HB HN HV hbi
    obtain ⟨kd, tx, lo, hi, n⟩ := t
    simp only at t0 t1 t2 t3 t4 HB HN hk HV hbi
    subst hk
    generalize builtinV tx = bv at hbi HV
    have HW := Lib.hid (⟨(q1.alloc _).drew, (q2.alloc q1.bw _).drew⟩ : PAt ((w.setCell ⟨P, 1, none⟩ (.int .i64 ((i : Int) + 1))).alloc (.cells #[.int .i64 1, .string tx, .int .i64 lo, .int .i64 hi, .int .i64 n] 57)).drew B P T A _ ⟨i + 1, l, o⟩ ∧ Fr B w ((w.setCell ⟨P, 1, none⟩ (.int .i64 ((i : Int) + 1))).alloc (.cells #[.int .i64 1, .string tx, .int .i64 lo, .int .i64 hi, .int .i64 n] 57)).drew)
    have hw : IntKind.i64.wrap ((i : Int) + 1) = (i : Int) + 1 := IntWalk.i64_in _ (by omega)
    have f1 := f 1
    clear c2 c3 c4 c5 f h hM hm q1 q2 HB hb
    go_enter Tryz.func124, Tryz.ntmps124
    go_wp2
    go_region
    all_goals
      go_wp2_with fail
      refine (HV.out _).mono ?_
      rintro e w0 ⟨rfl, rfl⟩
      go_wp2_with fail
      refine (HN.out _ HW.out.1).mono ?_
      rintro e w1 ⟨rfl, h1, h2⟩
      have HE := Lib.hid (⟨h1, HW.out.2.trans h2⟩ : _ ∧ _)
      clear h1 h2
      go_wp2_with fail
      go_ret
      exact ⟨rfl, HE.out⟩
  · have HTk := Lib.hid (take_any B P T A tv st _ wNil true _ HB.out.p ht)
    obtain ⟨i, l, o⟩ := st
    obtain ⟨b, cap, la, ln, lc, rfl, -, c0, c1, c2, c3, c4, c5, f, lp, t0, t1, t2, t3, t4, lb, ne, li, l0, ls⟩ := h.reads
    simp only at hm c1 li l0 ls t0 t1 t2 t3 t4
    have HN : Hid (∀ W, PAt W B P T A (.slice (some ⟨b, 0, none⟩) T.length cap) ⟨i + 1, l, o⟩ → Calls Tryz.prog 33 #[.pointer (some ⟨P, 0, none⟩), .int .i64 13, .string ⟨#[]⟩, .int .i64 (cur T ⟨i, l, o⟩).lo, .slice none 0 0] W (Ret B P T A (.slice (some ⟨b, 0, none⟩) T.length cap) W (.int .i64 z) st')) := Lib.hid fun W hp => node_any B P T A _ ⟨i + 1, l, o⟩ st' 13 _ _ _ [] z W hp (kids_nil W) (by simp) hm
    generalize cur T ⟨i, l, o⟩ = t at t0 t1 t2 t3 t4 hk3 hk4 hk1 HB HN HTk
    obtain ⟨kd, tx, lo, hi, n⟩ := t
    simp only at t0 t1 t2 t3 t4 HB HN hk3 hk4 hk1 HTk
    have e3 : (kd == 3) = false := by simpa using hk3
    have e4 : (kd == 4) = false := by simpa using hk4
    have e1 : (kd == 1) = false := by simpa using hk1
    unfold wNil at HTk
    clear c2 c3 c4 c5 f h hM hm ht hk3 hk4 hk1
    go_enter Tryz.func124, Tryz.ntmps124
    go_wp2
    go_region
    all_goals
      go_wp2_with fail
      refine (HTk.out).mono ?_
      rintro e w0 ⟨rfl, h1, h2⟩
      have HX := Lib.hid (HB.out.next h1 h2)
      have x2 := HX.out.h.cell 2
      have x1 := HX.out.h.lt
      simp only [List.getElem?_cons_zero, List.getElem?_cons_succ] at x2
      clear h1 h2
      go_wp2_with fail
      refine (HN.out _ HX.out.p).mono ?_
      rintro e w1 ⟨rfl, h1, h2⟩
      have HE := Lib.hid (⟨h1, HX.out.f.trans h2⟩ : _ ∧ _)
      clear h1 h2
      go_wp2_with fail
      go_ret
      exact ⟨rfl, HE.out⟩
end ParD
end Go.Proofs.YtmdkocegnbcgmaaGreatDoor
namespace Go.Proofs.YtmdkocegnbcgmaaGreatDoor
open Go.RowKit ObjM RoundM
namespace ParD
open TreeD (Nd builtinV)
open LexD (Tok)

/-- A method that makes a node. -/
def Does (T : List Tok) (f : FuncId) (M : PS → Option (Int × PS)) : Prop :=
  ∀ (B P : Nat) (A : Nat → Prop) (tv : Value) (st st' : PS) (z : Int) (w : World), PAt w B P T A tv st → M st = some (z, st') → Calls Tryz.prog f #[.pointer (some ⟨P, 0, none⟩)] w (Ret B P T A tv w (.int .i64 z) st')
def DoesN (T : List Tok) (f : FuncId) (M : Int → PS → Option (Int × PS)) : Prop :=
  ∀ (B P : Nat) (A : Nat → Prop) (tv : Value) (st st' : PS) (at_ z : Int) (w : World), PAt w B P T A tv st → M at_ st = some (z, st') → Calls Tryz.prog f #[.pointer (some ⟨P, 0, none⟩), .int .i64 at_] w (Ret B P T A tv w (.int .i64 z) st')
theorem take_no {T : List Tok} {s : ByteArray} {st : PS} (h : isP T s st = false) : takeP T s st = some (false, st) := by
  unfold takeP
  rw [if_neg (by rw [h]; exact Bool.false_ne_true)]
theorem one_some {T : List Tok} {st st' : PS} {z : Int} (h : oneP T st = some (z, st')) : isP T wNil st = false ∧ isP T sBrace st = false ∧ (cur T st).text = wInt ∧ kindP T 1 st = some (cur T st, { st with i := st.i + 1 }) ∧ nodeP 31 wInt (cur T st).lo [] { st with i := st.i + 1 } = some (z, st') := by
  unfold oneP at h
  split at h
  · cases h
  · rename_i h1
    split at h
    · cases h
    · rename_i h2
      rw [Option.bind_eq_some_iff] at h
      obtain ⟨⟨t, s1⟩, hs1, h⟩ := h
      obtain ⟨-, -, rfl, rfl⟩ := kind_some hs1
      split at h
      · rename_i h3
        have e := eqB_iff.1 h3
        simp only at e h
        rw [e] at h
        exact ⟨by simpa using h1, by simpa using h2, e, hs1, h⟩
      · cases h
set_option maxRecDepth 100000 in
set_option maxHeartbeats 8000000 in
theorem one_any (T : List Tok) : Does T 123 (oneP T) := by
  intro B P A tv st st' z w h hM
  obtain ⟨h1, h2, h3, h4, hm⟩ := one_some hM
  have HB := Lib.hid (h.box (cur T st))
  have HTk := Lib.hid (take_any B P T A tv st st wNil false _ HB.out.p (take_no h1))
  have HIs := Lib.hid (fun W (hp : PAt W B P T A tv st) => is_any B P T A tv st sBrace W hp)
  rw [h2] at HIs
  have HK := Lib.hid (fun W (hp : PAt W B P T A tv st) => kind_any B P T A tv st _ 1 _ W hp h4)
  have HN := Lib.hid (fun W (hp : PAt W B P T A tv _) => node_any B P T A tv _ st' 31 wInt (cur T st).lo _ [] z W hp (kids_nil W) (by simp) hm)
  obtain ⟨b, cap, la, ln, lc, rfl, -, c0, c1, c2, c3, c4, c5, f, lp, t0, t1, t2, t3, t4, lb, ne, li, l0, ls⟩ := h.reads
  generalize cur T st = t at t0 t1 t2 t3 t4 h3 HB HN HTk HK
  obtain ⟨kd, tx, lo, hi, n⟩ := t
  simp only at t0 t1 t2 t3 t4 HB HN HTk h3
  subst h3
  unfold wNil at HTk
  unfold sBrace at HIs
  unfold wInt at t1 HB HN HTk
  clear c2 c3 c4 c5 f h hM hm h1 h2 h4
  go_enter Tryz.func123, Tryz.ntmps123
  go_wp2
  go_region
  all_goals
    go_wp2_with fail
    refine (HTk.out).mono ?_
    rintro e w0 ⟨rfl, g1, g2⟩
    have HX := Lib.hid (HB.out.next g1 g2)
    clear g1 g2
    go_wp2_with fail
    refine (HIs.out _ HX.out.p).mono ?_
    rintro e w1 ⟨rfl, m, rfl⟩
    have HY := Lib.hid (HX.out.next (HX.out.p.drewN m) ((Fr.refl B _).drewN m))
    clear HX
    go_wp2_with fail
    refine (HK.out _ HY.out.p).mono ?_
    rintro e w2 ⟨rfl, g1, g2⟩
    have HZ := Lib.hid (HY.out.next g1 g2)
    have x2 := HZ.out.h.cell 2
    have x1 := HZ.out.h.cell 1
    have xl := HZ.out.h.lt
    simp only [List.getElem?_cons_zero, List.getElem?_cons_succ] at x1 x2
    clear g1 g2 HY
    go_wp2_with fail
    refine (HN.out _ HZ.out.p).mono ?_
    rintro e w3 ⟨rfl, g1, g2⟩
    have HE := Lib.hid (⟨g1, HZ.out.f.trans g2⟩ : _ ∧ _)
    clear g1 g2
    go_wp2_with fail
    go_ret
    exact ⟨rfl, HE.out⟩
theorem kindOf_some {T : List Tok} {st st' : PS} {z : Int} (h : kindOfP T st = some (z, st')) : isP T sOpen st = false ∧ oneP T st = some (z, st') ∧ isP T sBar st' = false := by
  unfold kindOfP at h
  split at h
  · cases h
  · rename_i h1
    rw [Option.bind_eq_some_iff] at h
    obtain ⟨r, hr, h⟩ := h
    split at h
    · cases h
    · rename_i h2
      injection h with h
      subst h
      exact ⟨by simpa using h1, hr, by simpa using h2⟩
set_option maxRecDepth 100000 in
set_option maxHeartbeats 8000000 in
theorem kindOf_any (T : List Tok) : Does T 99 (kindOfP T) := by
  intro B P A tv st st' z w h hM
  obtain ⟨h1, h2, h3⟩ := kindOf_some hM
  have HIs := Lib.hid (is_drewN B P T A tv st sOpen false w h h1)
  have HO := Lib.hid (fun n => one_any T B P A tv st st' z (w.drewN n) (h.drewN n) h2)
  have HTk := Lib.hid (fun W (hp : PAt W B P T A tv st') => take_any B P T A tv st' st' sBar false W hp (take_no h3))
  obtain ⟨b, cap, la, ln, lc, rfl, -, c0, c1, c2, c3, c4, c5, f, lp, t0, t1, t2, t3, t4, lb, ne, li, l0, ls⟩ := h.reads
  have HF : Hid (∀ m, Fr B w (w.drewN m)) := Lib.hid fun m => (Fr.refl B w).drewN m
  unfold sOpen at HIs
  unfold sBar at HTk
  generalize cur T st = t at t0 t1 t2 t3 t4
  generalize st.i = i at c1 t0 t1 t2 t3 t4 li l0 ls
  clear c2 c3 c4 c5 f h hM h1 h2 h3
  go_enter Tryz.func99, Tryz.ntmps99
  go_wp2
  go_quiet (fail)
  go_wp2_with fail
  refine (HIs.out _).mono ?_
  rintro e w0 ⟨rfl, m, rfl⟩
  go_wp2_with fail
  refine (HO.out _).mono ?_
  rintro e w1 ⟨rfl, g1, g2⟩
  have HX : Hid (PAt (w1.alloc (.cells #[.int .i64 z] 3)) B P T A _ st' ∧ Fr B w (w1.alloc (.cells #[.int .i64 z] 3)) ∧ Has (w1.alloc (.cells #[.int .i64 z] 3)) w1.heap.size 3 [.int .i64 z]) := Lib.hid ⟨g1.alloc _, ((HF.out _).trans g2).alloc g1.bw _, Has.new w1 3 [.int .i64 z]⟩
  clear g1 g2
  go_wp2_with fail
  generalize w1.alloc (.cells #[.int .i64 z] 3) = W2 at HX ⊢
  generalize w1.heap.size = G at HX ⊢
  go_loopw [4] (fun s4 wl => s4 = .slice (some ⟨G, 0, none⟩) 1 1 ∧ W2 = wl) (fun _ _ => 0)
  case atStart => exact ⟨rfl, rfl⟩
  case round =>
    obtain ⟨rfl, rfl⟩ := hrel
    go_wp2_with fail
    refine (HTk.out _ HX.out.1).mono ?_
    rintro e w3 ⟨rfl, g1, g2⟩
    have hh := HX.out.2.2.keepsT g2.k (by decide +kernel)
    have x0 := hh.cell 0
    have xl := hh.lt
    simp only [List.getElem?_cons_zero] at x0
    have HE := Lib.hid (⟨g1, HX.out.2.1.trans g2⟩ : _ ∧ _)
    clear g1 g2 hh
    go_wp2_with fail
    go_ret
    exact ⟨rfl, HE.out⟩
theorem typed_some {T : List Tok} {st st' : PS} {z : Int} (h : typedP T st = some (z, st')) : (∃ s1, takeP T sColon st = some (true, s1) ∧ kindOfP T s1 = some (z, st') ∧ isP T sAt st' = false) ∨ (takeP T sColon st = some (false, st) ∧ noneP st = some (z, st')) := by
  unfold typedP at h
  rw [Option.bind_eq_some_iff] at h
  obtain ⟨⟨q, s1⟩, hr, h⟩ := h
  rcases take_some hr with ⟨rfl, -, -, -⟩ | ⟨rfl, -, rfl⟩
  · simp only [if_true] at h
    rw [Option.bind_eq_some_iff] at h
    obtain ⟨r, hr2, h⟩ := h
    split at h
    · cases h
    · rename_i h2
      injection h with h
      subst h
      exact .inl ⟨s1, hr, hr2, by simpa using h2⟩
  · exact .inr ⟨hr, h⟩
set_option maxRecDepth 100000 in
set_option maxHeartbeats 8000000 in
theorem typed_any (T : List Tok) : Does T 87 (typedP T) := by
  intro B P A tv st st' z w h hM
  rcases typed_some hM with ⟨s1, h1, h2, h3⟩ | ⟨h1, h2⟩
  · have HT := Lib.hid (take_any B P T A tv st s1 sColon true w h h1)
    have HK := Lib.hid (fun W hp => kindOf_any T B P A tv s1 st' z W hp h2)
    have HA := Lib.hid (fun W (hp : PAt W B P T A tv st') => take_any B P T A tv st' st' sAt false W hp (take_no h3))
    unfold sColon at HT
    unfold sAt at HA
    clear h hM h1 h2 h3
    go_enter Tryz.func87, Tryz.ntmps87
    go_wp2_with fail
    refine (HT.out).mono ?_
    rintro e w1 ⟨rfl, g1, g2⟩
    have HX := Lib.hid (⟨g1, g2⟩ : _ ∧ _)
    clear g1 g2
    go_wp2_with fail
    refine (HK.out _ HX.out.1).mono ?_
    rintro e w2 ⟨rfl, g1, g2⟩
    obtain ⟨b, cap, la, ln, lc, rfl, -, c0, c1, c2, c3, c4, c5, f, lp, t0, t1, t2, t3, t4, lb, ne, li, l0, ls⟩ := g1.reads
    have HY := Lib.hid (⟨fun n => g1.drewN n, fun n => (HX.out.2.trans g2).drewN n⟩ : (∀ n, PAt (w2.drewN n) B P T A _ st') ∧ (∀ n, Fr B w (w2.drewN n)))
    generalize cur T st' = t at t0 t1 t2 t3 t4
    generalize st'.i = i at c1 t0 t1 t2 t3 t4 li l0 ls
    clear c2 c3 c4 c5 f g1 g2 HX
    go_wp2
    go_quiet (fail)
    go_wp2_with fail
    refine (HA.out _ (HY.out.1 _)).mono ?_
    rintro e w3 ⟨rfl, g1, g2⟩
    have HE := Lib.hid (⟨g1, (HY.out.2 _).trans g2⟩ : _ ∧ _)
    clear g1 g2
    go_wp2_with fail
    go_ret
    exact ⟨rfl, HE.out⟩
  · have HT := Lib.hid (take_any B P T A tv st st sColon false w h h1)
    have HN := Lib.hid (fun W hp => none_any B P T A tv st st' z W hp h2)
    unfold sColon at HT
    clear h hM h1 h2
    go_enter Tryz.func87, Tryz.ntmps87
    go_wp2_with fail
    refine (HT.out).mono ?_
    rintro e w1 ⟨rfl, g1, g2⟩
    have HX := Lib.hid (⟨g1, g2⟩ : _ ∧ _)
    clear g1 g2
    go_wp2_with fail
    refine (HN.out _ HX.out.1).mono ?_
    rintro e w2 ⟨rfl, g1, g2⟩
    have HE := Lib.hid (⟨g1, HX.out.2.trans g2⟩ : _ ∧ _)
    clear g1 g2
    go_wp2_with fail
    go_ret
    exact ⟨rfl, HE.out⟩
theorem unary_some {T : List Tok} {F : Fns} {st st' : PS} {z : Int} (h : (stepF T F).unary st = some (z, st')) : isP T wNot st = false ∧ isP T sMinus st = false ∧ isP T sHash st = false ∧ F.suffixed st = some (z, st') := by
  simp only [stepF] at h
  split at h
  · cases h
  · rename_i h1
    simp only [not_or, Bool.not_eq_true] at h1
    exact ⟨h1.1, h1.2.1, h1.2.2, h⟩
set_option maxRecDepth 100000 in
set_option maxHeartbeats 8000000 in
theorem unary_any (T : List Tok) (F : Fns) (hS : Does T 101 F.suffixed) : Does T 120 (stepF T F).unary := by
  intro B P A tv st st' z w h hM
  obtain ⟨h1, h2, h3, h4⟩ := unary_some hM
  have HB := Lib.hid (h.box (cur T st))
  have HI1 := Lib.hid (fun W (hp : PAt W B P T A tv st) => is_any B P T A tv st wNot W hp)
  have HI2 := Lib.hid (fun W (hp : PAt W B P T A tv st) => is_any B P T A tv st sMinus W hp)
  have HI3 := Lib.hid (fun W (hp : PAt W B P T A tv st) => is_any B P T A tv st sHash W hp)
  rw [h1] at HI1
  rw [h2] at HI2
  rw [h3] at HI3
  have HN := Lib.hid (fun W hp => hS B P A tv st st' z W hp h4)
  obtain ⟨b, cap, la, ln, lc, rfl, -, c0, c1, c2, c3, c4, c5, f, lp, t0, t1, t2, t3, t4, lb, ne, li, l0, ls⟩ := h.reads
  generalize cur T st = t at t0 t1 t2 t3 t4 HB
  obtain ⟨kd, tx, lo, hi, n⟩ := t
  simp only at t0 t1 t2 t3 t4 HB
  unfold wNot at HI1
  unfold sMinus at HI2
  unfold sHash at HI3
  clear c2 c3 c4 c5 f h hM h1 h2 h3 h4 hS
  go_enter Tryz.func120, Tryz.ntmps120
  go_wp2
  go_region
  all_goals
    go_wp2_with fail
    refine (HI1.out _ HB.out.p).mono ?_
    rintro e w0 ⟨rfl, m, hm⟩
    have HX := Lib.hid (HB.out.next (HB.out.p.drewN m) ((Fr.refl B _).drewN m))
    rw [← hm] at HX
    clear hm HB
    go_wp2_with fail
    refine (HI2.out _ HX.out.p).mono ?_
    rintro e w1 ⟨rfl, m, hm⟩
    have HY := Lib.hid (HX.out.next (HX.out.p.drewN m) ((Fr.refl B _).drewN m))
    rw [← hm] at HY
    clear hm HX
    go_wp2_with fail
    refine (HI3.out _ HY.out.p).mono ?_
    rintro e w2 ⟨rfl, m, hm⟩
    have HZ := Lib.hid (HY.out.next (HY.out.p.drewN m) ((Fr.refl B _).drewN m))
    rw [← hm] at HZ
    clear hm HY
    go_wp2_with fail
    refine (HN.out _ HZ.out.p).mono ?_
    rintro e w3 ⟨rfl, g1, g2⟩
    have HE := Lib.hid (⟨g1, HZ.out.f.trans g2⟩ : _ ∧ _)
    clear g1 g2
    go_wp2_with fail
    go_ret
    exact ⟨rfl, HE.out⟩
theorem suff_some {T : List Tok} {F : Fns} {st st' : PS} {z : Int} (h : (stepF T F).suffixed st = some (z, st')) : F.prim st = some (z, st') ∧ isP T sDot st' = false ∧ isP T sSq st' = false ∧ isP T sOpen st' = false := by
  simp only [stepF] at h
  rw [Option.bind_eq_some_iff] at h
  obtain ⟨r, hr, h⟩ := h
  split at h
  · cases h
  · rename_i h1
    injection h with h
    subst h
    simp only [not_or, Bool.not_eq_true] at h1
    exact ⟨hr, h1.1, h1.2.1, h1.2.2⟩
set_option maxRecDepth 100000 in
set_option maxHeartbeats 8000000 in
theorem suffixed_any (T : List Tok) (F : Fns) (hS : Does T 124 F.prim) : Does T 101 (stepF T F).suffixed := by
  intro B P A tv st st' z w h hM
  obtain ⟨h1, h2, h3, h4⟩ := suff_some hM
  have HN := Lib.hid (hS B P A tv st st' z w h h1)
  have HT := Lib.hid (fun W (hp : PAt W B P T A tv st') => take_any B P T A tv st' st' sDot false W hp (take_no h2))
  have HI1 := Lib.hid (fun W (hp : PAt W B P T A tv st') => is_any B P T A tv st' sSq W hp)
  have HI2 := Lib.hid (fun W (hp : PAt W B P T A tv st') => is_any B P T A tv st' sOpen W hp)
  rw [h3] at HI1
  rw [h4] at HI2
  unfold sDot at HT
  unfold sSq at HI1
  unfold sOpen at HI2
  clear h hM h1 h2 h3 h4 hS
  go_enter Tryz.func101, Tryz.ntmps101
  go_wp2_with fail
  refine (HN.out).mono ?_
  rintro e w0 ⟨rfl, g1, g2⟩
  have HX := Lib.hid (⟨g1, g2⟩ : _ ∧ _)
  clear g1 g2
  go_wp2_with fail
  go_loopw [3] (fun s3 wl => s3 = .int .i64 z ∧ w0 = wl) (fun _ _ => 0)
  case atStart => exact ⟨rfl, rfl⟩
  case round =>
    obtain ⟨rfl, rfl⟩ := hrel
    obtain ⟨b, cap, la, ln, lc, rfl, -, c0, c1, c2, c3, c4, c5, f, lp, t0, t1, t2, t3, t4, lb, ne, li, l0, ls⟩ := HX.out.1.reads
    generalize cur T st' = t at t0 t1 t2 t3 t4
    generalize st'.i = i at c1 t0 t1 t2 t3 t4 li l0 ls
    have HY := Lib.hid (⟨fun n => HX.out.1.drewN n, fun n => HX.out.2.drewN n⟩ : (∀ n, PAt (w0.drewN n) B P T A _ st') ∧ (∀ n, Fr B w (w0.drewN n)))
    clear c2 c3 c4 f HX
    go_wp2
    go_quiet (fail)
    go_wp2_with fail
    refine (HT.out _ (HY.out.1 _)).mono ?_
    rintro e w1 ⟨rfl, g1, g2⟩
    have HZ := Lib.hid (⟨g1, (HY.out.2 _).trans g2⟩ : _ ∧ _)
    clear g1 g2
    go_wp2_with fail
    refine (HI1.out _ HZ.out.1).mono ?_
    rintro e w2 ⟨rfl, m, hm⟩
    have HZ2 := Lib.hid (⟨HZ.out.1.drewN m, HZ.out.2.drewN m⟩ : _ ∧ _)
    rw [← hm] at HZ2
    clear hm HZ
    go_wp2_with fail
    refine (HI2.out _ HZ2.out.1).mono ?_
    rintro e w3 ⟨rfl, m, hm⟩
    have HE := Lib.hid (⟨HZ2.out.1.drewN m, HZ2.out.2.drewN m⟩ : _ ∧ _)
    rw [← hm] at HE
    clear hm HZ2
    go_wp2_with fail
    go_ret
    exact ⟨rfl, HE.out⟩
end ParD
end Go.Proofs.YtmdkocegnbcgmaaGreatDoor
namespace Go.Proofs.YtmdkocegnbcgmaaGreatDoor
open Go.RowKit ObjM RoundM
namespace ParD
open TreeD (Nd builtinV)
open LexD (Tok)

def DoesC (T : List Tok) (M : Nat → PS → Option (Int × PS)) : Prop :=
  ∀ (r B P : Nat) (A : Nat → Prop) (tv : Value) (st st' : PS) (z : Int) (w : World), r ≤ 7 → PAt w B P T A tv st → M r st = some (z, st') → Calls Tryz.prog 98 #[.pointer (some ⟨P, 0, none⟩), .int .i64 (r : Int)] w (Ret B P T A tv w (.int .i64 z) st')
theorem chainL_some {T : List Tok} {F : Fns} {r m : Nat} {x z : Int} {st st' : PS} (h : chainL T F r m x st = some (z, st')) :
    ∃ k, m = k + 1 ∧ ((rankP T st ≠ (r : Int) ∧ z = x ∧ st' = st) ∨
      (rankP T st = (r : Int) ∧ st.i + 1 < T.length ∧ ∃ y s2 v s3, F.chain (r + 1) { st with i := st.i + 1 } = some (y, s2) ∧ eqB (cur T st).text wOr = false ∧ eqB (cur T st).text wAnd = false ∧ nodeP 27 (cur T st).text (cur T st).lo [x, y] s2 = some (v, s3) ∧ chainL T F r k v s3 = some (z, st'))) := by
  cases m with
  | zero => cases h
  | succ k =>
    refine ⟨k, rfl, ?_⟩
    simp only [chainL] at h
    split at h
    · rename_i h1
      rw [Option.bind_eq_some_iff] at h
      obtain ⟨s1, hs1, h⟩ := h
      unfold adv at hs1
      split at hs1
      · rename_i h2
        injection hs1 with hs1
        subst hs1
        rw [Option.bind_eq_some_iff] at h
        obtain ⟨⟨y, s2⟩, hc, h⟩ := h
        split at h
        · cases h
        · rename_i h3
          rw [Option.bind_eq_some_iff] at h
          obtain ⟨⟨v, s3⟩, hn, h⟩ := h
          simp only [not_or, Bool.not_eq_true] at h3
          exact .inr ⟨h1, h2, y, s2, v, s3, hc, h3.1, h3.2, hn, h⟩
      · cases hs1
    · rename_i h1
      simp only [Option.some.injEq, Prod.mk.injEq] at h
      exact .inl ⟨h1, h.1.symm, h.2.symm⟩
theorem chain_some {T : List Tok} {F : Fns} {r : Nat} {z : Int} {st st' : PS} (h : (stepF T F).chain r st = some (z, st')) : (6 < r ∧ F.unary st = some (z, st')) ∨ (r ≤ 6 ∧ ∃ x s1, F.chain (r + 1) st = some (x, s1) ∧ chainL T F r 50 x s1 = some (z, st')) := by
  simp only [stepF] at h
  split at h
  · rename_i h1
    exact .inl ⟨h1, h⟩
  · rename_i h1
    rw [Option.bind_eq_some_iff] at h
    obtain ⟨⟨x, s1⟩, hc, h⟩ := h
    exact .inr ⟨by omega, x, s1, hc, h⟩
set_option maxRecDepth 100000 in
set_option maxHeartbeats 16000000 in
theorem chain_any (T : List Tok) (F : Fns) (hU : Does T 120 F.unary) (hC : DoesC T F.chain) : DoesC T (stepF T F).chain := by
  intro r B P A tv st st' z w hr h hM
  rcases chain_some hM with ⟨h1, h2⟩ | ⟨h1, x, s1, h2, h3⟩
  · have HN := Lib.hid (hU B P A tv st st' z w h h2)
    have hri : (6 : Int) < (r : Int) := by omega
    clear h hM h1 h2 hU hC
    go_enter Tryz.func98, Tryz.ntmps98
    go_wp2_with fail
    refine (HN.out).mono ?_
    rintro e w1 ⟨rfl, g1, g2⟩
    have HE := Lib.hid (⟨g1, g2⟩ : _ ∧ _)
    clear g1 g2
    go_wp2_with fail
    go_ret
    exact ⟨rfl, HE.out⟩
  · have HC : Hid (∀ (st st' : PS) (z : Int) (w : World), PAt w B P T A tv st → F.chain (r + 1) st = some (z, st') → Calls Tryz.prog 98 #[.pointer (some ⟨P, 0, none⟩), .int .i64 ((r : Int) + 1)] w (Ret B P T A tv w (.int .i64 z) st')) := Lib.hid fun st st' z w hp hm => by
      have h9 := hC (r + 1) B P A tv st st' z w (by omega) hp hm
      rw [show (((r + 1 : Nat)) : Int) = (r : Int) + 1 by omega] at h9
      exact h9
    have HN := Lib.hid (HC.out st s1 x w h h2)
    have hri : ¬ (6 : Int) < (r : Int) := by omega
    have hw : IntKind.i64.wrap ((r : Int) + 1) = (r : Int) + 1 := IntWalk.i64_in _ (by omega)
    have HL := Lib.hid h3
    clear h hM h1 h2 h3 hU hC
    go_enter Tryz.func98, Tryz.ntmps98
    go_wp2_with fail
    refine (HN.out).mono ?_
    rintro e w1 ⟨rfl, g1, g2⟩
    have HX := Lib.hid (⟨g1, g2⟩ : _ ∧ _)
    clear g1 g2 HN
    go_wp2_with fail
    go_loopg [5] 50 (fun gk s5 wl => ∃ (x : Int) (stc : PS), s5 = .int .i64 x ∧ gk ≤ 50 ∧ Hid (chainL T F r gk x stc = some (z, st')) ∧ Hid (PAt wl B P T A tv stc ∧ Fr B w wl))
    case atStart => exact ⟨x, s1, rfl, Nat.le_refl _, HL, HX⟩
    case round =>
      obtain ⟨xc, stc, rfl, hgk, HLc, HP⟩ := hrel
      clear HL HX
      have HRk := Lib.hid (rank_any B P T A tv stc _ HP.out.1)
      obtain ⟨k, rfl, hcase⟩ := chainL_some HLc.out
      obtain ⟨b, cap, la, ln, lc, rfl, -, -, -, -, -, -, c5, -, lp, -⟩ := HP.out.1.reads
      rcases hcase with ⟨hne, rfl, rfl⟩ | ⟨heq, hi, y, s2, v, s3, hc, hor, hand, hn, hl⟩
      · have hq : (rankP T st' == (r : Int)) = false := by simpa using hne
        clear hne HLc
        go_wp2_with fail
        refine (HRk.out).mono ?_
        rintro e w2 ⟨rfl, g1, g2⟩
        have HE := Lib.hid (⟨g1, HP.out.2.trans g2⟩ : _ ∧ _)
        clear g1 g2
        go_wp2_with fail
        go_ret
        exact ⟨rfl, HE.out⟩
      · rw [heq] at HRk
        have hq : ((r : Int) == (r : Int)) = true := by simp
        go_wp2_with fail
        refine (HRk.out).mono ?_
        rintro e w2 ⟨rfl, g1, g2⟩
        obtain ⟨ic, lcn, oc⟩ := stc
        simp only at hi hc
        obtain ⟨b2, cap2, la2, ln2, lc2, e2, -, c0, c1, c2, c3, c4, c5, f, lp2, t0, t1, t2, t3, t4, lb, ne, li, l0, ls⟩ := g1.reads
        injection e2 with e2 e3 e4
        injection e2 with e2
        injection e2 with e2
        subst e2 e4
        obtain ⟨q1, q2⟩ := g1.setI hi
        have HW := Lib.hid (⟨q1, q2, g2⟩ : _ ∧ _ ∧ _)
        generalize cur T ⟨ic, lcn, oc⟩ = t at t0 t1 t2 t3 t4 hor hand hn
        obtain ⟨kd, tx, lo, hi9, n⟩ := t
        simp only at c1 t0 t1 t2 t3 t4 li l0 ls hor hand hn
        have hx := Has.new (w2.setCell ⟨P, 1, none⟩ (.int .i64 ((ic : Int) + 1))) 57 [.int .i64 kd, .string tx, .int .i64 lo, .int .i64 hi9, .int .i64 n]
        have hz : (w2.setCell ⟨P, 1, none⟩ (.int .i64 ((ic : Int) + 1))).heap.size = w2.heap.size := by simp [World.setCell]
        rw [hz] at hx
        have HB : Hid (Boxed B w ((w2.setCell ⟨P, 1, none⟩ (.int .i64 ((ic : Int) + 1))).alloc (.cells #[.int .i64 kd, .string tx, .int .i64 lo, .int .i64 hi9, .int .i64 n] 57)).drew P T A (.slice (some ⟨b, 0, none⟩) T.length cap) ⟨ic + 1, lcn, oc⟩ w2.heap.size ⟨kd, tx, lo, hi9, n⟩) := Lib.hid ⟨(q1.alloc _).drew, (HP.out.2.trans g2).trans ((q2.alloc q1.bw _).drew), hx.drew⟩
        have hwi : IntKind.i64.wrap ((ic : Int) + 1) = (ic : Int) + 1 := IntWalk.i64_in _ (by omega)
        have fr1 := f 1
        have eor : (tx.toList == [111, 114]) = false := TreeD.ne_list (fun e => by rw [e] at hor; cases hor)
        have eand : (tx.toList == [97, 110, 100]) = false := TreeD.ne_list (fun e => by rw [e] at hand; cases hand)
        have HNd := Lib.hid (fun W (hp : PAt W B P T A (.slice (some ⟨b, 0, none⟩) T.length cap) s2) kv (hk : TreeD.KidsAt W kv [xc, y]) => node_any B P T A _ s2 s3 27 tx lo kv [xc, y] v W hp hk (by simp) hn)
        have HCy := Lib.hid (fun W hp => HC.out ⟨ic + 1, lcn, oc⟩ s2 y W hp hc)
        have HLn := Lib.hid hl
        clear g1 g2 q1 q2 hx hz f c2 c3 c4 HLc hor hand hn hl hc HP HW HRk heq hi
        go_wp2
        go_region
        all_goals
          go_wp2_with fail
          refine (HCy.out _ HB.out.p).mono ?_
          rintro e w3 ⟨rfl, g1, g2⟩
          have HZ := Lib.hid (HB.out.next g1 g2)
          have x1 := HZ.out.h.cell 1
          have x2 := HZ.out.h.cell 2
          have xl := HZ.out.h.lt
          simp only [List.getElem?_cons_zero, List.getElem?_cons_succ] at x1 x2
          clear g1 g2 t0 t1 t2 t3 t4 c0 c1 c5
          go_wp2_with fail
          refine (HNd.out _ (HZ.out.p.alloc _) _ (kids_new w3 [xc, y] 2 2 rfl)).mono ?_
          rintro e w4 ⟨rfl, g1, g2⟩
          have HE := Lib.hid (⟨g1, (HZ.out.f.alloc HZ.out.p.bw _).trans g2⟩ : _ ∧ _)
          clear g1 g2
          go_wp2_with fail
          go_roundg k
          case measure => omega
          case rel => exact ⟨v, s3, rfl, by omega, HLn, HE⟩
end ParD
end Go.Proofs.YtmdkocegnbcgmaaGreatDoor
namespace Go.Proofs.YtmdkocegnbcgmaaGreatDoor
open Go.RowKit ObjM RoundM
namespace ParD
open TreeD (Nd builtinV)
open LexD (Tok)

/-- A row of numbers of the call's own, which the parser knows nothing of. -/
def With (A : Nat → Prop) (kv : Value) : Nat → Prop := fun k => A k ∨ kv.ownBlock = some k
theorem PAt.less {W : World} {B P : Nat} {T : List Tok} {A A' : Nat → Prop} {tv : Value} {st : PS} (h : PAt W B P T A' tv st) (hA : ∀ k, A k → A' k) : PAt W B P T A tv st := by
  obtain ⟨lv, nv, h1, h2, h3, h4⟩ := h.obj
  exact ⟨h.lt, h.tl, h.tks, ⟨lv, nv, h1, h2, h3, fun x hx => ⟨(h4 x hx).1, fun g hg ha => (h4 x hx).2 g hg (hA g ha)⟩⟩, h.low, h.bw, h.ol, h.ll, h.tab, h.tg, h.nb, fun k hk => h.av k (hA k hk)⟩
theorem PAt.with_nil {W : World} {B P : Nat} {T : List Tok} {A : Nat → Prop} {tv : Value} {st : PS} (h : PAt W B P T A tv st) : PAt W B P T (With A (.slice none 0 0)) tv st :=
  h.less fun k hk => by
    rcases hk with hk | hk
    · exact hk
    · cases hk
theorem PAt.push {w W : World} {B P b0 : Nat} {T : List Tok} {A : Nat → Prop} {tv kv : Value} {st : PS} {ks : List Int} (h : PAt W B P T (With A kv) tv st) (hf : Fr B w W) (hb0 : b0 = w.heap.size) (hBw : B ≤ w.heap.size) (hr : Row W b0 kv ks) (hn : ks.length ≤ 1000) (z : Int) :
    ∃ v2 W2, (Builtin.append_ #[31, 31] 31 #[kv, .slice (some ⟨W.heap.size, 0, none⟩) 1 1]).run Tryz.prog (W.alloc (.cells #[.int .i64 z] 3)) = .ok v2 W2 ∧ PAt W2 B P T (With A v2) tv st ∧ Fr B w W2 ∧ Row W2 b0 v2 (ks ++ [z]) := by
  obtain ⟨i0, hi, hz0, hz1, hz2⟩ := info_partsP infoIntP
  have hA := Has.new W 3 [.int .i64 z]
  have hfs := hf.b.size
  obtain ⟨v2, W2, hrun, ho, hg, -, hob⟩ := run_append_own_at (P := Tryz.prog) (w := W.alloc (.cells #[.int .i64 z] 3)) b0 31 31 3 i0 (.int .i64 0) 1 8 Tryz.underlying31 hi hz0 hz1 hz2 rfl (by decide) kv ks.length (ks.map (Value.int .i64)) (hr.alloc _) ⟨W.heap.size, 0, none⟩ 1 1 [.int .i64 z] rfl
    (fun j u hj => by
      rw [addrP, Nat.zero_add]
      exact (hA.cell j).trans hj)
    (by simp [Value.oneCell']) (by unfold maxLen; omega) (by omega) (by simp; omega)
  have hrow : ∀ g, kv.ownBlock = some g → b0 ≤ g ∧ g < W.heap.size := fun g hg => own_lt hr g hg
  have K : Keeps kv.ownBlock.toList W W2 := (Keeps.alloc _ W _).trans (Keeps.grown hg) fun x hx => .inl hx
  have hB2 : Below B w W2 := (hf.b.alloc h.bw _).grown hg (by simp; have := h.bw; omega) (fun g hgb => by have := (hrow g hgb).1; omega)
  have hK2 : KeepsT [53, 40] w W2 := (hf.k.alloc _).grown hg (fun g hgb => .inl (by have := (hrow g hgb).1; omega))
  refine ⟨v2, W2, hrun, ?_, ⟨hK2, hB2⟩, by simpa [Row] using ho⟩
  obtain ⟨b, cap, e, hb, ht⟩ := h.tks
  obtain ⟨lv, nv, g1, g2, g3, g4⟩ := h.obj
  have hBW : Below B W W2 := ((Below.refl B W).alloc h.bw _).grown hg (by simp; have := h.bw; omega) (fun g hgb => by have := (hrow g hgb).1; omega)
  have hP : P ∉ kv.ownBlock.toList := fun hm => by
    have e := Option.mem_toList.1 hm
    obtain ⟨cs, hcs⟩ := own_row hr P e
    exact (g1.ne hcs (by decide +kernel)) rfl
  have hL : ∀ g, lv.ownBlock = some g → g ∉ kv.ownBlock.toList := fun g hgl hm => by
    have e := Option.mem_toList.1 hm
    obtain ⟨cs, hcs⟩ := own_row hr g e
    exact own_ne g3 hcs (by decide +kernel) g hgl rfl
  have hv2 : ∀ k, v2.ownBlock = some k → kv.ownBlock = some k ∨ W.heap.size ≤ k := by
    intro k hk
    rcases hob with e | e
    · exact .inl (e ▸ hk)
    · rw [e] at hk
      injection hk with hk
      simp at hk
      exact .inr (by omega)
  refine ⟨h.lt, h.tl, ⟨b, cap, e, hb, fun i t hi => tk_below hb hBW (ht i t hi)⟩, ⟨lv, nv, g1.keeps K hP, g2, own_keeps g3 K hL, fun x hx => ⟨own_keeps (g4 x hx).1 K (fun g hgx hm => (g4 x hx).2 g hgx (.inr (Option.mem_toList.1 hm))), fun g hgx ha => ?_⟩⟩, h.low, Nat.le_trans h.bw hBW.size, h.ol, h.ll, tab_below h.tab h.tg hBW, h.tg, h.nb, fun k hk => ?_⟩
  · rcases ha with ha | ha
    · exact (g4 x hx).2 g hgx (.inl ha)
    · rcases hv2 g ha with h9 | h9
      · exact (g4 x hx).2 g hgx (.inr h9)
      · have := (own_lt (g4 x hx).1 g hgx).2
        omega
  · rcases hk with hk | hk
    · exact Nat.lt_of_lt_of_le (h.av k (.inl hk)) hBW.size
    · exact (own_lt (show W2.ownsRow b0 3 1 v2 _ _ from ho) k hk).2
theorem wpList_append_run {P : Program} {ops : Array Oper} {o : Oper} {rest : List Oper} {a : Act} {w : World} {Q : Exit → Act → World → Prop} (hw : Region.wanted o (yielded ops a.tmps) = true)
    (s x : Operand) (t : TypeId) (hop : o.op = Op.call { callee := Callee.builtin Builtin.append, args := #[s, x], argTypes := #[t, t] }) (v' : Value) (w' : World) (v u : Value) (hs : a.eval s = v) (hx : a.eval x = u)
    (hrun : (Builtin.append_ #[t, t] o.type #[v, u]).run P w = .ok v' w') (hK : wpList P ops Q rest (a.put o.dst v') w') : wpList P ops Q (o :: rest) a w := by
  unfold wpList
  rw [if_pos hw]
  refine .inl ?_
  subst hs hx
  unfold Oper.wp
  simp [execOp, hop, resolve, invoke, builtin, hrun, Result.andThen]
  exact hK
theorem With.base {A : Nat → Prop} {v : Value} : ∀ k, A k → With A v k := fun _ h => .inl h
set_option maxRecDepth 100000 in
set_option maxHeartbeats 4000000 in
theorem expr_any (T : List Tok) (F : Fns) (hC : DoesC T F.chain) : Does T 85 (F.chain 1) := by
  intro B P A tv st st' z w h hM
  have HN := Lib.hid (hC 1 B P A tv st st' z w (by omega) h hM)
  clear h hM hC
  go_enter Tryz.func85, Tryz.ntmps85
  go_wp2_with fail
  refine (HN.out).mono ?_
  rintro e w1 ⟨rfl, g1, g2⟩
  have HE := Lib.hid (⟨g1, g2⟩ : _ ∧ _)
  clear g1 g2
  go_wp2_with fail
  go_ret
  exact ⟨rfl, HE.out⟩
theorem blockL_some {T : List Tok} {F : Fns} {m : Nat} {ks kf : List Int} {st st' : PS} (h : blockL T F m ks st = some (kf, st')) :
    ∃ k, m = k + 1 ∧ ((endsP T st = true ∧ kf = ks ∧ st' = st) ∨
      (endsP T st = false ∧ (isP T wReturn st = true ∨ isP T wReturn st = false ∧ isP T wBreak st = true) ∧ ∃ z, F.last st = some (z, st') ∧ kf = ks ++ [z]) ∨
      (endsP T st = false ∧ isP T wReturn st = false ∧ isP T wBreak st = false ∧ ∃ z s1, F.stat st = some (z, s1) ∧ blockL T F k (ks ++ [z]) s1 = some (kf, st'))) := by
  cases m with
  | zero => cases h
  | succ k =>
    refine ⟨k, rfl, ?_⟩
    simp only [blockL] at h
    split at h
    · rename_i h1
      simp only [Option.some.injEq, Prod.mk.injEq] at h
      exact .inl ⟨h1, h.1.symm, h.2.symm⟩
    · rename_i h1
      split at h
      · rename_i h2
        rw [Option.map_eq_some_iff] at h
        obtain ⟨⟨z, s1⟩, hl, h⟩ := h
        simp only [Prod.mk.injEq] at h
        obtain ⟨rfl, rfl⟩ := h
        refine .inr (.inl ⟨by simpa using h1, ?_, z, hl, rfl⟩)
        by_cases h3 : isP T wReturn st = true
        · exact .inl h3
        · exact .inr ⟨by simpa using h3, h2.resolve_left h3⟩
      · rename_i h2
        rw [Option.bind_eq_some_iff] at h
        obtain ⟨⟨z, s1⟩, hs, h⟩ := h
        simp only [not_or, Bool.not_eq_true] at h2
        exact .inr (.inr ⟨by simpa using h1, h2.1, h2.2, z, s1, hs, h⟩)
theorem blockL_len {T : List Tok} {F : Fns} : ∀ {m : Nat} {ks kf : List Int} {st st' : PS}, blockL T F m ks st = some (kf, st') → kf.length ≤ ks.length + m
  | 0, _, _, _, _, h => by cases h
  | m + 1, ks, kf, st, st', h => by
    obtain ⟨k, e, h⟩ := blockL_some h
    obtain rfl : m = k := by omega
    rcases h with ⟨-, rfl, -⟩ | ⟨-, -, z, -, rfl⟩ | ⟨-, -, -, z, s1, -, h⟩
    · omega
    · simp
    · have := blockL_len h
      simp at this
      omega
theorem block_some {T : List Tok} {F : Fns} {st st' : PS} {z : Int} (h : (stepF T F).block st = some (z, st')) : ∃ kf s1, blockL T F 50 [] st = some (kf, s1) ∧ nodeP 3 ⟨#[]⟩ (cur T st).lo kf s1 = some (z, st') := by
  simp only [stepF] at h
  rw [Option.bind_eq_some_iff] at h
  obtain ⟨⟨kf, s1⟩, hl, h⟩ := h
  exact ⟨kf, s1, hl, h⟩
set_option maxRecDepth 100000 in
set_option maxHeartbeats 16000000 in
theorem block_any (T : List Tok) (F : Fns) (hL : Does T 57 F.last) (hS : Does T 58 F.stat) : Does T 31 (stepF T F).block := by
  intro B P A tv st st' z w h hM
  obtain ⟨kf, s1, h1, h2⟩ := block_some hM
  have hlen := blockL_len h1
  have hlo : (cur T st).lo = (cur T st).lo := rfl
  obtain ⟨b, cap, la, ln, lc, rfl, -, c0, c1, c2, c3, c4, c5, f, lp, t0, t1, t2, t3, t4, lb, ne, li, l0, ls⟩ := h.reads
  have HBw := Lib.hid h.bw
  have HN := Lib.hid (fun W kv (hp : PAt W B P T A (.slice (some ⟨b, 0, none⟩) T.length cap) s1) (hk : TreeD.KidsAt W kv kf) => node_any B P T A _ s1 st' 3 ⟨#[]⟩ (cur T st).lo kv kf z W hp hk (by simp at hlen; omega) h2)
  have HL0 := Lib.hid h1
  have HP0 := Lib.hid (⟨fun n => h.drewN n, fun n => (Fr.refl B w).drewN n⟩ : (∀ n, PAt (w.drewN n) B P T A (.slice (some ⟨b, 0, none⟩) T.length cap) st) ∧ (∀ n, Fr B w (w.drewN n)))
  generalize cur T st = t at t0 t1 t2 t3 t4 HN
  generalize hii : st.i = i at c1 t0 t1 t2 t3 t4 li l0 ls
  clear c2 c3 c4 c5 f h hM h1 h2 hlen hlo
  go_enter Tryz.func31, Tryz.ntmps31
  go_wp2
  go_quiet (fail)
  go_wp2_with fail
  go_loopg [4] 50 (fun gk s4 wl => ∃ (kv : Value) (ks : List Int) (stc : PS), s4 = kv ∧ ks.length + gk ≤ 50 ∧ Hid (blockL T F gk ks stc = some (kf, s1)) ∧ Hid (PAt wl B P T (With A kv) (.slice (some ⟨b, 0, none⟩) T.length cap) stc ∧ Fr B w wl ∧ Row wl w.heap.size kv ks))
  case atStart => exact ⟨_, [], st, rfl, by simp, HL0, Lib.hid ⟨(HP0.out.1 _).with_nil, HP0.out.2 _, Row.nil _ _⟩⟩
  case round =>
    obtain ⟨kv, ks, stc, rfl, hgk, HLc, HP⟩ := hrel
    clear HL0 HP0 c0 c1 t0 t1 t2 t3 t4
    obtain ⟨ka, kc, rfl⟩ := HP.out.2.2.shape
    obtain ⟨b2, cap2, la, ln, lc, -, -, -, -, -, -, -, c5, -, lp2, -⟩ := HP.out.1.reads
    have HEn := Lib.hid (ends_any B P T _ _ stc _ HP.out.1)
    obtain ⟨k, rfl, hcase⟩ := blockL_some HLc.out
    rcases hcase with ⟨he, rfl, rfl⟩ | ⟨he, hrb, zl, hl, rfl⟩ | ⟨he, hr1, hr2, zs, s2, hs, hl⟩
    · rw [he] at HEn
      clear he HLc
      go_wp2_with fail
      refine (HEn.out).mono ?_
      rintro e w2 ⟨rfl, m, hm⟩
      have HE := Lib.hid (⟨(HP.out.1.drewN m).less With.base, HP.out.2.1.drewN m, kids_row (HP.out.2.2.fr ((Fr.refl B _).drewN m))⟩ : _ ∧ _ ∧ _)
      rw [← hm] at HE
      clear hm HP
      go_wp2_with fail
      refine (HN.out _ _ HE.out.1 HE.out.2.2).mono ?_
      rintro e w3 ⟨rfl, g1, g2⟩
      have HE2 := Lib.hid (⟨g1, HE.out.2.1.trans g2⟩ : _ ∧ _)
      clear g1 g2
      go_wp2_with fail
      go_ret
      exact ⟨rfl, HE2.out⟩
    · rw [he] at HEn
      have HI1 := Lib.hid (fun W (hp : PAt W B P T _ _ stc) => is_any B P T (With A (.slice ka ks.length kc)) (.slice (some ⟨b, 0, none⟩) T.length cap) stc wReturn W hp)
      have HI2 := Lib.hid (fun W (hp : PAt W B P T _ _ stc) => is_any B P T (With A (.slice ka ks.length kc)) (.slice (some ⟨b, 0, none⟩) T.length cap) stc wBreak W hp)
      have HLl := Lib.hid (fun W (hp : PAt W B P T (With A (.slice ka ks.length kc)) (.slice (some ⟨b, 0, none⟩) T.length cap) stc) => hL B P _ _ stc s1 zl W hp hl)
      unfold wReturn at HI1
      unfold wBreak at HI2
      clear he HLc hl
      rcases hrb with hr | ⟨hr, hb9⟩
      all_goals
        unfold wReturn at hr
        rw [hr] at HI1
        try (unfold wBreak at hb9
             rw [hb9] at HI2)
        go_wp2_with fail
        refine (HEn.out).mono ?_
        rintro e w2 ⟨rfl, m, hm⟩
        have HX := Lib.hid (⟨HP.out.1.drewN m, HP.out.2.1.drewN m, HP.out.2.2.fr ((Fr.refl B _).drewN m)⟩ : _ ∧ _ ∧ _)
        rw [← hm] at HX
        clear hm HEn
        go_wp2_with fail
        refine (HI1.out _ HX.out.1).mono ?_
        rintro e w3 ⟨rfl, m, hm⟩
        have HY := Lib.hid (⟨HX.out.1.drewN m, HX.out.2.1.drewN m, HX.out.2.2.fr ((Fr.refl B _).drewN m)⟩ : _ ∧ _ ∧ _)
        rw [← hm] at HY
        clear hm HX
        try (go_wp2_with fail
             refine (HI2.out _ HY.out.1).mono ?_
             rintro e w3 ⟨rfl, m, hm⟩
             have HY := Lib.hid (⟨HY.out.1.drewN m, HY.out.2.1.drewN m, HY.out.2.2.fr ((Fr.refl B _).drewN m)⟩ : _ ∧ _ ∧ _)
             rw [← hm] at HY
             clear hm)
        go_wp2_with fail
        refine (HLl.out _ HY.out.1).mono ?_
        rintro e w4 ⟨rfl, g1, g2⟩
        obtain ⟨v5, w5, hrun, p1, p2, p3⟩ := g1.push (HY.out.2.1.trans g2) rfl HBw.out (HY.out.2.2.fr g2) (by omega) zl
        have HRun := Lib.hid hrun
        have HZ := Lib.hid (⟨p1.less With.base, p2, kids_row p3⟩ : _ ∧ _ ∧ _)
        clear g1 g2 hrun p1 p2 p3
        go_wp2_with (at_builtin; refine wpList_append_run (by rfl) (.tmp 32) (.tmp 35) 31 rfl _ _ _ _ rfl rfl HRun.out ?_)
        refine (HN.out _ _ HZ.out.1 HZ.out.2.2).mono ?_
        rintro e w6 ⟨rfl, g1, g2⟩
        have HE2 := Lib.hid (⟨g1, HZ.out.2.1.trans g2⟩ : _ ∧ _)
        clear g1 g2
        go_wp2_with fail
        go_ret
        exact ⟨rfl, HE2.out⟩
    · rw [he] at HEn
      have HI1 := Lib.hid (fun W (hp : PAt W B P T _ _ stc) => is_any B P T (With A (.slice ka ks.length kc)) (.slice (some ⟨b, 0, none⟩) T.length cap) stc wReturn W hp)
      have HI2 := Lib.hid (fun W (hp : PAt W B P T _ _ stc) => is_any B P T (With A (.slice ka ks.length kc)) (.slice (some ⟨b, 0, none⟩) T.length cap) stc wBreak W hp)
      have HSs := Lib.hid (fun W (hp : PAt W B P T (With A (.slice ka ks.length kc)) (.slice (some ⟨b, 0, none⟩) T.length cap) stc) => hS B P _ _ stc s2 zs W hp hs)
      rw [hr1] at HI1
      rw [hr2] at HI2
      unfold wReturn at HI1
      unfold wBreak at HI2
      have HLn := Lib.hid hl
      clear he HLc hl hs hr1 hr2
      go_wp2_with fail
      refine (HEn.out).mono ?_
      rintro e w2 ⟨rfl, m, hm⟩
      have HX := Lib.hid (⟨HP.out.1.drewN m, HP.out.2.1.drewN m, HP.out.2.2.fr ((Fr.refl B _).drewN m)⟩ : _ ∧ _ ∧ _)
      rw [← hm] at HX
      clear hm HEn
      go_wp2_with fail
      refine (HI1.out _ HX.out.1).mono ?_
      rintro e w3 ⟨rfl, m, hm⟩
      have HY := Lib.hid (⟨HX.out.1.drewN m, HX.out.2.1.drewN m, HX.out.2.2.fr ((Fr.refl B _).drewN m)⟩ : _ ∧ _ ∧ _)
      rw [← hm] at HY
      clear hm HX
      go_wp2_with fail
      refine (HI2.out _ HY.out.1).mono ?_
      rintro e w3 ⟨rfl, m, hm⟩
      have HZ := Lib.hid (⟨HY.out.1.drewN m, HY.out.2.1.drewN m, HY.out.2.2.fr ((Fr.refl B _).drewN m)⟩ : _ ∧ _ ∧ _)
      rw [← hm] at HZ
      clear hm HY
      go_wp2_with fail
      refine (HSs.out _ HZ.out.1).mono ?_
      rintro e w4 ⟨rfl, g1, g2⟩
      obtain ⟨v5, w5, hrun, p1, p2, p3⟩ := g1.push (HZ.out.2.1.trans g2) rfl HBw.out (HZ.out.2.2.fr g2) (by omega) zs
      have HRun := Lib.hid hrun
      have HV := Lib.hid (⟨p1, p2, p3⟩ : _ ∧ _ ∧ _)
      clear g1 g2 hrun p1 p2 p3
      go_wp2_with (at_builtin; refine wpList_append_run (by rfl) (.tmp 37) (.tmp 40) 31 rfl _ _ _ _ rfl rfl HRun.out ?_)
      go_roundg k
      case measure => omega
      case rel => exact ⟨_, _, _, rfl, by simp; omega, HLn, HV⟩
end ParD
end Go.Proofs.YtmdkocegnbcgmaaGreatDoor
namespace Go.Proofs.YtmdkocegnbcgmaaGreatDoor
open Go.RowKit ObjM RoundM
namespace ParD
open TreeD (Nd builtinV)
open LexD (Tok)

theorem last_some {T : List Tok} {F : Fns} {st st' : PS} {z : Int} (h : (stepF T F).last st = some (z, st')) : ∃ p s1 y s2, isP T wBreak st = false ∧ needP T wReturn st = some (p, s1) ∧ ((endsP T s1 = true ∧ noneP s1 = some (y, s2)) ∨ (endsP T s1 = false ∧ F.chain 1 s1 = some (y, s2))) ∧ nodeP 10 ⟨#[]⟩ (cur T st).lo [y] s2 = some (z, st') := by
  simp only [stepF] at h
  split at h
  · cases h
  · rename_i h1
    rw [Option.bind_eq_some_iff] at h
    obtain ⟨⟨p, s1⟩, hn, h⟩ := h
    rw [Option.bind_eq_some_iff] at h
    obtain ⟨⟨y, s2⟩, hy, h⟩ := h
    refine ⟨p, s1, y, s2, by simpa using h1, hn, ?_, h⟩
    split at hy
    · rename_i h2
      exact .inl ⟨h2, hy⟩
    · rename_i h2
      exact .inr ⟨by simpa using h2, hy⟩
set_option maxRecDepth 100000 in
set_option maxHeartbeats 16000000 in
theorem last_any (T : List Tok) (F : Fns) (hE : Does T 85 (F.chain 1)) : Does T 57 (stepF T F).last := by
  intro B P A tv st st' z w h hM
  obtain ⟨p, s1, y, s2, h1, h2, h3, h4⟩ := last_some hM
  have HT := Lib.hid (fun W (hp : PAt W B P T A tv st) => take_any B P T A tv st st wBreak false W hp (take_no h1))
  have HNe := Lib.hid (fun W (hp : PAt W B P T A tv st) => need_any B P T A tv st s1 wReturn p W hp h2)
  have HEn := Lib.hid (fun W (hp : PAt W B P T A tv s1) => ends_any B P T A tv s1 W hp)
  have HNd := Lib.hid (fun W kv (hp : PAt W B P T A tv s2) (hk : TreeD.KidsAt W kv [y]) => node_any B P T A tv s2 st' 10 ⟨#[]⟩ (cur T st).lo kv [y] z W hp hk (by simp) h4)
  have HW := Lib.hid (⟨fun n => h.drewN n, fun n => (Fr.refl B w).drewN n⟩ : (∀ n, PAt (w.drewN n) B P T A tv st) ∧ (∀ n, Fr B w (w.drewN n)))
  obtain ⟨b, cap, la, ln, lc, rfl, -, c0, c1, c2, c3, c4, c5, f, lp, t0, t1, t2, t3, t4, lb, ne, li, l0, ls⟩ := h.reads
  generalize cur T st = t at t0 t1 t2 t3 t4 HNd
  generalize st.i = i at c1 t0 t1 t2 t3 t4 li l0 ls
  unfold wBreak at HT
  unfold wReturn at HNe
  clear c2 c3 c4 c5 f h hM h1 h2 h4
  go_enter Tryz.func57, Tryz.ntmps57
  go_wp2
  go_quiet (fail)
  go_wp2_with fail
  refine (HT.out _ (HW.out.1 _)).mono ?_
  rintro e w1 ⟨rfl, g1, g2⟩
  have HX := Lib.hid (⟨g1, (HW.out.2 _).trans g2⟩ : _ ∧ _)
  clear g1 g2
  go_wp2_with fail
  refine (HNe.out _ HX.out.1).mono ?_
  rintro e w2 ⟨rfl, g1, g2⟩
  have HY := Lib.hid (⟨g1, HX.out.2.trans g2⟩ : _ ∧ _)
  clear g1 g2
  go_wp2_with fail
  refine (HEn.out _ HY.out.1).mono ?_
  rintro e w3 ⟨rfl, m, hm⟩
  have HZ := Lib.hid (⟨HY.out.1.drewN m, HY.out.2.drewN m⟩ : _ ∧ _)
  rw [← hm] at HZ
  clear hm
  rcases h3 with ⟨he, hy⟩ | ⟨he, hy⟩
  · have HNo := Lib.hid (none_any B P T A _ s1 s2 y _ HZ.out.1 hy)
    rw [he]
    clear hy he
    go_wp2_with fail
    refine (HNo.out).mono ?_
    rintro e w4 ⟨rfl, g1, g2⟩
    have HV := Lib.hid (⟨g1, HZ.out.2.trans g2⟩ : _ ∧ _)
    clear g1 g2
    go_wp2_with fail
    refine (HNd.out _ _ (HV.out.1.alloc _) (kids_new w4 [y] 1 1 rfl)).mono ?_
    rintro e w5 ⟨rfl, g1, g2⟩
    have HE := Lib.hid (⟨g1, (HV.out.2.alloc HV.out.1.bw _).trans g2⟩ : _ ∧ _)
    clear g1 g2
    go_wp2_with fail
    go_ret
    exact ⟨rfl, HE.out⟩
  · have HNo := Lib.hid (hE B P A _ s1 s2 y _ HZ.out.1 hy)
    rw [he]
    clear hy he
    go_wp2_with fail
    refine (HNo.out).mono ?_
    rintro e w4 ⟨rfl, g1, g2⟩
    have HV := Lib.hid (⟨g1, HZ.out.2.trans g2⟩ : _ ∧ _)
    clear g1 g2
    go_wp2_with fail
    refine (HNd.out _ _ (HV.out.1.alloc _) (kids_new w4 [y] 1 1 rfl)).mono ?_
    rintro e w5 ⟨rfl, g1, g2⟩
    have HE := Lib.hid (⟨g1, (HV.out.2.alloc HV.out.1.bw _).trans g2⟩ : _ ∧ _)
    clear g1 g2
    go_wp2_with fail
    go_ret
    exact ⟨rfl, HE.out⟩
theorem fun_some {T : List Tok} {F : Fns} {at_ : Int} {st st' : PS} {z : Int} (h : (stepF T F).function at_ st = some (z, st')) : ∃ p s1 v s2 y s3, needP T wFunction st = some (p, s1) ∧ varP T s1 = some (v, s2) ∧ F.body at_ s2 = some (y, s3) ∧ nodeP 5 v.text at_ [y] s3 = some (z, st') := by
  simp only [stepF] at h
  rw [Option.bind_eq_some_iff] at h
  obtain ⟨⟨p, s1⟩, h1, h⟩ := h
  rw [Option.bind_eq_some_iff] at h
  obtain ⟨⟨v, s2⟩, h2, h⟩ := h
  rw [Option.bind_eq_some_iff] at h
  obtain ⟨⟨y, s3⟩, h3, h⟩ := h
  exact ⟨p, s1, v, s2, y, s3, h1, h2, h3, h⟩
set_option maxRecDepth 100000 in
set_option maxHeartbeats 16000000 in
theorem function_any (T : List Tok) (F : Fns) (hB : DoesN T 100 F.body) : DoesN T 88 (stepF T F).function := by
  intro B P A tv st st' at_ z w h hM
  obtain ⟨p, s1, v, s2, y, s3, h1, h2, h3, h4⟩ := fun_some hM
  have HNe := Lib.hid (need_any B P T A tv st s1 wFunction p w h h1)
  have HV := Lib.hid (fun W (hp : PAt W B P T A tv s1) => variable_any B P T A tv s1 s2 v W hp h2)
  have HBo := Lib.hid (fun W (hp : PAt W B P T A tv s2) => hB B P A tv s2 s3 at_ y W hp h3)
  have HNd := Lib.hid (fun W kv (hp : PAt W B P T A tv s3) (hk : TreeD.KidsAt W kv [y]) => node_any B P T A tv s3 st' 5 v.text at_ kv [y] z W hp hk (by simp) h4)
  unfold wFunction at HNe
  unfold tokA at HV
  clear h hM h1 h2 h3 h4 hB
  go_enter Tryz.func88, Tryz.ntmps88
  go_wp2_with fail
  refine (HNe.out).mono ?_
  rintro e w1 ⟨rfl, g1, g2⟩
  have HX := Lib.hid (⟨g1, g2⟩ : _ ∧ _)
  clear g1 g2
  go_wp2_with fail
  refine (HV.out _ HX.out.1).mono ?_
  rintro e w2 ⟨rfl, g1, g2⟩
  have HY : Hid (PAt (w2.alloc (.cells #[.int .i64 v.kind, .string v.text, .int .i64 v.lo, .int .i64 v.hi, .int .i64 v.n] 57)) B P T A tv s2 ∧ Fr B w (w2.alloc (.cells #[.int .i64 v.kind, .string v.text, .int .i64 v.lo, .int .i64 v.hi, .int .i64 v.n] 57)) ∧ Has (w2.alloc (.cells #[.int .i64 v.kind, .string v.text, .int .i64 v.lo, .int .i64 v.hi, .int .i64 v.n] 57)) w2.heap.size 57 [.int .i64 v.kind, .string v.text, .int .i64 v.lo, .int .i64 v.hi, .int .i64 v.n]) := Lib.hid ⟨g1.alloc _, (HX.out.2.trans g2).alloc g1.bw _, Has.new w2 57 [.int .i64 v.kind, .string v.text, .int .i64 v.lo, .int .i64 v.hi, .int .i64 v.n]⟩
  clear g1 g2
  go_wp2_with fail
  generalize w2.alloc (.cells #[.int .i64 v.kind, .string v.text, .int .i64 v.lo, .int .i64 v.hi, .int .i64 v.n] 57) = W2 at HY ⊢
  generalize w2.heap.size = G at HY ⊢
  have HKp : Hid (∀ W, Fr B W2 W → W.cell? ⟨G, 1, none⟩ = some (.string v.text)) := Lib.hid fun W hf => (HY.out.2.2.keepsT hf.k (by decide +kernel)).cell 1
  have HF0 : Hid (Fr B W2 W2.drew) := Lib.hid (Fr.refl B W2).drew
  go_region_held3 (fun W => W.cell? ⟨G, 1, none⟩ = some (.string v.text))
    (exact HKp.out _ (by first | exact HF0.out | exact HF1.out | exact HF3.out | exact HF2.out))
    (first
      | (go_at_call 100
         refine (HBo.out _ HY.out.1.drew).mono ?_
         rintro e w3 ⟨rfl, hp3, hf3⟩
         have HF1 : Hid (Fr B W2 w3) := Lib.hid (HF0.out.trans hf3)
         have HP1 := Lib.hid hp3
         have HF2 : Hid (Fr B W2 (w3.alloc (.cells #[.int .i64 y] 3))) := Lib.hid (HF1.out.alloc hp3.bw _)
         clear hp3 hf3)
      | (go_at_call 33
         refine (HNd.out _ _ (HP1.out.alloc _) (kids_new _ [y] 1 1 rfl)).mono ?_
         rintro e w4 ⟨rfl, hp4, hf4⟩
         have HF3 : Hid (Fr B W2 w4) := Lib.hid (HF2.out.trans hf4)
         have HP2 := Lib.hid hp4
         clear hp4 hf4))
  all_goals
    go_wp2_with fail
    go_ret
    exact ⟨rfl, HP2.out, HY.out.2.1.trans HF3.out⟩
end ParD
end Go.Proofs.YtmdkocegnbcgmaaGreatDoor
namespace Go.Proofs.YtmdkocegnbcgmaaGreatDoor
open Go.RowKit ObjM RoundM
namespace ParD
open TreeD (Nd builtinV)
open LexD (Tok)

theorem shut_some {st st' : PS} (h : shutP st = some st') : 0 < st.opn ∧ st' = { st with opn := st.opn - 1 } := by
  unfold shutP at h
  split at h
  · rename_i h1
    injection h with h
    exact ⟨h1, h.symm⟩
  · cases h
theorem cond_some {T : List Tok} {F : Fns} {at_ : Int} {st st' : PS} {z : Int} (h : (stepF T F).cond at_ st = some (z, st')) :
    ∃ s1 e s2 p s3 b s4 c s5 q s6 s7, deepP st = some s1 ∧ F.chain 1 s1 = some (e, s2) ∧ needP T wThen s2 = some (p, s3) ∧ F.block s3 = some (b, s4) ∧ isP T wElseif s4 = false ∧ isP T wElse s4 = false ∧ noneP s4 = some (c, s5) ∧ needP T wEnd s5 = some (q, s6) ∧ shutP s6 = some s7 ∧ nodeP 8 ⟨#[]⟩ at_ [e, b, c] s7 = some (z, st') := by
  simp only [stepF] at h
  rw [Option.bind_eq_some_iff] at h
  obtain ⟨s1, h1, h⟩ := h
  rw [Option.bind_eq_some_iff] at h
  obtain ⟨⟨e, s2⟩, h2, h⟩ := h
  rw [Option.bind_eq_some_iff] at h
  obtain ⟨⟨p, s3⟩, h3, h⟩ := h
  rw [Option.bind_eq_some_iff] at h
  obtain ⟨⟨b, s4⟩, h4, h⟩ := h
  split at h
  · cases h
  · rename_i h5
    simp only [not_or, Bool.not_eq_true] at h5
    rw [Option.bind_eq_some_iff] at h
    obtain ⟨⟨c, s5⟩, h6, h⟩ := h
    rw [Option.bind_eq_some_iff] at h
    obtain ⟨⟨q, s6⟩, h7, h⟩ := h
    rw [Option.bind_eq_some_iff] at h
    obtain ⟨s7, h8, h⟩ := h
    exact ⟨s1, e, s2, p, s3, b, s4, c, s5, q, s6, s7, h1, h2, h3, h4, h5.1, h5.2, h6, h7, h8, h⟩
set_option maxRecDepth 100000 in
set_option maxHeartbeats 16000000 in
theorem cond_any (T : List Tok) (F : Fns) (hE : Does T 85 (F.chain 1)) (hB : Does T 31 F.block) : DoesN T 89 (stepF T F).cond := by
  intro B P A tv st st' at_ z w h hM
  obtain ⟨s1, ev, s2, p, s3, bv, s4, cv, s5, q, s6, s7, h1, h2, h3, h4, h5, h6, h7, h8, h9, h10⟩ := cond_some hM
  have H1 := Lib.hid (deeper_any B P T A tv st s1 at_ w h h1)
  have H2 := Lib.hid (fun W hp => hE B P A tv s1 s2 ev W hp h2)
  have H3 := Lib.hid (fun W (hp : PAt W B P T A tv s2) => need_any B P T A tv s2 s3 wThen p W hp h3)
  have H4 := Lib.hid (fun W hp => hB B P A tv s3 s4 bv W hp h4)
  have H5 := Lib.hid (fun W (hp : PAt W B P T A tv s4) => take_any B P T A tv s4 s4 wElseif false W hp (take_no h5))
  have H6 := Lib.hid (fun W (hp : PAt W B P T A tv s4) => take_any B P T A tv s4 s4 wElse false W hp (take_no h6))
  have H7 := Lib.hid (fun W (hp : PAt W B P T A tv s4) => none_any B P T A tv s4 s5 cv W hp h7)
  have H8 := Lib.hid (fun W (hp : PAt W B P T A tv s5) => need_any B P T A tv s5 s6 wEnd q W hp h8)
  have H10 := Lib.hid (fun W kv (hp : PAt W B P T A tv s7) (hk : TreeD.KidsAt W kv [ev, bv, cv]) => node_any B P T A tv s7 st' 8 ⟨#[]⟩ at_ kv [ev, bv, cv] z W hp hk (by simp) h10)
  obtain ⟨i6, l6, o6⟩ := s6
  obtain ⟨g0, rfl⟩ := shut_some h9
  simp only at g0
  have HSh : Hid (∀ W, PAt W B P T A tv ⟨i6, l6, o6⟩ → PAt (W.setCell ⟨P, 3, none⟩ (.int .i64 ((o6 : Int) - 1))) B P T A tv ⟨i6, l6, o6 - 1⟩ ∧ Fr B W (W.setCell ⟨P, 3, none⟩ (.int .i64 ((o6 : Int) - 1)))) := Lib.hid fun W hp => hp.setO (o' := o6 - 1) (by have := hp.ol; simp only at this; omega) ((o6 : Int) - 1) (by omega)
  have hw : o6 ≤ 150 → IntKind.i64.wrap ((o6 : Int) - 1) = (o6 : Int) - 1 := fun _ => IntWalk.i64_in _ (by omega)
  unfold wThen at H3
  unfold wElseif at H5
  unfold wElse at H6
  unfold wEnd at H8
  clear h hM h1 h2 h3 h4 h5 h6 h7 h8 h9 h10 hE hB g0
  go_enter Tryz.func89, Tryz.ntmps89
  go_wp2_with fail
  refine (H1.out).mono ?_
  rintro e w1 ⟨rfl, g1, g2⟩
  have X1 := Lib.hid (⟨g1, g2⟩ : _ ∧ _)
  clear g1 g2 H1
  go_wp2_with fail
  refine (H2.out _ X1.out.1).mono ?_
  rintro e w2 ⟨rfl, g1, g2⟩
  have X2 := Lib.hid (⟨g1, X1.out.2.trans g2⟩ : _ ∧ _)
  clear g1 g2 H2 X1
  go_wp2_with fail
  refine (H3.out _ X2.out.1).mono ?_
  rintro e w3 ⟨rfl, g1, g2⟩
  have X3 := Lib.hid (⟨g1, X2.out.2.trans g2⟩ : _ ∧ _)
  clear g1 g2 H3 X2
  go_wp2_with fail
  refine (H4.out _ X3.out.1).mono ?_
  rintro e w4 ⟨rfl, g1, g2⟩
  obtain ⟨b, cap, la, ln, lc, rfl, -, c0, c1, c2, c3, c4, c5, f, lp, t0, t1, t2, t3, t4, lb, ne, li, l0, ls⟩ := g1.reads
  have X4 := Lib.hid (⟨fun n => g1.drewN n, fun n => (X3.out.2.trans g2).drewN n⟩ : (∀ n, PAt (w4.drewN n) B P T A _ s4) ∧ (∀ n, Fr B w (w4.drewN n)))
  generalize cur T s4 = t at t0 t1 t2 t3 t4
  generalize s4.i = i at c1 t0 t1 t2 t3 t4 li l0 ls
  clear g1 g2 H4 X3 c2 c3 c4 c5 f
  go_wp2
  go_quiet (fail)
  go_wp2_with fail
  refine (H5.out _ (X4.out.1 _)).mono ?_
  rintro e w5 ⟨rfl, g1, g2⟩
  have X5 := Lib.hid (⟨g1, (X4.out.2 _).trans g2⟩ : _ ∧ _)
  clear g1 g2 H5 X4
  go_wp2_with fail
  refine (H6.out _ X5.out.1).mono ?_
  rintro e w6 ⟨rfl, g1, g2⟩
  have X6 := Lib.hid (⟨g1, X5.out.2.trans g2⟩ : _ ∧ _)
  clear g1 g2 H6 X5
  go_wp2_with fail
  refine (H7.out _ X6.out.1).mono ?_
  rintro e w7 ⟨rfl, g1, g2⟩
  have X7 := Lib.hid (⟨g1, X6.out.2.trans g2⟩ : _ ∧ _)
  clear g1 g2 H7 X6
  go_wp2_with fail
  refine (H8.out _ X7.out.1).mono ?_
  rintro e w8 ⟨rfl, g1, g2⟩
  have hw1 := hw (by have := g1.ol; simpa using this)
  obtain ⟨b8, cap8, la8, ln8, lc8, -, -, -, -, -, d3, -, -, f8, lp8, -⟩ := g1.reads
  simp only at d3
  have f3 := f8 3
  obtain ⟨k1, k2⟩ := HSh.out w8 g1
  have X8 : Hid (∀ o, PAt ((w8.setCell ⟨P, 3, none⟩ (.int .i64 ((o6 : Int) - 1))).alloc o) B P T A (.slice (some ⟨b, 0, none⟩) T.length cap) ⟨i6, l6, o6 - 1⟩ ∧ Fr B w ((w8.setCell ⟨P, 3, none⟩ (.int .i64 ((o6 : Int) - 1))).alloc o)) := Lib.hid fun o => ⟨k1.alloc o, ((X7.out.2.trans g2).trans k2).alloc k1.bw o⟩
  have hK := kids_new (w8.setCell ⟨P, 3, none⟩ (.int .i64 ((o6 : Int) - 1))) [ev, bv, cv] 3 3 rfl
  rw [show (w8.setCell ⟨P, 3, none⟩ (.int .i64 ((o6 : Int) - 1))).heap.size = w8.heap.size by simp [World.setCell]] at hK
  have HK := Lib.hid hK
  clear hK
  clear g1 g2 k1 k2 H8 X7 HSh f8 hw
  go_wp2_with fail
  have H11 := Lib.hid (H10.out _ _ (X8.out _).1 HK.out)
  refine (H11.out).mono ?_
  rintro e w9 ⟨rfl, g1, g2⟩
  have HE := Lib.hid (⟨g1, (X8.out _).2.trans g2⟩ : _ ∧ _)
  clear g1 g2
  go_wp2_with fail
  go_ret
  exact ⟨rfl, HE.out⟩
theorem body_some {T : List Tok} {F : Fns} {at_ : Int} {st st' : PS} {z : Int} (h : (stepF T F).body at_ st = some (z, st')) :
    ∃ s1 p s2 q s3 t s4 b s5 r s6 s7, deepP st = some s1 ∧ needP T sOpen s1 = some (p, s2) ∧ isP T sShut s2 = true ∧ needP T sShut s2 = some (q, s3) ∧ isP T sColon s3 = false ∧ noneP s3 = some (t, s4) ∧ F.block s4 = some (b, s5) ∧ needP T wEnd s5 = some (r, s6) ∧ shutP s6 = some s7 ∧ nodeP 22 ⟨#[]⟩ at_ [t, b] s7 = some (z, st') := by
  simp only [stepF] at h
  rw [Option.bind_eq_some_iff] at h
  obtain ⟨s1, h1, h⟩ := h
  rw [Option.bind_eq_some_iff] at h
  obtain ⟨⟨p, s2⟩, h2, h⟩ := h
  split at h
  · rename_i h3
    rw [Option.bind_eq_some_iff] at h
    obtain ⟨⟨q, s3⟩, h4, h⟩ := h
    split at h
    · cases h
    · rename_i h5
      rw [Option.bind_eq_some_iff] at h
      obtain ⟨⟨t, s4⟩, h6, h⟩ := h
      rw [Option.bind_eq_some_iff] at h
      obtain ⟨⟨b, s5⟩, h7, h⟩ := h
      rw [Option.bind_eq_some_iff] at h
      obtain ⟨⟨r, s6⟩, h8, h⟩ := h
      rw [Option.bind_eq_some_iff] at h
      obtain ⟨s7, h9, h⟩ := h
      exact ⟨s1, p, s2, q, s3, t, s4, b, s5, r, s6, s7, h1, h2, h3, h4, by simpa using h5, h6, h7, h8, h9, h⟩
  · cases h
set_option maxRecDepth 100000 in
set_option maxHeartbeats 16000000 in
theorem body_any (T : List Tok) (F : Fns) (hB : Does T 31 F.block) : DoesN T 100 (stepF T F).body := by
  intro B P A tv st st' at_ z w h hM
  obtain ⟨s1, p, s2, q, s3, tz, s4, bz, s5, r, s6, s7, h1, h2, h3, h4, h5, h6, h7, h8, h9, h10⟩ := body_some hM
  have hBw := h.bw
  have H1 := Lib.hid (deeper_any B P T A tv st s1 at_ w h h1)
  have H2 := Lib.hid (fun W (hp : PAt W B P T A tv s1) => need_any B P T A tv s1 s2 sOpen p W hp h2)
  have H3 := Lib.hid (fun W (hp : PAt W B P T A tv s2) => is_any B P T A tv s2 sShut W hp)
  rw [h3] at H3
  have H4 := Lib.hid (fun W (hp : PAt W B P T A tv s2) => need_any B P T A tv s2 s3 sShut q W hp h4)
  have H5 := Lib.hid (fun W (hp : PAt W B P T A tv s3) => take_any B P T A tv s3 s3 sColon false W hp (take_no h5))
  have H6 := Lib.hid (fun W (hp : PAt W B P T A tv s3) => none_any B P T A tv s3 s4 tz W hp h6)
  have H7 := Lib.hid (fun W A (hp : PAt W B P T A tv s4) => hB B P A tv s4 s5 bz W hp h7)
  have H8 := Lib.hid (fun W A (hp : PAt W B P T A tv s5) => need_any B P T A tv s5 s6 wEnd r W hp h8)
  have H10 := Lib.hid (fun W A kv (hp : PAt W B P T A tv s7) (hk : TreeD.KidsAt W kv [tz, bz]) => node_any B P T A tv s7 st' 22 ⟨#[]⟩ at_ kv [tz, bz] z W hp hk (by simp) h10)
  obtain ⟨i6, l6, o6⟩ := s6
  obtain ⟨g0, rfl⟩ := shut_some h9
  simp only at g0
  have HSh : Hid (∀ W A, PAt W B P T A tv ⟨i6, l6, o6⟩ → PAt (W.setCell ⟨P, 3, none⟩ (.int .i64 ((o6 : Int) - 1))) B P T A tv ⟨i6, l6, o6 - 1⟩ ∧ Fr B W (W.setCell ⟨P, 3, none⟩ (.int .i64 ((o6 : Int) - 1)))) := Lib.hid fun W A hp => hp.setO (o' := o6 - 1) (by have := hp.ol; simp only at this; omega) ((o6 : Int) - 1) (by omega)
  have hw : o6 ≤ 150 → IntKind.i64.wrap ((o6 : Int) - 1) = (o6 : Int) - 1 := fun _ => IntWalk.i64_in _ (by omega)
  unfold sOpen at H2
  unfold sShut at H3 H4
  unfold sColon at H5
  unfold wEnd at H8
  have HBw := Lib.hid hBw
  clear h hM h1 h2 h3 h4 h5 h6 h7 h8 h9 h10 hB g0 hBw
  go_enter Tryz.func100, Tryz.ntmps100
  go_wp2_with fail
  refine (H1.out).mono ?_
  rintro e w1 ⟨rfl, g1, g2⟩
  have X1 := Lib.hid (⟨g1, g2⟩ : _ ∧ _)
  clear g1 g2 H1
  go_wp2_with fail
  refine (H2.out _ X1.out.1).mono ?_
  rintro e w2 ⟨rfl, g1, g2⟩
  have X2 := Lib.hid (⟨g1, X1.out.2.trans g2⟩ : _ ∧ _)
  clear g1 g2 H2 X1
  go_wp2_with fail
  go_loopw [5] (fun s5 wl => s5 = .slice none 0 0 ∧ w2 = wl) (fun _ _ => 0)
  case atStart => exact ⟨rfl, rfl⟩
  case round =>
    obtain ⟨rfl, rfl⟩ := hrel
    obtain ⟨b2, cap2, la, ln, lc, -, -, -, -, -, -, -, c5, -, lp2, -⟩ := X2.out.1.reads
    go_wp2_with fail
    refine (H3.out _ X2.out.1).mono ?_
    rintro e w3 ⟨rfl, m, hm⟩
    have X3 := Lib.hid (⟨X2.out.1.drewN m, X2.out.2.drewN m⟩ : _ ∧ _)
    rw [← hm] at X3
    clear hm H3 X2 c5 lp2
    go_wp2_with fail
    refine (H4.out _ X3.out.1).mono ?_
    rintro e w4 ⟨rfl, g1, g2⟩
    have X4 := Lib.hid (⟨g1, X3.out.2.trans g2⟩ : _ ∧ _)
    clear g1 g2 H4 X3
    go_wp2_with fail
    refine (H5.out _ X4.out.1).mono ?_
    rintro e w5 ⟨rfl, g1, g2⟩
    have X5 := Lib.hid (⟨g1, X4.out.2.trans g2⟩ : _ ∧ _)
    clear g1 g2 H5 X4
    go_wp2_with fail
    refine (H6.out _ X5.out.1).mono ?_
    rintro e w6 ⟨rfl, g1, g2⟩
    obtain ⟨v7, w7, hrun, p1, p2, p3⟩ := (g1.with_nil).push (X5.out.2.trans g2) rfl HBw.out (Row.nil _ _) (by simp) tz
    have HRun := Lib.hid hrun
    have X6 := Lib.hid (⟨p1, p2, p3⟩ : _ ∧ _ ∧ _)
    clear g1 g2 hrun p1 p2 p3 H6 X5
    go_wp2_with (at_builtin; refine wpList_append_run (by rfl) (.tmp 51) (.tmp 54) 31 rfl _ _ _ _ rfl rfl HRun.out ?_)
    clear HRun
    refine (H7.out _ _ X6.out.1).mono ?_
    rintro e w8 ⟨rfl, g1, g2⟩
    obtain ⟨v9, w9, hrun, p1, p2, p3⟩ := g1.push (X6.out.2.1.trans g2) rfl HBw.out (X6.out.2.2.fr g2) (by simp) bz
    have HRun := Lib.hid hrun
    have X7 := Lib.hid (⟨p1.less With.base, p2, p3⟩ : _ ∧ _ ∧ _)
    clear g1 g2 hrun p1 p2 p3 H7 X6
    go_wp2_with (at_builtin; refine wpList_append_run (by rfl) (.tmp 56) (.tmp 59) 31 rfl _ _ _ _ rfl rfl HRun.out ?_)
    clear HRun
    refine (H8.out _ _ X7.out.1).mono ?_
    rintro e w10 ⟨rfl, g1, g2⟩
    have hw1 := hw (by have := g1.ol; simpa using this)
    obtain ⟨b8, cap8, la8, ln8, lc8, -, -, -, -, -, d3, -, -, f8, lp8, -⟩ := g1.reads
    simp only at d3
    have f3 := f8 3
    obtain ⟨k1, k2⟩ := HSh.out w10 _ g1
    have X8 := Lib.hid (⟨k1, (X7.out.2.1.trans g2).trans k2, kids_row ((X7.out.2.2.fr g2).fr k2)⟩ : _ ∧ _ ∧ _)
    clear g1 g2 k1 k2 H8 X7 HSh f8 hw
    go_wp2_with fail
    have H11 := Lib.hid (H10.out _ _ _ X8.out.1 X8.out.2.2)
    refine (H11.out).mono ?_
    rintro e w11 ⟨rfl, g1, g2⟩
    have HE := Lib.hid (⟨g1, X8.out.2.1.trans g2⟩ : _ ∧ _)
    clear g1 g2
    go_wp2_with fail
    go_ret
    exact ⟨rfl, HE.out⟩
theorem stat_some {T : List Tok} {F : Fns} {st st' : PS} {z : Int} (h : (stepF T F).stat st = some (z, st')) :
    (∃ s1 v s2 d s3 q s4 e s5, takeP T wLocal st = some (true, s1) ∧ varP T s1 = some (v, s2) ∧ typedP T s2 = some (d, s3) ∧ takeP T sEq s3 = some (q, s4) ∧ ((q = true ∧ F.chain 1 s4 = some (e, s5)) ∨ (q = false ∧ noneP s4 = some (e, s5))) ∧ nodeP 4 v.text (cur T st).lo [d, e] s5 = some (z, st')) ∨
    (isP T wLocal st = false ∧ isP T wFunction st = true ∧ F.function (cur T st).lo st = some (z, st')) ∨
    (isP T wLocal st = false ∧ isP T wFunction st = false ∧ isP T wIf st = true ∧ ∃ p s1, needP T wIf st = some (p, s1) ∧ F.cond (cur T st).lo s1 = some (z, st')) := by
  simp only [stepF] at h
  split at h
  · rename_i h1
    rw [Option.bind_eq_some_iff] at h
    obtain ⟨s1, hs1, h⟩ := h
    rw [Option.bind_eq_some_iff] at h
    obtain ⟨⟨v, s2⟩, h2, h⟩ := h
    rw [Option.bind_eq_some_iff] at h
    obtain ⟨⟨d, s3⟩, h3, h⟩ := h
    rw [Option.bind_eq_some_iff] at h
    obtain ⟨⟨q, s4⟩, h4, h⟩ := h
    rw [Option.bind_eq_some_iff] at h
    obtain ⟨⟨e, s5⟩, h5, h⟩ := h
    refine .inl ⟨s1, v, s2, d, s3, q, s4, e, s5, ?_, h2, h3, h4, ?_, h⟩
    · unfold takeP
      rw [if_pos h1, hs1]
      rfl
    · cases q
      · exact .inr ⟨rfl, h5⟩
      · exact .inl ⟨rfl, h5⟩
  · rename_i h1
    split at h
    · rename_i h2
      exact .inr (.inl ⟨by simpa using h1, h2, h⟩)
    · rename_i h2
      split at h
      · rename_i h3
        rw [Option.bind_eq_some_iff] at h
        obtain ⟨⟨p, s1⟩, h4, h⟩ := h
        exact .inr (.inr ⟨by simpa using h1, by simpa using h2, h3, p, s1, h4, h⟩)
      · cases h
end ParD
end Go.Proofs.YtmdkocegnbcgmaaGreatDoor
namespace Go.Proofs.YtmdkocegnbcgmaaGreatDoor
open Go.RowKit ObjM RoundM
namespace ParD
open TreeD (Nd builtinV)
open LexD (Tok)

set_option maxRecDepth 100000 in
set_option maxHeartbeats 16000000 in
theorem stat_any (T : List Tok) (F : Fns) (hE : Does T 85 (F.chain 1)) (hF : DoesN T 88 F.function) (hC : DoesN T 89 F.cond) : Does T 58 (stepF T F).stat := by
  intro B P A tv st st' z w h hM
  have HW := Lib.hid (⟨fun n => h.drewN n, fun n => (Fr.refl B w).drewN n⟩ : (∀ n, PAt (w.drewN n) B P T A tv st) ∧ (∀ n, Fr B w (w.drewN n)))
  rcases stat_some hM with ⟨s1, v, s2, d, s3, q, s4, ev, s5, h1, h2, h3, h4, h5, h6⟩ | ⟨h1, h2, h3⟩ | ⟨h1, h2, h3, p, s1, h4, h5⟩
  · have H1 := Lib.hid (fun W (hp : PAt W B P T A tv st) => take_any B P T A tv st s1 wLocal true W hp h1)
    have H2 := Lib.hid (fun W (hp : PAt W B P T A tv s1) => variable_any B P T A tv s1 s2 v W hp h2)
    have H3 := Lib.hid (fun W hp => typed_any T B P A tv s2 s3 d W hp h3)
    have H4 := Lib.hid (fun W (hp : PAt W B P T A tv s3) => take_any B P T A tv s3 s4 sEq q W hp h4)
    have H5 := Lib.hid h5
    have H6 := Lib.hid (fun W kv (hp : PAt W B P T A tv s5) (hk : TreeD.KidsAt W kv [d, ev]) => node_any B P T A tv s5 st' 4 v.text (cur T st).lo kv [d, ev] z W hp hk (by simp) h6)
    obtain ⟨b, cap, la, ln, lc, rfl, -, c0, c1, c2, c3, c4, c5, f, lp, t0, t1, t2, t3, t4, lb, ne, li, l0, ls⟩ := h.reads
    generalize cur T st = t at t0 t1 t2 t3 t4 H6
    generalize st.i = i at c1 t0 t1 t2 t3 t4 li l0 ls
    unfold wLocal at H1
    unfold sEq at H4
    unfold tokA at H2
    clear c2 c3 c4 c5 f h hM h1 h2 h3 h4 h5 h6
    go_enter Tryz.func58, Tryz.ntmps58
    go_wp2
    go_quiet (fail)
    go_wp2_with fail
    refine (H1.out _ (HW.out.1 _)).mono ?_
    rintro e w1 ⟨rfl, g1, g2⟩
    have X1 := Lib.hid (⟨g1, (HW.out.2 _).trans g2⟩ : _ ∧ _)
    clear g1 g2 H1 HW
    go_wp2_with fail
    refine (H2.out _ X1.out.1).mono ?_
    rintro e w2 ⟨rfl, g1, g2⟩
    have HY : Hid (Boxed B w (w2.alloc (.cells #[.int .i64 v.kind, .string v.text, .int .i64 v.lo, .int .i64 v.hi, .int .i64 v.n] 57)) P T A (.slice (some ⟨b, 0, none⟩) T.length cap) s2 w2.heap.size v) := Lib.hid ⟨g1.alloc _, (X1.out.2.trans g2).alloc g1.bw _, Has.new w2 57 [.int .i64 v.kind, .string v.text, .int .i64 v.lo, .int .i64 v.hi, .int .i64 v.n]⟩
    clear g1 g2 H2 X1
    go_wp2_with fail
    refine (H3.out _ HY.out.p).mono ?_
    rintro e w3 ⟨rfl, g1, g2⟩
    have HZ := Lib.hid (HY.out.next g1 g2)
    clear g1 g2 H3 HY
    go_wp2_with fail
    refine (H4.out _ HZ.out.p).mono ?_
    rintro e w4 ⟨rfl, g1, g2⟩
    have HV := Lib.hid (HZ.out.next g1 g2)
    clear g1 g2 H4 HZ
    rcases H5.out with ⟨rfl, hy⟩ | ⟨rfl, hy⟩
    · have H7 := Lib.hid (hE B P A _ s4 s5 ev _ HV.out.p hy)
      clear H5 hy
      go_wp2_with fail
      refine (H7.out).mono ?_
      rintro e w5 ⟨rfl, g1, g2⟩
      have HU := Lib.hid (HV.out.next g1 g2)
      have x1 := HU.out.h.cell 1
      have xl := HU.out.h.lt
      simp only [List.getElem?_cons_zero, List.getElem?_cons_succ] at x1
      clear g1 g2 H7 HV
      go_wp2_with fail
      refine (H6.out _ _ (HU.out.p.alloc _) (kids_new w5 [d, ev] 2 2 rfl)).mono ?_
      rintro e w6 ⟨rfl, g1, g2⟩
      have HE := Lib.hid (⟨g1, (HU.out.f.alloc HU.out.p.bw _).trans g2⟩ : _ ∧ _)
      clear g1 g2
      go_wp2_with fail
      go_ret
      exact ⟨rfl, HE.out⟩
    · have H7 := Lib.hid (none_any B P T A _ s4 s5 ev _ HV.out.p hy)
      clear H5 hy
      go_wp2_with fail
      refine (H7.out).mono ?_
      rintro e w5 ⟨rfl, g1, g2⟩
      have HU := Lib.hid (HV.out.next g1 g2)
      have x1 := HU.out.h.cell 1
      have xl := HU.out.h.lt
      simp only [List.getElem?_cons_zero, List.getElem?_cons_succ] at x1
      clear g1 g2 H7 HV
      go_wp2_with fail
      refine (H6.out _ _ (HU.out.p.alloc _) (kids_new w5 [d, ev] 2 2 rfl)).mono ?_
      rintro e w6 ⟨rfl, g1, g2⟩
      have HE := Lib.hid (⟨g1, (HU.out.f.alloc HU.out.p.bw _).trans g2⟩ : _ ∧ _)
      clear g1 g2
      go_wp2_with fail
      go_ret
      exact ⟨rfl, HE.out⟩
  · have H1 := Lib.hid (fun W (hp : PAt W B P T A tv st) => take_any B P T A tv st st wLocal false W hp (take_no h1))
    have H2 := Lib.hid (fun W (hp : PAt W B P T A tv st) => is_any B P T A tv st wFunction W hp)
    rw [h2] at H2
    have H3 := Lib.hid (fun W hp => hF B P A tv st st' (cur T st).lo z W hp h3)
    obtain ⟨b, cap, la, ln, lc, rfl, -, c0, c1, c2, c3, c4, c5, f, lp, t0, t1, t2, t3, t4, lb, ne, li, l0, ls⟩ := h.reads
    generalize cur T st = t at t0 t1 t2 t3 t4 H3
    generalize st.i = i at c1 t0 t1 t2 t3 t4 li l0 ls
    unfold wLocal at H1
    unfold wFunction at H2
    clear c2 c3 c4 c5 f h hM h1 h2 h3
    go_enter Tryz.func58, Tryz.ntmps58
    go_wp2
    go_quiet (fail)
    go_wp2_with fail
    refine (H1.out _ (HW.out.1 _)).mono ?_
    rintro e w1 ⟨rfl, g1, g2⟩
    have X1 := Lib.hid (⟨g1, (HW.out.2 _).trans g2⟩ : _ ∧ _)
    clear g1 g2 H1 HW
    go_wp2_with fail
    refine (H2.out _ X1.out.1).mono ?_
    rintro e w2 ⟨rfl, m, hm⟩
    have X2 := Lib.hid (⟨X1.out.1.drewN m, X1.out.2.drewN m⟩ : _ ∧ _)
    rw [← hm] at X2
    clear hm H2 X1
    go_wp2_with fail
    refine (H3.out _ X2.out.1).mono ?_
    rintro e w3 ⟨rfl, g1, g2⟩
    have HE := Lib.hid (⟨g1, X2.out.2.trans g2⟩ : _ ∧ _)
    clear g1 g2
    go_wp2_with fail
    go_ret
    exact ⟨rfl, HE.out⟩
  · have H1 := Lib.hid (fun W (hp : PAt W B P T A tv st) => take_any B P T A tv st st wLocal false W hp (take_no h1))
    have H2 := Lib.hid (fun W (hp : PAt W B P T A tv st) => is_any B P T A tv st wFunction W hp)
    rw [h2] at H2
    have H3 := Lib.hid (fun W (hp : PAt W B P T A tv st) => is_any B P T A tv st wIf W hp)
    rw [h3] at H3
    have H4 := Lib.hid (fun W (hp : PAt W B P T A tv st) => need_any B P T A tv st s1 wIf p W hp h4)
    have H5 := Lib.hid (fun W hp => hC B P A tv s1 st' (cur T st).lo z W hp h5)
    obtain ⟨b, cap, la, ln, lc, rfl, -, c0, c1, c2, c3, c4, c5, f, lp, t0, t1, t2, t3, t4, lb, ne, li, l0, ls⟩ := h.reads
    generalize cur T st = t at t0 t1 t2 t3 t4 H5
    generalize st.i = i at c1 t0 t1 t2 t3 t4 li l0 ls
    unfold wLocal at H1
    unfold wFunction at H2
    unfold wIf at H3 H4
    clear c2 c3 c4 c5 f h hM h1 h2 h3 h4 h5
    go_enter Tryz.func58, Tryz.ntmps58
    go_wp2
    go_quiet (fail)
    go_wp2_with fail
    refine (H1.out _ (HW.out.1 _)).mono ?_
    rintro e w1 ⟨rfl, g1, g2⟩
    have X1 := Lib.hid (⟨g1, (HW.out.2 _).trans g2⟩ : _ ∧ _)
    clear g1 g2 H1 HW
    go_wp2_with fail
    refine (H2.out _ X1.out.1).mono ?_
    rintro e w2 ⟨rfl, m, hm⟩
    have X2 := Lib.hid (⟨X1.out.1.drewN m, X1.out.2.drewN m⟩ : _ ∧ _)
    rw [← hm] at X2
    clear hm H2 X1
    go_wp2_with fail
    refine (H3.out _ X2.out.1).mono ?_
    rintro e w3 ⟨rfl, m, hm⟩
    have X3 := Lib.hid (⟨X2.out.1.drewN m, X2.out.2.drewN m⟩ : _ ∧ _)
    rw [← hm] at X3
    clear hm H3 X2
    go_wp2_with fail
    refine (H4.out _ X3.out.1).mono ?_
    rintro e w4 ⟨rfl, g1, g2⟩
    have X4 := Lib.hid (⟨g1, X3.out.2.trans g2⟩ : _ ∧ _)
    clear g1 g2 H4 X3
    go_wp2_with fail
    refine (H5.out _ X4.out.1).mono ?_
    rintro e w5 ⟨rfl, g1, g2⟩
    have HE := Lib.hid (⟨g1, X4.out.2.trans g2⟩ : _ ∧ _)
    clear g1 g2
    go_wp2_with fail
    go_ret
    exact ⟨rfl, HE.out⟩
/-- All that calls itself does what is said of it. -/
structure AllDo (T : List Tok) (F : Fns) : Prop where
  chain : DoesC T F.chain
  unary : Does T 120 F.unary
  suffixed : Does T 101 F.suffixed
  prim : Does T 124 F.prim
  block : Does T 31 F.block
  last : Does T 57 F.last
  stat : Does T 58 F.stat
  function : DoesN T 88 F.function
  cond : DoesN T 89 F.cond
  body : DoesN T 100 F.body
theorem all_do (T : List Tok) : ∀ n, AllDo T (ParD.F T n)
  | 0 => ⟨fun _ _ _ _ _ _ _ _ _ _ _ hM => (nomatch hM), fun _ _ _ _ _ _ _ _ _ hM => (nomatch hM), fun _ _ _ _ _ _ _ _ _ hM => (nomatch hM), fun _ _ _ _ _ _ _ _ _ hM => (nomatch hM), fun _ _ _ _ _ _ _ _ _ hM => (nomatch hM), fun _ _ _ _ _ _ _ _ _ hM => (nomatch hM), fun _ _ _ _ _ _ _ _ _ hM => (nomatch hM), fun _ _ _ _ _ _ _ _ _ _ hM => (nomatch hM), fun _ _ _ _ _ _ _ _ _ _ hM => (nomatch hM), fun _ _ _ _ _ _ _ _ _ _ hM => (nomatch hM)⟩
  | n + 1 => by
    have ih := all_do T n
    have hx := expr_any T (ParD.F T n) ih.chain
    exact ⟨chain_any T _ ih.unary ih.chain, unary_any T _ ih.suffixed, suffixed_any T _ ih.prim, fun B P A tv st st' z w h hM => prim_any _ B P T A tv st st' z w h hM, block_any T _ ih.last ih.stat, last_any T _ hx, stat_any T _ hx ih.function ih.cond, function_any T _ ih.body, cond_any T _ hx ih.block, body_any T _ ih.block⟩
end ParD
end Go.Proofs.YtmdkocegnbcgmaaGreatDoor
namespace Go.Proofs.YtmdkocegnbcgmaaGreatDoor
open Go.RowKit ObjM Go.Maps
namespace ScD
open TreeD (Nd NdsAt)
open ParD (Row)

/-- Block m is a map of names. -/
def MapIs (w : World) (m N : Nat) (f : Sees) : Prop := ∃ (n : Nat) (D : DataW Unit), n ≤ N ∧ w.ownsMap Tryz.prog 9 (plainElem Tryz.prog 3) m n D ∧ ∀ k : List UInt8, Maps.has D (.string k) = (f k).isSome ∧ D.atKey (.string k) (.lit (.int .i64 0)) = .lit (.int .i64 (((f k).getD 0 : Nat) : Int))
theorem MapIs.block {w w' : World} {m N : Nat} {f : Sees} (h : MapIs w m N f) (hk : w'.heap[m]? = w.heap[m]?) : MapIs w' m N f := by
  obtain ⟨n, D, hn, ⟨es, cl, hb, h3⟩, hq⟩ := h
  exact ⟨n, D, hn, ⟨es, cl, hk.trans hb, h3⟩, hq⟩
theorem MapIs.mono {w : World} {m N M : Nat} {f : Sees} (h : MapIs w m N f) (hN : N ≤ M) : MapIs w m M f := by
  obtain ⟨n, D, hn, r⟩ := h
  exact ⟨n, D, Nat.le_trans hn hN, r⟩
theorem MapIs.lt {w : World} {m N : Nat} {f : Sees} (h : MapIs w m N f) : m < w.heap.size := by
  obtain ⟨n, D, _, hD, _⟩ := h
  exact hD.lt
theorem MapIs.ne {w : World} {m N G : Nat} {f : Sees} {t : TypeId} {cs : List Value} (h : MapIs w m N f) (hG : Has w G t cs) : m ≠ G := by
  obtain ⟨n, D, _, ⟨es, cl, hb, _⟩, _⟩ := h
  rintro rfl
  rw [show w.heap[m]? = _ from hG] at hb
  cases hb
theorem MapIs.new (w : World) (N : Nat) : MapIs (w.alloc (.map #[] 0)) w.heap.size N noSees :=
  ⟨0, _, Nat.zero_le _, World.ownsMap_made w _ _ _, fun _ => ⟨rfl, rfl⟩⟩
theorem MapIs.look {w : World} {m N : Nat} {f : Sees} (h : MapIs w m N f) (s : ByteArray) (hs : s.size ≤ 140737488355328) :
    (Instr.lookup 102 (.map (some m)) (.string s) true).run Tryz.prog w = .ok (.tuple #[.int .i64 (((f s.data.toList).getD 0 : Nat) : Int), .bool (f s.data.toList).isSome]) w := by
  obtain ⟨n, D, _, hD, hq⟩ := h
  obtain ⟨h1, h2⟩ := hq s.data.toList
  obtain ⟨u, ps, hrun, hu⟩ := hD.look_ok LexD.keyedStr Tryz.underlying102 (LexD.zeroInt w) (plainElem_int Tryz.underlying3 (by decide)) (LexD.key_str s hs)
  rw [show LexD.key8 s = s.data.toList from rfl, h2] at hu
  obtain ⟨a, rfl, hz, _⟩ := plainElem_int_inv Tryz.underlying3 hu
  simp at hz
  rw [hrun, show LexD.key8 s = s.data.toList from rfl, h1, hz.1]
theorem MapIs.put {w : World} {m N : Nat} {f : Sees} (h : MapIs w m N f) (hN : N ≤ 1000000) (s : ByteArray) (hs : s.size ≤ 140737488355328) (v : Nat) (hv : v ≤ 1000000) :
    ∃ w', (Instr.mapUpdate 102 (.map (some m)) (.string s) (.int .i64 (v : Int))).run Tryz.prog w = .ok () w' ∧ w.mapTurned w' m ∧ MapIs w' m (N + 1) (f.put s v) := by
  obtain ⟨n, D, hn, hD, hq⟩ := h
  have hkl := LexD.key_str s hs
  obtain ⟨w', hrun, hD', hm⟩ := hD.store LexD.keyedStr Tryz.underlying102 (by unfold maxLen; omega) hkl (plainElem_int Tryz.underlying3 (LexD.wf_i64 (n := (v : Int)) ⟨by omega, by omega⟩))
  refine ⟨w', hrun, hm, _, _, by omega, hD', fun k => ?_⟩
  have hmap := hD.isMap
  have hkk := LexD.keyedStr.key hkl
  unfold Sees.put
  by_cases e : k = s.data.toList
  · subst e
    rw [if_pos rfl]
    exact ⟨Maps.has_put_same hmap hkk _, Maps.atKey_put_same hmap hkk _ _⟩
  · have hne : (Lit.string k) ≠ Lit.string (LexD.key8 s) := fun h9 => e (by injection h9)
    obtain ⟨h1, h2⟩ := hq k
    rw [if_neg e, Maps.has_put_other hne, Maps.atKey_put_other hne]
    exact ⟨h1, h2⟩
end ScD
end Go.Proofs.YtmdkocegnbcgmaaGreatDoor
namespace Go.Proofs.YtmdkocegnbcgmaaGreatDoor
open Go.RowKit ObjM Go.Maps
namespace ScD
open TreeD (Nd NdsAt)
open ParD (Row addrP info_partsP infoIntP)

/-- Objects of other types are as they were. -/
def KpC (ts : List TypeId) (w w' : World) : Prop := ∀ G t cs, t ∉ ts → Has w G t cs → Has w' G t cs
theorem KpC.refl (ts : List TypeId) (w : World) : KpC ts w w := fun _ _ _ _ h => h
theorem KpC.trans {ts : List TypeId} {a b c : World} (h : KpC ts a b) (k : KpC ts b c) : KpC ts a c := fun G t cs ht hh => k G t cs ht (h G t cs ht hh)
theorem KpC.of {ts us : List TypeId} {a b : World} (h : KeepsT us a b) (hu : ∀ x ∈ us, x ∈ ts) : KpC ts a b := fun _ t _ ht hh => hh.keepsT h fun hm => ht (hu t hm)
theorem KpC.keeps {ts : List TypeId} {a b : World} {S : List Nat} (h : Keeps S a b) (hS : ∀ G ∈ S, (∃ t cs, Has a G t cs ∧ t ∈ ts) ∨ ∀ t cs, ¬ Has a G t cs) : KpC ts a b := fun K u ds hu hh => hh.keeps h (by
  intro hm
  rcases hS K hm with ⟨t, cs, hG, ht⟩ | hn
  · exact hh.ne hG (by rintro rfl; exact hu ht) rfl
  · exact hn _ _ hh)
/-- What a call of the finder leaves as it was. -/
structure Fs (w0 w w' : World) : Prop where
  k : KpC [69, 38, 3, 102] w w'
  b : Below w0.heap.size w w'
theorem Fs.refl (w0 w : World) : Fs w0 w w := ⟨KpC.refl _ _, Below.refl _ _⟩
theorem Fs.trans {w0 a b c : World} (h : Fs w0 a b) (k : Fs w0 b c) : Fs w0 a c := ⟨h.k.trans k.k, h.b.trans k.b⟩
theorem Fs.below {w0 a b : World} (h : Below a.heap.size a b) (h0 : w0.heap.size ≤ a.heap.size) : Fs w0 a b := ⟨KpC.of (KeepsT.below h []) (by simp), h.mono h0⟩
theorem Fs.drew {w0 a b : World} (h : Fs w0 a b) : Fs w0 a b.drew := ⟨h.k, h.b.drew⟩
theorem Fs.drewN {w0 a b : World} (h : Fs w0 a b) (n : Nat) : Fs w0 a (b.drewN n) := ⟨h.k, _root_.Go.below_drewN h.b n⟩
theorem Fs.keeps {w0 a b : World} {S : List Nat} (h : Keeps S a b) (h0 : w0.heap.size ≤ a.heap.size) (hS : ∀ G ∈ S, w0.heap.size ≤ G ∧ ((∃ t cs, Has a G t cs ∧ t ∈ [69, 38, 3, 102]) ∨ ∀ t cs, ¬ Has a G t cs)) : Fs w0 a b :=
  ⟨KpC.keeps h fun G hG => (hS G hG).2, h.toBelow _ h0 fun G hG => (hS G hG).1⟩
def rowVr (vs : List (Int × Int × Bool)) : List Value := vs.flatMap fun x => [.int .i64 x.1, .int .i64 x.2.1, .bool x.2.2, .bool false]
theorem rowVr_len (vs : List (Int × Int × Bool)) : (rowVr vs).length = vs.length * 4 := by
  induction vs with
  | nil => rfl
  | cons a r ih => simp [rowVr] at ih ⊢; omega
theorem rowVr_snoc (vs : List (Int × Int × Bool)) (x : Int × Int × Bool) : rowVr (vs ++ [x]) = rowVr vs ++ [.int .i64 x.1, .int .i64 x.2.1, .bool x.2.2, .bool false] := by simp [rowVr]
/-- The finder's parts. -/
structure FOb (w0 W : World) (G : Nat) (lv : Value) (st : FSt) (vv v0 v1 v2 v3 bv : Value) (ms : List Nat) : Prop where
  obj : Has W G 69 [lv, vv, v0, v1, v2, bv, .int .i64 (st.fn : Int), v3, .int .i64 0]
  vars : W.ownsRow w0.heap.size 38 4 vv st.vars.length (rowVr st.vars)
  r0 : Row W w0.heap.size v0 st.uses
  r1 : Row W w0.heap.size v1 st.funcs
  r2 : Row W w0.heap.size v2 st.ups
  r3 : Row W w0.heap.size v3 st.counts
  d01 : ∀ g, v0.ownBlock = some g → v1.ownBlock ≠ some g
  d02 : ∀ g, v0.ownBlock = some g → v2.ownBlock ≠ some g
  d03 : ∀ g, v0.ownBlock = some g → v3.ownBlock ≠ some g
  d12 : ∀ g, v1.ownBlock = some g → v2.ownBlock ≠ some g
  d13 : ∀ g, v1.ownBlock = some g → v3.ownBlock ≠ some g
  d23 : ∀ g, v2.ownBlock = some g → v3.ownBlock ≠ some g
  row : W.ownsRow w0.heap.size 102 1 bv ms.length (ms.map fun m => .map (some m))
  mlen : ms.length = st.blocks.length
  maps : ∀ (i : Nat) m f, ms[i]? = some m → st.blocks[i]? = some f → w0.heap.size ≤ m ∧ MapIs W m st.puts f
  nd : ms.Nodup
structure FAt (w0 W : World) (G : Nat) (lv : Value) (l : List Nd) (st : FSt) : Prop where
  nds : NdsAt w0 lv l
  bel : Below w0.heap.size w0 W
  low : w0.heap.size ≤ G
  ob : ∃ vv v0 v1 v2 v3 bv ms, FOb w0 W G lv st vv v0 v1 v2 v3 bv ms
/-- Nothing that the finder has was written. -/
theorem FOb.below {w0 W W' : World} {G : Nat} {lv : Value} {st : FSt} {vv v0 v1 v2 v3 bv : Value} {ms : List Nat} (h : FOb w0 W G lv st vv v0 v1 v2 v3 bv ms) (k : Below W.heap.size W W') : FOb w0 W' G lv st vv v0 v1 v2 v3 bv ms := by
  have kT : KeepsT [] W W' := KeepsT.below k _
  exact ⟨h.obj.keepsT kT (by simp), own_keepsT h.vars kT (by simp), h.r0.keepsT kT (by simp), h.r1.keepsT kT (by simp), h.r2.keepsT kT (by simp), h.r3.keepsT kT (by simp), h.d01, h.d02, h.d03, h.d12, h.d13, h.d23, own_keepsT h.row kT (by simp), h.mlen, fun i m f hm hf => ⟨(h.maps i m f hm hf).1, (h.maps i m f hm hf).2.block (k.block m (h.maps i m f hm hf).2.lt)⟩, h.nd⟩
theorem FAt.below {w0 W W' : World} {G : Nat} {lv : Value} {l : List Nd} {st : FSt} (h : FAt w0 W G lv l st) (k : Below W.heap.size W W') : FAt w0 W' G lv l st := by
  obtain ⟨vv, v0, v1, v2, v3, bv, ms, ho⟩ := h.ob
  exact ⟨h.nds, h.bel.trans (k.mono h.bel.size), h.low, vv, v0, v1, v2, v3, bv, ms, ho.below k⟩
theorem FAt.drew {w0 W : World} {G : Nat} {lv : Value} {l : List Nd} {st : FSt} (h : FAt w0 W G lv l st) : FAt w0 W.drew G lv l st := h.below (Below.refl _ _).drew
theorem FAt.drewN {w0 W : World} {G : Nat} {lv : Value} {l : List Nd} {st : FSt} (h : FAt w0 W G lv l st) (n : Nat) : FAt w0 (W.drewN n) G lv l st := h.below (_root_.Go.below_drewN (Below.refl _ _) n)
theorem FAt.alloc {w0 W : World} {G : Nat} {lv : Value} {l : List Nd} {st : FSt} (h : FAt w0 W G lv l st) (o : Obj) : FAt w0 (W.alloc o) G lv l st := h.below ((Below.refl _ _).alloc (Nat.le_refl _) _)
/-- A cell of a row of numbers is written. -/
theorem Row.set {W : World} {B g : Nat} {n c : Nat} {zs : List Int} (h : Row W B (.slice (some ⟨g, 0, none⟩) n c) zs) (i : Nat) (_hi : i < zs.length) (z : Int) : Row (W.setCell ⟨g, i, none⟩ (.int .i64 z)) B (.slice (some ⟨g, 0, none⟩) n c) (zs.set i z) := by
  unfold Row at *
  rcases own_shape h with ⟨e, -, -⟩ | ⟨g', cap, cs, e, hB, hh, hnc, hcm, hcl, htk⟩
  · cases e
  · injection e with e1 e2 e3
    injection e1 with e1
    injection e1 with e1
    subst e1 e2 e3
    rw [List.length_set]
    refine own_of hB (hh.set i _) hnc hcm (by rw [List.length_set]; exact hcl) ?_
    rw [List.map_set, ← htk, List.take_set]
/-- What other blocks there are than one of numbers, or of names. -/
theorem FOb.set {w0 W W' : World} {G : Nat} {lv : Value} {st st' : FSt} {vv v0 v1 v2 v3 bv : Value} {ms : List Nat} (h : FOb w0 W G lv st vv v0 v1 v2 v3 bv ms) (k : KeepsT [3] W W') (hm : ∀ m ∈ ms, W'.heap[m]? = W.heap[m]?)
    (e1 : st'.vars = st.vars) (e2 : st'.fn = st.fn) (e3 : st'.blocks = st.blocks) (e4 : st'.puts = st.puts) (h0 : Row W' w0.heap.size v0 st'.uses) (h1 : Row W' w0.heap.size v1 st'.funcs) (h2 : Row W' w0.heap.size v2 st'.ups) (h3 : Row W' w0.heap.size v3 st'.counts) : FOb w0 W' G lv st' vv v0 v1 v2 v3 bv ms := by
  refine ⟨?_, ?_, h0, h1, h2, h3, h.d01, h.d02, h.d03, h.d12, h.d13, h.d23, own_keepsT h.row k (by decide +kernel), by rw [e3]; exact h.mlen, fun i m f hi hf => ?_, h.nd⟩
  · rw [e2]
    exact h.obj.keepsT k (by decide +kernel)
  · rw [e1]
    exact own_keepsT h.vars k (by decide +kernel)
  · rw [e3] at hf
    obtain ⟨q1, q2⟩ := h.maps i m f hi hf
    rw [e4]
    exact ⟨q1, q2.block (hm m (List.mem_of_getElem? hi))⟩
end ScD
end Go.Proofs.YtmdkocegnbcgmaaGreatDoor
namespace Go.Proofs.YtmdkocegnbcgmaaGreatDoor
open Go.RowKit ObjM Go.Maps
namespace ScD
open TreeD (Nd NdsAt)
open ParD (Row addrP info_partsP infoIntP)

theorem row_get {W : World} {B : Nat} {v : Value} {zs : List Int} {i : Nat} {c : Int} (h : Row W B v zs) (hc : zs[i]? = some c) : ∃ g k, v = .slice (some ⟨g, 0, none⟩) zs.length k ∧ B ≤ g ∧ (∃ cs, Has W g 3 cs) ∧ W.cell? ⟨g, i, none⟩ = some (.int .i64 c) ∧ i < zs.length := by
  have hi := (List.getElem?_eq_some_iff.1 hc).1
  rcases own_shape h with ⟨-, e, -⟩ | ⟨g, cap, cs, rfl, hB, hh, hnc, hcm, hcl, htk⟩
  · omega
  · refine ⟨g, cap, rfl, hB, ⟨cs, hh⟩, ?_, hi⟩
    have := own_cell h i (by simpa using hi)
    rw [this, List.getElem_map]
    rw [List.getElem?_eq_getElem hi] at hc
    injection hc with hc
    rw [hc]
/-- A block of numbers is written in one cell. -/
theorem FOb.cell {w0 W : World} {G : Nat} {lv : Value} {st : FSt} {vv v0 v1 v2 v3 bv : Value} {ms : List Nat} (h : FOb w0 W G lv st vv v0 v1 v2 v3 bv ms) {g : Nat} (hg : ∃ cs, Has W g 3 cs) (i : Nat) (z : Int) : KeepsT [3] W (W.setCell ⟨g, i, none⟩ (.int .i64 z)) ∧ (∀ m ∈ ms, (W.setCell ⟨g, i, none⟩ (.int .i64 z)).heap[m]? = W.heap[m]?) ∧ (∀ v zs, Row W w0.heap.size v zs → v.ownBlock ≠ some g → Row (W.setCell ⟨g, i, none⟩ (.int .i64 z)) w0.heap.size v zs) := by
  obtain ⟨cs, hh⟩ := hg
  refine ⟨(KeepsT.refl _ W).set hh (.inl (by simp)) i _, fun m hm => ?_, fun v zs hr hne => own_keeps hr (Keeps.set W g i _) (fun g' hg' hm => ?_)⟩
  · obtain ⟨j, hj⟩ := List.getElem?_of_mem hm
    have hlt : j < st.blocks.length := by rw [← h.mlen]; exact (List.getElem?_eq_some_iff.1 hj).1
    obtain ⟨-, q⟩ := h.maps j m _ hj (List.getElem?_eq_getElem hlt)
    exact (Keeps.set W g i (.int .i64 z)).block m q.lt (by have := q.ne hh; simpa using this)
  · have e : g' = g := by simpa using hm
    exact hne (e ▸ hg')
theorem fs_set {w0 W : World} {g i : Nat} {v : Value} {t : TypeId} {cs : List Value} (hb : Below w0.heap.size w0 W) (hg : w0.heap.size ≤ g) (hh : Has W g t cs) (ht : t ∈ [69, 38, 3, 102]) : Fs w0 W (W.setCell ⟨g, i, none⟩ v) ∧ Below w0.heap.size w0 (W.setCell ⟨g, i, none⟩ v) := by
  have k := Fs.keeps (w0 := w0) (Keeps.set W g i v) hb.size (fun x hx => by
    have e : x = g := by simpa using hx
    subst e
    exact ⟨hg, .inl ⟨t, cs, hh, ht⟩⟩)
  exact ⟨k, hb.trans k.b⟩
theorem FAt.count {w0 W : World} {G : Nat} {lv : Value} {l : List Nd} {st : FSt} {c : Int} (h : FAt w0 W G lv l st) (hc : st.counts[st.fn]? = some c) :
    ∃ g n k, W.cell? ⟨G, 7, none⟩ = some (.slice (some ⟨g, 0, none⟩) n k) ∧ W.cell? ⟨G, 6, none⟩ = some (.int .i64 (st.fn : Int)) ∧ W.cell? ⟨g, st.fn, none⟩ = some (.int .i64 c) ∧ W.frozen? ⟨g, st.fn, none⟩ = false ∧ g < W.heap.size ∧ G < W.heap.size ∧ g ≠ G ∧ (st.fn : Int) < (n : Int) ∧
      ∀ z, FAt w0 (W.setCell ⟨g, st.fn, none⟩ (.int .i64 z)) G lv l { st with counts := st.counts.set st.fn z } ∧ Fs w0 W (W.setCell ⟨g, st.fn, none⟩ (.int .i64 z)) := by
  obtain ⟨vv, v0, v1, v2, v3, bv, ms, ho⟩ := h.ob
  obtain ⟨g, k, e, hB, ⟨cs, hh⟩, hcell, hi⟩ := row_get ho.r3 hc
  subst e
  refine ⟨g, _, k, ho.obj.cell 7, ho.obj.cell 6, hcell, hh.frozen _, hh.lt, ho.obj.lt, fun e => (hh.ne ho.obj (by decide +kernel)) e, by omega, fun z => ?_⟩
  obtain ⟨k1, k2, k3⟩ := ho.cell ⟨cs, hh⟩ st.fn z
  obtain ⟨f1, f2⟩ := fs_set (i := st.fn) (v := .int .i64 z) h.bel hB hh (by simp)
  exact ⟨⟨h.nds, f2, h.low, vv, v0, v1, v2, _, bv, ms, ho.set k1 k2 rfl rfl rfl rfl (k3 _ _ ho.r0 (fun e => ho.d03 g e rfl)) (k3 _ _ ho.r1 (fun e => ho.d13 g e rfl)) (k3 _ _ ho.r2 (fun e => ho.d23 g e rfl)) (by simpa using Row.set ho.r3 st.fn hi z)⟩, f1⟩
theorem vars_shape {w0 W : World} {G : Nat} {lv : Value} {st : FSt} {vv v0 v1 v2 v3 bv : Value} {ms : List Nat} (h : FOb w0 W G lv st vv v0 v1 v2 v3 bv ms) : ∃ a c, vv = .slice a st.vars.length c := by
  rcases own_shape h.vars with ⟨rfl, e, -⟩ | ⟨g, cap, cs, rfl, -⟩
  · exact ⟨none, 0, by rw [e]⟩
  · exact ⟨_, _, rfl⟩
theorem FAt.useSet {w0 W : World} {G n : Nat} {lv : Value} {l : List Nd} {st : FSt} (h : FAt w0 W G lv l st) (hn : n < st.uses.length) :
    ∃ g m k va vc u, W.cell? ⟨G, 2, none⟩ = some (.slice (some ⟨g, 0, none⟩) m k) ∧ W.cell? ⟨G, 1, none⟩ = some (.slice va st.vars.length vc) ∧ W.cell? ⟨g, n, none⟩ = some u ∧ W.frozen? ⟨g, n, none⟩ = false ∧ g < W.heap.size ∧ G < W.heap.size ∧ g ≠ G ∧ (n : Int) < (m : Int) ∧
      ∀ z, FAt w0 (W.setCell ⟨g, n, none⟩ (.int .i64 z)) G lv l { st with uses := st.uses.set n z } ∧ Fs w0 W (W.setCell ⟨g, n, none⟩ (.int .i64 z)) := by
  obtain ⟨vv, v0, v1, v2, v3, bv, ms, ho⟩ := h.ob
  obtain ⟨va, vc, e⟩ := vars_shape ho
  subst e
  obtain ⟨g, k, e, hB, ⟨cs, hh⟩, hcell, hi⟩ := row_get ho.r0 (List.getElem?_eq_getElem hn)
  subst e
  refine ⟨g, _, k, va, vc, _, ho.obj.cell 2, ho.obj.cell 1, hcell, hh.frozen _, hh.lt, ho.obj.lt, fun e => (hh.ne ho.obj (by decide +kernel)) e, by omega, fun z => ?_⟩
  obtain ⟨k1, k2, k3⟩ := ho.cell ⟨cs, hh⟩ n z
  obtain ⟨f1, f2⟩ := fs_set (i := n) (v := .int .i64 z) h.bel hB hh (by simp)
  exact ⟨⟨h.nds, f2, h.low, _, _, v1, v2, v3, bv, ms, ho.set k1 k2 rfl rfl rfl rfl (by simpa using Row.set ho.r0 n hi z) (k3 _ _ ho.r1 (fun e => ho.d01 g rfl e)) (k3 _ _ ho.r2 (fun e => ho.d02 g rfl e)) (k3 _ _ ho.r3 (fun e => ho.d03 g rfl e))⟩, f1⟩
/-- A name is put into the innermost block. -/
theorem FAt.name {w0 W : World} {G : Nat} {lv : Value} {l : List Nd} {st : FSt} {f : Sees} (h : FAt w0 W G lv l st) (hf : st.blocks.getLast? = some f) (s : ByteArray) (hs : s.size ≤ 140737488355328) (hv : st.vars.length ≤ 1000000) (hp : st.puts ≤ 1000000) :
    ∃ g q k m va vc, W.cell? ⟨G, 5, none⟩ = some (.slice (some ⟨g, 0, none⟩) (q + 1) k) ∧ W.cell? ⟨g, q, none⟩ = some (.map (some m)) ∧ W.cell? ⟨G, 1, none⟩ = some (.slice va st.vars.length vc) ∧ g < W.heap.size ∧ G < W.heap.size ∧ q + 1 = st.blocks.length ∧
      ∃ W', (Instr.mapUpdate 102 (.map (some m)) (.string s) (.int .i64 (st.vars.length : Int))).run Tryz.prog W = .ok () W' ∧ FAt w0 W' G lv l { st with blocks := st.blocks.dropLast ++ [f.put s st.vars.length], puts := st.puts + 1 } ∧ Fs w0 W W' := by
  obtain ⟨vv, v0, v1, v2, v3, bv, ms, ho⟩ := h.ob
  obtain ⟨va, vc, e⟩ := vars_shape ho
  subst e
  obtain ⟨fs, hfs⟩ : ∃ fs, st.blocks = fs ++ [f] := by
    rcases List.eq_nil_or_concat st.blocks with e | ⟨fs, x, e⟩
    · rw [e] at hf
      cases hf
    · rw [e] at hf
      simp at hf
      exact ⟨fs, by rw [e, hf]; simp⟩
  have hml := ho.mlen
  have hbl : st.blocks.length = fs.length + 1 := by rw [hfs]; simp
  obtain ⟨m, hm⟩ : ∃ m, ms[fs.length]? = some m := ⟨_, List.getElem?_eq_getElem (by omega)⟩
  obtain ⟨hBm, hMap⟩ := ho.maps fs.length m f hm (by rw [hfs]; simp)
  rcases own_shape ho.row with ⟨-, e, -⟩ | ⟨g, cap, cs, rfl, hB, hh, hnc, hcm, hcl, htk⟩
  · omega
  have hrc : W.cell? ⟨g, fs.length, none⟩ = some (.map (some m)) := by
    have := own_cell ho.row fs.length (by simp; omega)
    rw [this, List.getElem_map]
    rw [List.getElem?_eq_getElem (by omega)] at hm
    injection hm with hm
    rw [hm]
  obtain ⟨W', hrun, hmt, hM'⟩ := hMap.put hp s hs st.vars.length hv
  have K : Keeps [m] W W' := by
    have := Keeps.grown hmt.grown
    simpa using this
  have hF : Fs w0 W W' := Fs.keeps K h.bel.size (fun x hx => by
    have e : x = m := by simpa using hx
    subst e
    exact ⟨hBm, .inr fun t cs hc => hMap.ne hc rfl⟩)
  have hne : ∀ {t : TypeId} {K : Nat} {cs : List Value}, Has W K t cs → K ∉ [m] := fun hK hx => hMap.ne hK (by have e := List.mem_singleton.1 hx; exact e.symm)
  have hno : ∀ {B : Nat} {t : TypeId} {sz n : Nat} {v : Value} {xs : List Value}, W.ownsRow B t sz v n xs → ∀ x, v.ownBlock = some x → x ∉ [m] := fun hr x hx => by
    obtain ⟨cs, hc⟩ := own_row hr x hx
    exact hne hc
  refine ⟨g, fs.length, cap, m, va, vc, by rw [ho.obj.cell 5, hml, hbl]; rfl, hrc, ho.obj.cell 1, hh.lt, ho.obj.lt, hbl.symm, W', hrun, ⟨h.nds, h.bel.trans hF.b, h.low, .slice va st.vars.length vc, v0, v1, v2, v3, .slice (some ⟨g, 0, none⟩) ms.length cap, ms, ?_⟩, hF⟩
  refine ⟨ho.obj.keeps K (hne ho.obj), own_keeps ho.vars K (hno ho.vars), own_keeps ho.r0 K (hno ho.r0), own_keeps ho.r1 K (hno ho.r1), own_keeps ho.r2 K (hno ho.r2), own_keeps ho.r3 K (hno ho.r3), ho.d01, ho.d02, ho.d03, ho.d12, ho.d13, ho.d23, own_keeps ho.row K (hno ho.row), ?_, ?_, ho.nd⟩
  · show ms.length = (st.blocks.dropLast ++ [f.put s st.vars.length]).length
    rw [hfs]
    simp
    omega
  · intro i m' f' hi hf'
    simp only [hfs, List.dropLast_concat] at hf'
    by_cases hlt : i < fs.length
    · rw [List.getElem?_append_left hlt] at hf'
      obtain ⟨q1, q2⟩ := ho.maps i m' f' hi (by rw [hfs, List.getElem?_append_left hlt]; exact hf')
      have hmm : m' ≠ m := by
        intro e
        subst e
        have h1 := (List.getElem?_eq_some_iff.1 hi).1
        have := (List.getElem?_inj h1 ho.nd).1 (hi.trans hm.symm)
        omega
      exact ⟨q1, (q2.block (K.block m' q2.lt (by simpa using hmm))).mono (Nat.le_succ _)⟩
    · rw [List.getElem?_append_right (by omega)] at hf'
      have hz := (List.getElem?_eq_some_iff.1 hf').1
      simp at hz
      have hi2 : i = fs.length := by omega
      subst hi2
      simp at hf'
      subst hf'
      rw [hm] at hi
      injection hi with hi
      subst hi
      exact ⟨hBm, hM'⟩
theorem infoVar : (Tryz.prog.info? 38).map (fun i => (i.zero, i.size, i.bytes)) = some (some (.agg #[.int .i64 0, .int .i64 0, .bool false, .bool false]), 4, 24) := by kernel_rfl
/-- A variable more. -/
theorem FAt.var {w0 W : World} {G : Nat} {lv : Value} {l : List Nd} {st : FSt} (h : FAt w0 W G lv l st) (hv : st.vars.length ≤ 1000000) (n : Nat) :
    ∃ va vc, W.cell? ⟨G, 1, none⟩ = some (.slice va st.vars.length vc) ∧ W.cell? ⟨G, 6, none⟩ = some (.int .i64 (st.fn : Int)) ∧ G < W.heap.size ∧
      ∃ v2 W2, (Builtin.append_ #[30, 30] 30 #[.slice va st.vars.length vc, .slice (some ⟨W.heap.size, 0, none⟩) 1 1]).run Tryz.prog (W.alloc (.cells #[.int .i64 (n : Int), .int .i64 (st.fn : Int), .bool false, .bool false] 38)) = .ok v2 W2 ∧
        (∃ a k m, v2 = .slice a k m) ∧ (∃ u, W2.cell? ⟨G, 1, none⟩ = some u) ∧ W2.frozen? ⟨G, 1, none⟩ = false ∧ G < W2.heap.size ∧
        FAt w0 (W2.setCell ⟨G, 1, none⟩ v2) G lv l { st with vars := st.vars ++ [((n : Int), (st.fn : Int), false)] } ∧ Fs w0 W (W2.setCell ⟨G, 1, none⟩ v2) := by
  obtain ⟨vv, v0, v1, v2, v3, bv, ms, ho⟩ := h.ob
  obtain ⟨va, vc, e⟩ := vars_shape ho
  subst e
  obtain ⟨i0, hi, hz0, hz1, hz2⟩ := info_partsP infoVar
  have hA := Has.new W 38 [.int .i64 (n : Int), .int .i64 (st.fn : Int), .bool false, .bool false]
  have hbs := h.bel.size
  obtain ⟨u2, W2, hrun, hrow, hg, -, hob⟩ := run_append_own_at (P := Tryz.prog) (w := W.alloc (.cells #[.int .i64 (n : Int), .int .i64 (st.fn : Int), .bool false, .bool false] 38)) w0.heap.size 30 30 38 i0 _ 4 24 Tryz.underlying30 hi hz0 hz1 hz2 rfl (by decide) _ st.vars.length (rowVr st.vars) (ho.vars.alloc _) ⟨W.heap.size, 0, none⟩ 1 1 [.int .i64 (n : Int), .int .i64 (st.fn : Int), .bool false, .bool false] rfl
    (fun j u hj => by
      rw [addrP, Nat.zero_add]
      exact (hA.cell j).trans hj)
    (by simp [Value.oneCell']) (by unfold maxLen; omega) (by omega) (by simp; omega)
  have kA : KeepsT [] W (W.alloc (.cells #[.int .i64 (n : Int), .int .i64 (st.fn : Int), .bool false, .bool false] 38)) := (KeepsT.refl _ _).alloc _
  have kG : KeepsT [38] W W2 := (kA.mono (by simp)).grown hg (fun g hgb => by
    obtain ⟨cs, hcs⟩ := own_row (ho.vars.alloc (.cells #[.int .i64 (n : Int), .int .i64 (st.fn : Int), .bool false, .bool false] 38)) g hgb
    exact .inr ⟨_, _, hcs, by simp⟩)
  have bG : Below w0.heap.size W W2 := ((Below.refl _ W).alloc hbs _).grown hg (by simp; omega) (fun g hgb => (own_lt ho.vars g hgb).1)
  have hG2 := ho.obj.keepsT kG (by decide +kernel)
  have kS : KeepsT [69, 38] W (W2.setCell ⟨G, 1, none⟩ u2) := (kG.mono (by simp)).set hG2 (.inl (by simp)) 1 u2
  have bS : Below w0.heap.size W (W2.setCell ⟨G, 1, none⟩ u2) := bG.setCell h.low _
  have kP : KeepsT [69] W2 (W2.setCell ⟨G, 1, none⟩ u2) := (KeepsT.refl _ W2).set hG2 (.inl (by simp)) 1 u2
  have hF : Fs w0 W (W2.setCell ⟨G, 1, none⟩ u2) := ⟨KpC.of kS (by simp), bS⟩
  have hsh : ∃ a k m, u2 = Value.slice a k m := by
    rcases own_shape hrow with ⟨-, e2, -⟩ | ⟨g, cap, cs, e2, -⟩
    · omega
    · exact ⟨_, _, _, e2⟩
  have hmap : ∀ m ∈ ms, (W2.setCell ⟨G, 1, none⟩ u2).heap[m]? = W.heap[m]? := by
    intro m hm
    obtain ⟨j, hj⟩ := List.getElem?_of_mem hm
    have hlt : j < st.blocks.length := by rw [← ho.mlen]; exact (List.getElem?_eq_some_iff.1 hj).1
    obtain ⟨-, q⟩ := ho.maps j m _ hj (List.getElem?_eq_getElem hlt)
    refine kS.block m q.lt (fun cs t fr hc _ => ?_)
    obtain ⟨n9, D, _, ⟨es, cl, hb9, _⟩, _⟩ := q
    rw [hb9] at hc
    cases hc
  refine ⟨va, vc, ho.obj.cell 1, ho.obj.cell 6, ho.obj.lt, u2, W2, hrun, hsh, ⟨_, hG2.cell 1⟩, hG2.frozen 1, hG2.lt, ⟨h.nds, h.bel.trans bS, h.low, u2, v0, v1, v2, v3, bv, ms, ?_⟩, hF⟩
  refine ⟨hG2.set 1 u2, ?_, ho.r0.keepsT kS (by decide +kernel), ho.r1.keepsT kS (by decide +kernel), ho.r2.keepsT kS (by decide +kernel), ho.r3.keepsT kS (by decide +kernel), ho.d01, ho.d02, ho.d03, ho.d12, ho.d13, ho.d23, own_keepsT ho.row kS (by decide +kernel), ho.mlen, fun i m f hi hf => ?_, ho.nd⟩
  · have := own_keepsT hrow kP (by decide +kernel)
    rw [show (st.vars ++ [((n : Int), (st.fn : Int), false)]).length = st.vars.length + 1 by simp, rowVr_snoc]
    exact this
  · obtain ⟨q1, q2⟩ := ho.maps i m f hi hf
    exact ⟨q1, q2.block (hmap m (List.mem_of_getElem? hi))⟩
end ScD
end Go.Proofs.YtmdkocegnbcgmaaGreatDoor
namespace Go.Proofs.YtmdkocegnbcgmaaGreatDoor
open Go.RowKit ObjM Go.Maps RoundM
namespace ScD
open TreeD (Nd NdsAt)
open ParD (Row addrP info_partsP infoIntP step_append_ex)

/-- What a method of the finder comes to. -/
def Did (w0 W : World) (G : Nat) (lv : Value) (l : List Nd) (st' : FSt) (e : Ending) (w' : World) : Prop := e = .returned (.tuple #[]) ∧ FAt w0 w' G lv l st' ∧ Fs w0 W w'
/-- A node's cells. -/
theorem nds_at {w0 W : World} {G : Nat} {lv : Value} {l : List Nd} {st : FSt} {n : Nat} {x : Nd} (h : FAt w0 W G lv l st) (hx : l[n]? = some x) : ∃ b o kv c, W.cell? ⟨G, 0, none⟩ = some (.slice (some ⟨b, o, none⟩) l.length c) ∧ lv = .slice (some ⟨b, o, none⟩) l.length c ∧ b < W.heap.size ∧ b ≠ G ∧ (n : Int) < (l.length : Int) ∧ TreeD.NdCells W b o n kv x := by
  obtain ⟨vv, v0, v1, v2, v3, bv, ms, ho⟩ := h.ob
  have hn := (List.getElem?_eq_some_iff.1 hx).1
  have hnd := h.nds.below (Nat.le_refl _) h.bel
  obtain ⟨av, c, rfl⟩ := h.nds.shape
  obtain ⟨b, o, kv, e, hb, hc⟩ := hnd.at n hn
  obtain ⟨b', o', kv', e', hb', -⟩ := h.nds.at n hn
  subst e
  injection e' with e'
  injection e' with e1 e2
  subst e1
  have hxx : l[n] = x := by
    rw [List.getElem?_eq_getElem hn] at hx
    injection hx
  rw [hxx] at hc
  exact ⟨b, o, kv, c, ho.obj.cell 0, rfl, hb, by have := h.low; omega, by omega, hc⟩
theorem add_some {l : List Nd} {n : Nat} {st st' : FSt} (h : addP l n st = some st') : ∃ x c f, l[n]? = some x ∧ st.counts[st.fn]? = some c ∧ st.blocks.getLast? = some f ∧ 0 ≤ c ∧ c + 1 ≤ 200 ∧ n < st.uses.length ∧ st.vars.length < 1000 ∧ st.puts < 1000 ∧ st.blocks.length ≤ 2000 ∧
    st' = { st with counts := st.counts.set st.fn (c + 1), uses := st.uses.set n (st.vars.length : Int), blocks := st.blocks.dropLast ++ [f.put x.text st.vars.length], vars := st.vars ++ [((n : Int), (st.fn : Int), false)], puts := st.puts + 1 } := by
  unfold addP at h
  split at h
  · rename_i x c f h1 h2 h3
    split at h
    · rename_i h4
      injection h with h
      exact ⟨x, c, f, h1, h2, h3, h4.1, h4.2.1, h4.2.2.1, h4.2.2.2.1, h4.2.2.2.2.1, h4.2.2.2.2.2, h.symm⟩
    · cases h
  · cases h
set_option maxRecDepth 100000 in
set_option maxHeartbeats 16000000 in
theorem add_any (w0 W : World) (G : Nat) (lv : Value) (l : List Nd) (st st' : FSt) (n : Nat) (h : FAt w0 W G lv l st) (hok : ∀ x ∈ l, x.text.size ≤ 140737488355328) (hM : addP l n st = some st') :
    Calls Tryz.prog 67 #[.pointer (some ⟨G, 0, none⟩), .int .i64 (n : Int)] W (Did w0 W G lv l st') := by
  obtain ⟨x, c, f, h1, h2, h3, h4, h5, h6, h7, h8, h9, rfl⟩ := add_some hM
  obtain ⟨vars, uses, funcs, ups, counts, blocks, fn, puts⟩ := st
  simp only at h2 h3 h6 h7 h8 h9
  obtain ⟨g3, n3, k3, a7, a6, ac, af, agl, aGl, agG, afn, aW⟩ := h.count h2
  simp only at a6 ac af afn aW
  obtain ⟨hF1, hS1⟩ := aW (c + 1)
  have HF1 : Hid (FAt w0 (W.setCell ⟨g3, fn, none⟩ (.int .i64 (c + 1))).drew G lv l ⟨vars, uses, funcs, ups, counts.set fn (c + 1), blocks, fn, puts⟩ ∧ Fs w0 W (W.setCell ⟨g3, fn, none⟩ (.int .i64 (c + 1))).drew) := Lib.hid ⟨hF1.drew, hS1.drew⟩
  have hw : IntKind.i64.wrap (c + 1) = c + 1 := IntWalk.i64_in _ (by omega)
  have hf0 : (0 : Int) ≤ (fn : Int) := by omega
  clear aW hF1 hS1 h hM
  go_enter Tryz.func67, Tryz.ntmps67
  go_wp2
  go_region
  all_goals
    generalize (W.setCell ⟨g3, fn, none⟩ (.int .i64 (c + 1))).drew = W1 at HF1 ⊢
    clear a7 a6 ac af agl aGl agG afn
    obtain ⟨g4, n4, k4, b7, b6, bc, bf, bgl, bGl, bgG, bfn, -⟩ := HF1.out.1.count (c := c + 1) (by
      have := (List.getElem?_eq_some_iff.1 h2).1
      show (counts.set fn (c + 1))[fn]? = _
      rw [List.getElem?_set_self this])
    simp only at b6 bc bf bfn
    have hc2 : ¬ (200 : Int) < c + 1 := by omega
    go_wp2
    go_quiet (fail)
    have HF2 : Hid (FAt w0 (W1.drewN nq) G lv l ⟨vars, uses, funcs, ups, counts.set fn (c + 1), blocks, fn, puts⟩ ∧ Fs w0 W (W1.drewN nq)) := Lib.hid ⟨HF1.out.1.drewN nq, HF1.out.2.drewN nq⟩
    go_wp2
    generalize W1.drewN nq = W2 at HF2 ⊢
    clear b7 b6 bc bf bgl bGl bgG bfn HF1 hc2
    obtain ⟨g5, m5, k5, va, vc, u5, d2, d1, dc, df, dgl, dGl, dgG, dn, dW⟩ := HF2.out.1.useSet (n := n) h6
    simp only at d1
    obtain ⟨hF3, hS3⟩ := dW (vars.length : Int)
    have HF3 : Hid (FAt w0 (W2.setCell ⟨g5, n, none⟩ (.int .i64 (vars.length : Int))).drew G lv l ⟨vars, uses.set n (vars.length : Int), funcs, ups, counts.set fn (c + 1), blocks, fn, puts⟩ ∧ Fs w0 W (W2.setCell ⟨g5, n, none⟩ (.int .i64 (vars.length : Int))).drew) := Lib.hid ⟨hF3.drew, (HF2.out.2.trans hS3).drew⟩
    have hn0 : (0 : Int) ≤ (n : Int) := by omega
    clear dW hF3 hS3
    go_region
    all_goals
      go_wp2
      generalize (W2.setCell ⟨g5, n, none⟩ (.int .i64 (vars.length : Int))).drew = W3 at HF3 ⊢
      clear d2 d1 dc df dgl dGl dgG dn HF2
      obtain ⟨g6, q6, k6, m6, va6, vc6, e5, ec, e1, egl, eGl, eq, W4, hrun, hF4, hS4⟩ := (HF3.out.1.drew).name h3 x.text (hok x (List.mem_of_getElem? h1)) (by simp only; omega) (by simp only; omega)
      obtain ⟨lb, lo, kv, lc, e0, -, ebl, ebG, enl, ek, et, -⟩ := nds_at HF3.out.1 h1
      have HF4 := Lib.hid (⟨hF4, HF3.out.2.drew.trans hS4⟩ : _ ∧ Fs w0 W W4)
      simp only at e1 hrun eq HF4
      have hq1 : IntKind.i64.wrap ((q6 : Int) + 1 - 1) = (q6 : Int) := by rw [show (q6 : Int) + 1 - 1 = q6 by omega]; exact IntWalk.i64_in _ (by omega)
      have hq2 : IntKind.i64.wrap (q6 : Int) = (q6 : Int) := IntWalk.i64_in _ (by omega)
      have hq3 : (q6 : Int) < (q6 : Int) + 1 := by omega
      have hq0 : (0 : Int) ≤ (q6 : Int) := by omega
      have y5 : W3.cell? ⟨G, 5, none⟩ = some (.slice (some ⟨g6, 0, none⟩) (q6 + 1) k6) := e5
      have yc : W3.cell? ⟨g6, q6, none⟩ = some (.map (some m6)) := ec
      have y1 : W3.cell? ⟨G, 1, none⟩ = some (.slice va6 vars.length vc6) := e1
      have ygl : g6 < W3.heap.size := egl
      have yGl : G < W3.heap.size := eGl
      clear hF4 hS4 eq e5 ec e1 egl eGl
      go_region
      all_goals
        clear y5 yc y1 ygl yGl et ek e0 hrun HF3 hq1 hq2 hq3
        obtain ⟨va7, vc7, z1, z6, zl, v8, W5, hrun, ⟨a8, k8, m8, rfl⟩, ⟨u9, y1⟩, yz, yl, hF5, hS5⟩ := (HF4.out.1.drew).var (by simp only; omega) n
        simp only at z1 z6 hrun hF5
        have HF5 := Lib.hid (⟨hF5, HF4.out.2.drew.trans hS5⟩ : _ ∧ Fs w0 W _)
        have x1 : W4.cell? ⟨G, 1, none⟩ = some (.slice va7 vars.length vc7) := z1
        have x6 : W4.cell? ⟨G, 6, none⟩ = some (.int .i64 (fn : Int)) := z6
        have xl : G < W4.heap.size := zl
        have HRun := Lib.hid hrun
        clear hF5 hS5 z1 z6 zl hrun HF4
        go_wp2
        go_region_law (refine ParD.step_append_ex rfl (.tmp 74) (.tmp 81) 30 rfl _ _ rfl rfl (fun v' w' => v' = .slice a8 k8 m8 ∧ w' = W5) ⟨_, _, HRun.out, rfl, rfl⟩ ?_
                       rintro v' w' ⟨rfl, rfl⟩)
        all_goals
          go_wp2
          exact bodyPost_ret (v := .tuple #[]) (by simp [results, Tryz.results67, go_sem]) rfl ⟨rfl, HF5.out.1, HF5.out.2⟩
end ScD
end Go.Proofs.YtmdkocegnbcgmaaGreatDoor
