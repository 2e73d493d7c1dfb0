/- Channels: rows of numbers and events, the small functions of package world. -/
import Derived.Test.YteohgacblilfmaaTrace2
import Derived.RegionTactic
import Derived.BigQuiet
import Derived.Outline
import Derived.WalkSmall
import Derived.StillTailTactics
import Derived.Deep.RegionHeld3
namespace Go.Proofs.Yteohgacblilfmaa
open Go.RowKit ObjM Shell
namespace WorldD
open LabelM LabelD TraceD

theorem infoEv : (Try.prog.info? 65).map (fun i => (i.zero, i.size, i.bytes)) = some (some (.agg #[.int .i64 0, .int .i64 0, .int .i64 0, .string ⟨#[]⟩]), 4, 40) := by kernel_rfl
theorem infoI64 : (Try.prog.info? 2).map (fun i => (i.zero, i.size, i.bytes)) = some (some (.int .i64 0), 1, 8) := by kernel_rfl
def rowI (zs : List Int) : List Value := zs.map fun n => Value.int .i64 n
def rowE (l : List Ev) : List Value := l.flatMap Ev.cells

set_option maxHeartbeats 1000000 in
theorem has_nil (k : Int) (w : World) : Calls Try.prog 18 #[.pointer none, .int .i64 k] w fun e w' => e = .returned (.bool false) ∧ w = w' := by
  go_enter Try.func18, Try.ntmps18
  go_wp2
  go_ret
  exact ⟨rfl, rfl⟩
set_option maxHeartbeats 1000000 in
theorem has_in (p : Addr) (k : Int) (h0 : 0 ≤ k) (h8 : k < 8) (w : World) : Calls Try.prog 18 #[.pointer (some p), .int .i64 k] w fun e w' => e = .returned (.bool true) ∧ w = w' := by
  go_enter Try.func18, Try.ntmps18
  go_wp2
  go_ret
  exact ⟨rfl, rfl⟩
set_option maxHeartbeats 1000000 in
theorem has_out (p : Addr) (k : Int) (h : k < 0 ∨ 8 ≤ k) (w : World) : Calls Try.prog 18 #[.pointer (some p), .int .i64 k] w fun e w' => e = .returned (.bool false) ∧ w = w' := by
  rcases h with h | h
  · have h' : ¬ 0 ≤ k := by omega
    clear h
    go_enter Try.func18, Try.ntmps18
    go_wp2
    go_ret
    exact ⟨rfl, rfl⟩
  · have h0 : 0 ≤ k := by omega
    have h8 : ¬ k < 8 := by omega
    clear h
    go_enter Try.func18, Try.ntmps18
    go_wp2
    go_ret
    exact ⟨rfl, rfl⟩

theorem nil_yes (W : World) : Sem.run Try.prog (binOp BinOp.eql 25 (.slice none 0 0) (.slice none 0 0)) W = .ok (.bool true) W := by kernel_rfl
theorem nil_no (a : Addr) (n c : Nat) (W : World) : Sem.run Try.prog (binOp BinOp.eql 25 (.slice (some a) n c) (.slice none 0 0)) W = .ok (.bool false) W := by kernel_rfl
theorem nilE_yes (W : World) : Sem.run Try.prog (binOp BinOp.eql 35 (.slice none 0 0) (.slice none 0 0)) W = .ok (.bool true) W := by kernel_rfl
theorem nilE_no (a : Addr) (n c : Nat) (W : World) : Sem.run Try.prog (binOp BinOp.eql 35 (.slice (some a) n c) (.slice none 0 0)) W = .ok (.bool false) W := by kernel_rfl
theorem rowI_len (zs : List Int) : (rowI zs).length = zs.length * 1 := by simp [rowI]
theorem ints_cells {W : World} {b o : Nat} {zs : List Int} (h : ∀ (j : Nat) x, zs[j]? = some x → W.cell? ⟨b, o + j, none⟩ = some (.int .i64 x)) : ∀ j u, (rowI zs)[j]? = some u → W.cell? ((⟨b, o, none⟩ : Addr).add j) = some u := by
  intro j u hj
  rw [addr_add]
  unfold rowI at hj
  rw [List.getElem?_map] at hj
  cases hz : zs[j]? with
  | none => rw [hz] at hj; cases hj
  | some x =>
    rw [hz] at hj
    simp at hj
    subst hj
    exact h j x hz
theorem own_empty (w : World) (t : TypeId) (size : Nat) : (w.alloc (.cells #[] t)).ownsRow w.heap.size t size (.slice (some ⟨w.heap.size, 0, none⟩) 0 0) 0 [] :=
  own_of (Nat.le_refl _) (Has.new w t []) (Nat.le_refl _) (by unfold maxLen; omega) (by simp) (by simp)

set_option maxRecDepth 100000 in
set_option maxHeartbeats 1000000 in
theorem cloneI_any (v : Value) (zs : List Int) (hz : zs.length ≤ 17592186044416) (w : World) (h : IntsAt w .i64 v zs) :
    Calls Try.prog 17 #[v] w fun e w' => ∃ u, e = .returned u ∧ w'.ownsRow w.heap.size 2 1 u zs.length (rowI zs) ∧ Below w.heap.size w w' := by
  obtain ⟨i0, hi, hz0, hz1, hz2⟩ := info_parts infoI64
  rcases h with ⟨rfl, rfl⟩ | ⟨b, o, cap, rfl, h1, h2, h3, h4⟩
  · have hn := nil_yes
    go_enter Try.func17, Try.ntmps17
    go_wp2
    go_ret
    exact ⟨_, rfl, World.ownsRow_nil _ _ _ _, Below.refl _ _⟩
  · have h4' : ∀ (j : Nat) x, zs[j]? = some x → (w.alloc (.cells #[] 2)).cell? ⟨b, o + j, none⟩ = some (.int .i64 x) := fun j x hx => by
      rw [World.cell?_alloc_old _ _ _ (by simp; omega)]
      exact h4 j x hx
    have HC := Lib.hid (ints_cells h4')
    have HO := Lib.hid (own_empty w 2 1)
    have HL := Lib.hid (rowI_len zs)
    clear h4 h4'
    have hn := nil_no ⟨b, o, none⟩ zs.length cap
    go_enter Try.func17, Try.ntmps17
    go_wp2_with (at_builtin; refine wpList_append_own _ rfl _ _ 25 rfl w.heap.size 2 i0 (.int .i64 0) 1 8 Try.underlying25 hi hz0 hz1 hz2 rfl (by decide) _ _ _ rfl HO.out ⟨b, o, none⟩ zs.length cap (rowI zs) rfl HL.out HC.out (by simp [rowI, Value.oneCell']) (by unfold maxLen; omega) (by omega) (by simp) ?_)
    intro v' w5 hown' hgrow _
    have hb5 : Below w.heap.size w w5 := ((Below.refl _ w).alloc (Nat.le_refl _) (.cells #[] 2)).grown hgrow (by simp) (fun g hg => (own_lt HO.out g hg).1)
    have HO5 := Lib.hid hown'
    have HB5 := Lib.hid hb5
    clear hown' hb5 hgrow
    go_wp2
    go_ret
    exact ⟨_, rfl, by have := HO5.out; simpa using this, HB5.out⟩
theorem rowE_len (l : List Ev) : (rowE l).length = l.length * 4 := by
  induction l with
  | nil => rfl
  | cons a r ih => simp [rowE, Ev.cells] at ih ⊢; omega
theorem rowE_at : ∀ (l : List Ev) (i : Nat) (e : Ev), l[i]? = some e → ∀ j, j < 4 → (rowE l)[i * 4 + j]? = e.cells[j]?
  | [], i, e, h, j, hj => by simp at h
  | a :: r, 0, e, h, j, hj => by
    simp at h
    subst h
    show (a.cells ++ rowE r)[0 * 4 + j]? = _
    rw [List.getElem?_append_left (by simp [Ev.cells]; omega), Nat.zero_mul, Nat.zero_add]
  | a :: r, i + 1, e, h, j, hj => by
    show (a.cells ++ rowE r)[(i + 1) * 4 + j]? = _
    rw [List.getElem?_append_right (by simp [Ev.cells]; omega)]
    have e1 : (i + 1) * 4 + j - a.cells.length = i * 4 + j := by simp [Ev.cells]; omega
    rw [e1]
    exact rowE_at r i e (by simpa using h) j hj
theorem rowE_snoc (l : List Ev) (e : Ev) : rowE (l ++ [e]) = rowE l ++ e.cells := by simp [rowE]
theorem rowE_one (l : List Ev) : ∀ u ∈ rowE l, u.oneCell' = true := by
  intro u hu
  obtain ⟨e, -, h⟩ := List.mem_flatMap.1 hu
  simp [Ev.cells] at h
  rcases h with rfl | rfl | rfl | rfl <;> simp [Value.oneCell']
/-- A row of the call's own is a slice of events. -/
theorem evs_of_own {w : World} {base : Nat} {v : Value} {l : List Ev} (h : w.ownsRow base 65 4 v l.length (rowE l)) : EvsAt w v l := by
  rcases own_shape h with ⟨rfl, hn, -⟩ | ⟨g, cap, cs, rfl, -, hg, hc, hm, -, -⟩
  · exact .inl ⟨rfl, List.eq_nil_of_length_eq_zero hn⟩
  · refine .inr ⟨g, 0, cap, rfl, hc, by unfold maxLen at hm; omega, ?_, ?_⟩
    · exact hg.lt
    · intro i e hi
      have hcl : ∀ j, j < 4 → w.cell? ⟨g, i * 4 + j, none⟩ = e.cells[j]? := by
        intro j hj
        have hlt : i < l.length := (List.getElem?_eq_some_iff.1 hi).1
        have hr := rowE_at l i e hi j hj
        have hlt2 : i * 4 + j < (rowE l).length := by rw [rowE_len]; omega
        rw [own_cell h _ hlt2, ← hr, List.getElem?_eq_getElem hlt2]
      refine ⟨?_, ?_, ?_, ?_⟩
      · simpa [Ev.cells] using hcl 0 (by omega)
      · simpa [Ev.cells] using hcl 1 (by omega)
      · simpa [Ev.cells] using hcl 2 (by omega)
      · simpa [Ev.cells] using hcl 3 (by omega)
theorem evs_cells {W : World} {b o cap : Nat} {l : List Ev} (h : EvsAt W (.slice (some ⟨b, o, none⟩) l.length cap) l) : ∀ j u, (rowE l)[j]? = some u → W.cell? ((⟨b, o, none⟩ : Addr).add j) = some u := by
  intro j u hj
  have hlt : j < l.length * 4 := by
    have := (List.getElem?_eq_some_iff.1 hj).1
    rwa [rowE_len] at this
  have hi : j / 4 < l.length := by omega
  obtain ⟨b', o', e, -, c0, c1, c2, c3⟩ := h.at (j / 4) hi
  injection e with e
  injection e with e1 e2 e3
  subst e1 e2
  have hr := rowE_at l (j / 4) l[j / 4] (List.getElem?_eq_getElem hi) (j % 4) (by omega)
  rw [show j / 4 * 4 + j % 4 = j by omega, hj] at hr
  rw [addr_add]
  have hm : j % 4 = 0 ∨ j % 4 = 1 ∨ j % 4 = 2 ∨ j % 4 = 3 := by omega
  rcases hm with hm | hm | hm | hm <;> rw [hm] at hr <;> simp [Ev.cells] at hr <;> subst hr
  · rw [show o + j = o + j / 4 * 4 by omega]; exact c0
  · rw [show o + j = o + j / 4 * 4 + 1 by omega]; exact c1
  · rw [show o + j = o + j / 4 * 4 + 2 by omega]; exact c2
  · rw [show o + j = o + j / 4 * 4 + 3 by omega]; exact c3

set_option maxRecDepth 100000 in
set_option maxHeartbeats 1000000 in
theorem cloneE_any (v : Value) (l : List Ev) (hl : l.length ≤ 2600000000000) (w : World) (h : EvsAt w v l) :
    Calls Try.prog 23 #[v] w fun e w' => ∃ u, e = .returned u ∧ w'.ownsRow w.heap.size 65 4 u l.length (rowE l) ∧ Below w.heap.size w w' := by
  obtain ⟨i0, hi, hz0, hz1, hz2⟩ := info_parts infoEv
  rcases h with ⟨rfl, rfl⟩ | ⟨b, o, cap, rfl, h1, h2, h3, h4⟩
  · have hn := nilE_yes
    go_enter Try.func23, Try.ntmps23
    go_wp2
    go_ret
    exact ⟨_, rfl, World.ownsRow_nil _ _ _ _, Below.refl _ _⟩
  · have hE : EvsAt w (.slice (some ⟨b, o, none⟩) l.length cap) l := .inr ⟨b, o, cap, rfl, h1, h2, h3, h4⟩
    have HC := Lib.hid (evs_cells (hE.below ((Below.refl _ w).alloc (Nat.le_refl _) (.cells #[] 65))))
    have HO := Lib.hid (own_empty w 65 4)
    have HL := Lib.hid (rowE_len l)
    have H1 := Lib.hid (rowE_one l)
    clear h4 hE
    have hn := nilE_no ⟨b, o, none⟩ l.length cap
    go_enter Try.func23, Try.ntmps23
    go_wp2_with (at_builtin; refine wpList_append_own _ rfl _ _ 35 rfl w.heap.size 65 i0 (.agg #[.int .i64 0, .int .i64 0, .int .i64 0, .string ⟨#[]⟩]) 4 40 Try.underlying35 hi hz0 hz1 hz2 rfl (by decide) _ _ _ rfl HO.out ⟨b, o, none⟩ l.length cap (rowE l) rfl HL.out HC.out H1.out (by unfold maxLen; omega) (by omega) (by simp) ?_)
    intro v' w5 hown' hgrow _
    have hb5 : Below w.heap.size w w5 := ((Below.refl _ w).alloc (Nat.le_refl _) (.cells #[] 65)).grown hgrow (by simp) (fun g hg => (own_lt HO.out g hg).1)
    have HO5 := Lib.hid hown'
    have HB5 := Lib.hid hb5
    clear hown' hb5 hgrow
    go_wp2
    go_ret
    exact ⟨_, rfl, by have := HO5.out; simpa using this, HB5.out⟩

/-- A channel: its label, its numbers, how far they are read. -/
structure Ch where
  m : Nat
  v : Value
  xs : List Int
  n : Nat
def Ch.cells (c : Ch) : List Value := [.int .u64 (c.m : Int), c.v, .int .i64 (c.n : Int)]
def rowC (l : List Ch) : List Value := l.flatMap Ch.cells
theorem rowC_len (l : List Ch) : (rowC l).length = l.length * 3 := by
  induction l with
  | nil => rfl
  | cons a r ih => simp [rowC, Ch.cells] at ih ⊢; omega
theorem rowC_at : ∀ (l : List Ch) (i : Nat) (e : Ch), l[i]? = some e → ∀ j, j < 3 → (rowC l)[i * 3 + j]? = e.cells[j]?
  | [], i, e, h, j, hj => by simp at h
  | a :: r, 0, e, h, j, hj => by
    simp at h
    subst h
    show (a.cells ++ rowC r)[0 * 3 + j]? = _
    rw [List.getElem?_append_left (by simp [Ch.cells]; omega), Nat.zero_mul, Nat.zero_add]
  | a :: r, i + 1, e, h, j, hj => by
    show (a.cells ++ rowC r)[(i + 1) * 3 + j]? = _
    rw [List.getElem?_append_right (by simp [Ch.cells]; omega)]
    have e1 : (i + 1) * 3 + j - a.cells.length = i * 3 + j := by simp [Ch.cells]; omega
    rw [e1]
    exact rowC_at r i e (by simpa using h) j hj
theorem rowC_set : ∀ (l : List Ch) (i : Nat) (e : Ch), i < l.length → (((rowC l).set (i * 3) (.int .u64 (e.m : Int))).set (i * 3 + 1) e.v).set (i * 3 + 2) (.int .i64 (e.n : Int)) = rowC (l.set i e)
  | [], i, e, h => by simp at h
  | a :: r, 0, e, h => by simp [rowC, Ch.cells]
  | a :: r, i + 1, e, h => by
    have ih := rowC_set r i e (by simpa using h)
    have e1 : ∀ (t : List Value) (k : Nat) x, (a.cells ++ t).set ((i + 1) * 3 + k) x = a.cells ++ t.set (i * 3 + k) x := by
      intro t k x
      rw [List.set_append_right _ _ (by simp [Ch.cells]; omega)]
      congr 1
      congr 1
      simp [Ch.cells]
      omega
    have e0 := e1 (rowC r) 0 (.int .u64 (e.m : Int))
    simp only [Nat.add_zero] at e0
    show (((a.cells ++ rowC r).set ((i + 1) * 3) _).set ((i + 1) * 3 + 1) _).set ((i + 1) * 3 + 2) _ = a.cells ++ rowC (r.set i e)
    rw [e0, e1, e1, ih]
theorem rowC_setN (l : List Ch) (i : Nat) (e : Ch) (h : l[i]? = some e) (n : Nat) : (rowC l).set (i * 3 + 2) (.int .i64 (n : Int)) = rowC (l.set i { e with n := n }) := by
  have hlt := (List.getElem?_eq_some_iff.1 h).1
  rw [← rowC_set l i { e with n := n } hlt]
  have h0 := rowC_at l i e h 0 (by omega)
  have h1 := rowC_at l i e h 1 (by omega)
  simp [Ch.cells] at h0 h1
  have s0 : (rowC l).set (i * 3) (.int .u64 (e.m : Int)) = rowC l := by
    obtain ⟨g, h0⟩ := List.getElem?_eq_some_iff.1 h0
    conv => lhs; rw [← h0]
    exact List.set_getElem_self _
  have s1 : (rowC l).set (i * 3 + 1) e.v = rowC l := by
    obtain ⟨g, h1⟩ := List.getElem?_eq_some_iff.1 h1
    conv => lhs; rw [← h1]
    exact List.set_getElem_self _
  show _ = (((rowC l).set (i * 3) (.int .u64 (e.m : Int))).set (i * 3 + 1) e.v).set (i * 3 + 2) _
  rw [s0, s1]
def ChOk (w : World) (B : Nat) (c : Ch) : Prop := c.m < M64 ∧ c.n ≤ c.xs.length ∧ c.xs.length ≤ 17592186044416 ∧ w.ownsRow B 2 1 c.v c.xs.length (rowI c.xs)
/-- Block G is a world of channels. -/
def IsW (w : World) (B G : Nat) (l : List Ch) (ev : List Ev) : Prop :=
  ∃ sv, Has w G 60 (rowC l ++ [sv]) ∧ w.ownsRow B 65 4 sv ev.length (rowE ev) ∧ B ≤ G ∧ l.length = 8 ∧ ∀ c ∈ l, ChOk w B c
theorem ChOk.keeps {w w' : World} {B : Nat} {c : Ch} {ts : List TypeId} (h : ChOk w B c) (k : KeepsT ts w w') (h1 : 2 ∉ ts) : ChOk w' B c := ⟨h.1, h.2.1, h.2.2.1, own_keepsT h.2.2.2 k h1⟩
theorem IsW.keeps {w w' : World} {B G : Nat} {l : List Ch} {ev : List Ev} {ts : List TypeId} (h : IsW w B G l ev) (k : KeepsT ts w w') (h1 : 60 ∉ ts) (h2 : 65 ∉ ts) (h3 : 2 ∉ ts) : IsW w' B G l ev := by
  obtain ⟨sv, hG, hO, hB, hl, hc⟩ := h
  exact ⟨sv, hG.keepsT k h1, own_keepsT hO k h2, hB, hl, fun c hm => (hc c hm).keeps k h3⟩
theorem IsW.below {w w' : World} {B G : Nat} {l : List Ch} {ev : List Ev} (h : IsW w B G l ev) (hb : Below w.heap.size w w') : IsW w' B G l ev := h.keeps (KeepsT.below hb []) (by simp) (by simp) (by simp)
end WorldD
end Go.Proofs.Yteohgacblilfmaa
