/- Putting into a table. -/
import Derived.Test.YtpmbbkhhnkhcbaaTab3
import Derived.Carry
import Derived.Maps.AppendAt
namespace Go.Proofs.Ytpmbbkhhnkhcbaa
open Go.RowKit ObjM Go.Maps
namespace TabD
open LabelM LabelD ValD

theorem set4_below {B b : Nat} {w w' : World} {x0 x1 x2 x3 : Value} (h : Below B w w') (hb : B ≤ b) : Below B w ((((w'.setCell ⟨b, 0, none⟩ x0).setCell ⟨b, 1, none⟩ x1).setCell ⟨b, 2, none⟩ x2).setCell ⟨b, 3, none⟩ x3) :=
  (((h.setCell (p := ⟨b, 0, none⟩) hb _).setCell (p := ⟨b, 1, none⟩) hb _).setCell (p := ⟨b, 2, none⟩) hb _).setCell (p := ⟨b, 3, none⟩) hb _
theorem set4_self {b : Nat} {w : World} {t : TypeId} {y0 y1 y2 y3 x0 x1 x2 x3 : Value} (h : Has w b t [y0, y1, y2, y3]) : Has ((((w.setCell ⟨b, 0, none⟩ x0).setCell ⟨b, 1, none⟩ x1).setCell ⟨b, 2, none⟩ x2).setCell ⟨b, 3, none⟩ x3) b t [x0, x1, x2, x3] := (((h.set 0 x0).set 1 x1).set 2 x2).set 3 x3
theorem set4_has {b G : Nat} {w : World} {t : TypeId} {cs : List Value} {x0 x1 x2 x3 : Value} (h : Has w G t cs) (hb : G ≠ b) : Has ((((w.setCell ⟨b, 0, none⟩ x0).setCell ⟨b, 1, none⟩ x1).setCell ⟨b, 2, none⟩ x2).setCell ⟨b, 3, none⟩ x3) G t cs :=
  (((h.keeps (Keeps.set _ b 0 x0) (by simpa using hb)).keeps (Keeps.set _ b 1 x1) (by simpa using hb)).keeps (Keeps.set _ b 2 x2) (by simpa using hb)).keeps (Keeps.set _ b 3 x3) (by simpa using hb)
def PutOut (w : World) (er : Int) (e : Ending) (w' : World) : Prop := e = .returned (.int .i64 er) ∧ Below w.heap.size w w'
set_option maxRecDepth 100000 in
set_option maxHeartbeats 1000000 in
theorem put_nil (c0 : Nat) (key x : V) (w : World) : Calls Try.prog 15 #[.pointer none, .int .u64 (c0 : Int), key.agg, x.agg] w (PutOut w 41) := by
  have HK := fun W => Lib.hid (keyOf_any key W)
  obtain ⟨vk, vn, vs, vl⟩ := key
  obtain ⟨xk, xn, xs, xl⟩ := x
  simp only [V.agg] at HK ⊢
  have hA := ((Below.refl w.heap.size w).alloc (Nat.le_refl _) (.cells #[.int .i64 vk, .int .i64 vn, .string vs, .int .u64 (vl : Int)] 35)).alloc (by simp) (.cells #[.int .i64 xk, .int .i64 xn, .string xs, .int .u64 (xl : Int)] 35)
  have HA := Lib.hid hA
  clear hA
  go_enter Try.func15, Try.ntmps15
  go_wp2_with fail
  refine ((HK _).out).mono ?_
  rintro e w1 ⟨rfl, hb1⟩
  simp only [kval]
  have HB := Lib.hid (HA.out.trans (hb1.mono (by simp; omega)))
  clear hb1
  go_wp2
  go_ret
  exact ⟨rfl, HB.out.alloc HB.out.size _⟩
set_option maxRecDepth 100000 in
set_option maxHeartbeats 1000000 in
theorem put_nokey (p : Addr) (c0 : Nat) (key x : V) (hk : keyB key = false) (w : World) : Calls Try.prog 15 #[.pointer (some p), .int .u64 (c0 : Int), key.agg, x.agg] w (PutOut w 41) := by
  have HK := fun W => Lib.hid (keyOf_any key W)
  unfold KeyIs at HK
  rw [hk] at HK
  clear hk
  obtain ⟨vk, vn, vs, vl⟩ := key
  obtain ⟨xk, xn, xs, xl⟩ := x
  simp only [V.agg] at HK ⊢
  have hA := ((Below.refl w.heap.size w).alloc (Nat.le_refl _) (.cells #[.int .i64 vk, .int .i64 vn, .string vs, .int .u64 (vl : Int)] 35)).alloc (by simp) (.cells #[.int .i64 xk, .int .i64 xn, .string xs, .int .u64 (xl : Int)] 35)
  have HA := Lib.hid hA
  clear hA
  go_enter Try.func15, Try.ntmps15
  go_wp2_with fail
  refine ((HK _).out).mono ?_
  rintro e w1 ⟨rfl, hb1⟩
  simp only [kval]
  have HB := Lib.hid (HA.out.trans (hb1.mono (by simp; omega)))
  clear hb1
  go_wp2
  go_ret
  exact ⟨rfl, HB.out.alloc HB.out.size _⟩
theorem map_yes (W : World) : Sem.run Try.prog (binOp BinOp.eql 63 (.map none) (.map none)) W = .ok (.bool true) W := by kernel_rfl
theorem map_no (b : Nat) (W : World) : Sem.run Try.prog (binOp BinOp.eql 63 (.map (some b)) (.map none)) W = .ok (.bool false) W := by kernel_rfl
/-- Objects of other types are as they were. -/
def KpC (ts : List TypeId) (w w' : World) : Prop := ∀ G t cs, t ∉ ts → Has w G t cs → Has w' G t cs
theorem KpC.refl (ts : List TypeId) (w : World) : KpC ts w w := fun _ _ _ _ h => h
theorem KpC.trans {ts : List TypeId} {a b c : World} (h : KpC ts a b) (k : KpC ts b c) : KpC ts a c := fun G t cs ht hh => k G t cs ht (h G t cs ht hh)
theorem KpC.of {ts us : List TypeId} {a b : World} (h : KeepsT us a b) (hu : ∀ x ∈ us, x ∈ ts) : KpC ts a b := fun _ t _ ht hh => hh.keepsT h fun hm => ht (hu t hm)
theorem KpC.keeps {ts : List TypeId} {a b : World} {G : Nat} {t : TypeId} {cs : List Value} (h : Keeps [G] a b) (hG : Has a G t cs) (ht : t ∈ ts) : KpC ts a b := fun K u ds hu hh => hh.keeps h (by
  intro hm
  have : K = G := by simpa using hm
  subst this
  exact hh.ne hG (by rintro rfl; exact hu ht) rfl)
theorem KpC.turned {ts : List TypeId} {a b : World} {m : Nat} (h : a.mapTurned b m) : KpC ts a b := fun K u ds hu hh => by
  obtain ⟨es, cl, es', cl', hb, _⟩ := id h
  have hg := h.grown
  refine (hg.block K hh.lt fun e => ?_).trans hh
  have : K = m := by simpa using e
  subst this
  rw [show a.heap[K]? = _ from hh] at hb
  cases hb
/-- The blocks that are a table's own. -/
def tblk (T : Nat) (fv : Value) (pm : Option Nat) : List Nat := T :: (fv.ownBlock.toList ++ pm.toList)
theorem tblk_fresh {T g n c N M : Nat} {fv : Value} {pm pm' : Option Nat} (hNM : N ≤ M) (hg : g ∈ fv.ownBlock.toList ∨ M ≤ g) (hpm : ∀ b, pm' = some b → pm = some b ∨ N ≤ b) : ∀ x ∈ tblk T (.slice (some ⟨g, 0, none⟩) n c) pm', x ∈ tblk T fv pm ∨ N ≤ x := by
  intro x hx
  unfold tblk at hx ⊢
  rcases List.mem_cons.1 hx with rfl | hx
  · exact .inl (by simp)
  · rcases List.mem_append.1 hx with hx | hx
    · have : x = g := by simpa [Value.ownBlock, eq_comm] using hx
      subst this
      rcases hg with h | h
      · exact .inl (by simp at h ⊢; simp [h])
      · exact .inr (by omega)
    · rcases hpm x (by simpa using hx) with h | h
      · exact .inl (by simp [h])
      · exact .inr h
theorem tblk_keeps {T : Nat} {S : List Nat} {fv : Value} {pm : Option Nat} {a b c : World} (h : Keeps S a b) (hS : ∀ x ∈ S, x = T ∨ pm = some x) (k : Keeps (T :: fv.ownBlock.toList) b c) : Keeps (tblk T fv pm) a c :=
  (h.mono fun x hx => .inl (by unfold tblk; rcases hS x hx with rfl | h1 <;> simp [*])).trans k fun x hx => .inl (by
    unfold tblk
    rcases List.mem_cons.1 hx with rfl | h1
    · simp
    · exact List.mem_cons_of_mem _ (List.mem_append_left _ h1))
def PutDid (w : World) (B T lab : Nat) (fs : List Fd) (fv0 : Value) (pm0 : Option Nat) (sv nm : Value) (e : Ending) (w' : World) : Prop :=
  e = .returned (.int .i64 0) ∧ ∃ fv pm, IsT w' B T lab fs fv pm sv nm ∧ KpC [66, 42] w w' ∧ (Keeps (tblk T fv0 pm0) w w' ∧ ∀ x ∈ tblk T fv pm, x ∈ tblk T fv0 pm0 ∨ w.heap.size ≤ x) ∧ Below B w w'
theorem infoFd : (Try.prog.info? 42).map (fun i => (i.zero, i.size, i.bytes)) = some (some (.agg #[.int .i64 0, .int .i64 0, .string ⟨#[]⟩, .int .u64 0, .int .i64 0, .int .i64 0, .string ⟨#[]⟩, .int .u64 0]), 8, 80) := by kernel_rfl
def fcells (a b : V) : List Value := a.cells.toList ++ b.cells.toList
theorem PlacesOk.world {w w' : World} {B : Nat} {pm : Option Nat} {fs : List Fd} (h : PlacesOk w B pm fs) (hk : ∀ b, pm = some b → (∀ t cs, ¬ Has w b t cs) → w'.heap[b]? = w.heap[b]?) : PlacesOk w' B pm fs := by
  refine h.below fun b hb => ?_
  subst hb
  exact hk b rfl fun t cs hc => h.ne hc rfl
/-- The append of a field. -/
theorem app_T (B T : Nat) (fs : List Fd) (x y : V) (fv : Value) (lv pv sv nv : Value) (pm : Option Nat) (qs : List Fd) (hn : fs.length ≤ 1000000) (w : World) (hBw : B ≤ w.heap.size) (hG : Has w T 66 [lv, fv, pv, sv, nv]) (hO : w.ownsRow B 42 8 fv fs.length (rowF fs)) (hP : PlacesOk w B pm qs) (hBT : B ≤ T) :
    ∃ g' cap' w1, (Builtin.append_ #[30, 30] 30 #[fv, .slice (some ⟨w.heap.size, 0, none⟩) 1 1]).run Try.prog ((w.alloc (.cells (fcells x y).toArray 42)).drew) = .ok (.slice (some ⟨g', 0, none⟩) (fs.length + 1) cap') w1 ∧
      w1.cell? ⟨T, 1, none⟩ = some fv ∧ w1.frozen? ⟨T, 1, none⟩ = false ∧ T < w1.heap.size ∧
      Has (w1.setCell ⟨T, 1, none⟩ (.slice (some ⟨g', 0, none⟩) (fs.length + 1) cap')) T 66 [lv, .slice (some ⟨g', 0, none⟩) (fs.length + 1) cap', pv, sv, nv] ∧
      (w1.setCell ⟨T, 1, none⟩ (.slice (some ⟨g', 0, none⟩) (fs.length + 1) cap')).ownsRow B 42 8 (.slice (some ⟨g', 0, none⟩) (fs.length + 1) cap') (fs ++ [(x, y)]).length (rowF (fs ++ [(x, y)])) ∧
      PlacesOk (w1.setCell ⟨T, 1, none⟩ (.slice (some ⟨g', 0, none⟩) (fs.length + 1) cap')) B pm qs ∧
      KpC [66, 42] w (w1.setCell ⟨T, 1, none⟩ (.slice (some ⟨g', 0, none⟩) (fs.length + 1) cap')) ∧ (Keeps (T :: fv.ownBlock.toList) w (w1.setCell ⟨T, 1, none⟩ (.slice (some ⟨g', 0, none⟩) (fs.length + 1) cap')) ∧ (g' ∈ fv.ownBlock.toList ∨ w.heap.size ≤ g')) ∧ Below B w (w1.setCell ⟨T, 1, none⟩ (.slice (some ⟨g', 0, none⟩) (fs.length + 1) cap')) := by
  obtain ⟨i0, hi, hz0, hz1, hz2⟩ := info_parts infoFd
  have hown1 : ((w.alloc (.cells (fcells x y).toArray 42)).drew).ownsRow B 42 8 fv fs.length (rowF fs) := (hO.alloc _).drew
  have hnew := (Has.new w 42 (fcells x y)).drew
  obtain ⟨v', w1, hrun, hown', hgrow, -, hob⟩ := run_append_own_at (P := Try.prog) (w := (w.alloc (.cells (fcells x y).toArray 42)).drew) B 30 30 42 i0 (.agg #[.int .i64 0, .int .i64 0, .string ⟨#[]⟩, .int .u64 0, .int .i64 0, .int .i64 0, .string ⟨#[]⟩, .int .u64 0]) 8 80 Try.underlying30 hi hz0 hz1 hz2 rfl (by decide) fv fs.length (rowF fs) hown1 ⟨w.heap.size, 0, none⟩ 1 1 (fcells x y) rfl (by
    intro k u hu
    have e : (⟨w.heap.size, 0, none⟩ : Addr).add k = ⟨w.heap.size, k, none⟩ := by
      unfold Addr.add
      split
      · rename_i h; subst h; rfl
      · simp
    rw [e, hnew.cell]
    exact hu) (by simp [fcells, V.cells, Value.oneCell']) (by unfold maxLen; omega) (by omega) (by simp; omega)
  obtain ⟨g', cap', rfl⟩ := ownsRow_succ hown'
  have hk1 : KeepsT [42] w w1 := (((KeepsT.refl _ w).alloc _).drew).grown hgrow (fun g hg => .inr (by
    obtain ⟨cs, hc⟩ := own_row hown1 g hg
    exact ⟨_, cs, hc, by simp⟩))
  have hb1 : Below B w w1 := (((Below.refl B w).alloc (by omega) _).drew).grown hgrow (by simp; omega) (fun g hg => (own_lt hown1 g hg).1)
  have hG1 : Has w1 T 66 [lv, fv, pv, sv, nv] := hG.keepsT hk1 (by decide)
  have hkp : Keeps (T :: fv.ownBlock.toList) w (w1.setCell ⟨T, 1, none⟩ (.slice (some ⟨g', 0, none⟩) (fs.length + 1) cap')) :=
    ((((Keeps.refl (T :: fv.ownBlock.toList) w).trans (Keeps.alloc [] w _) (by simp)).trans (Keeps.drew [] _) (by simp)).trans (Keeps.grown hgrow) (fun x hx => .inl (List.mem_cons_of_mem _ hx))).trans (Keeps.set w1 T 1 _) (by simp)
  have hob' : g' ∈ fv.ownBlock.toList ∨ w.heap.size ≤ g' := by
    rcases hob with h | h
    · left
      rw [← h]
      simp [Value.ownBlock]
    · right
      simp [Value.ownBlock] at h
      omega
  have hc1 := hG1.cell 1
  simp at hc1
  refine ⟨g', cap', w1, hrun, hc1, hG1.frozen 1, hG1.lt, hG1.set 1 _, ?_, ?_, (KpC.of hk1 (by simp)).trans (KpC.keeps (Keeps.set w1 T 1 _) hG1 (by simp)), ⟨hkp, hob'⟩, hb1.setCell (p := ⟨T, 1, none⟩) hBT _⟩
  · rw [rowF_snoc, List.length_append]
    exact own_keeps hown' (Keeps.set w1 T 1 _) (fun g hg => by
      have := own_ne hown' hG1 (by decide) g hg
      simpa using this)
  · cases pm with
    | none => exact hP
    | some b =>
      have hlt := hP.lt
      have e1 : w1.heap[b]? = w.heap[b]? := by
        rw [hgrow.block b (by simp; omega) (fun e => ?_)]
        · exact Below.heap_alloc _ _ _ hlt
        · obtain ⟨cs, hc⟩ := own_row hO b e.symm
          exact hP.ne hc rfl
      have hP1 : PlacesOk w1 B (some b) qs := hP.below fun c hc => by
        have : b = c := by simpa using hc
        rw [← this]
        exact e1
      exact hP1.below fun c hc => by
        have hbc : b = c := by simpa using hc
        rw [← hbc]
        exact Below.heap_setCell _ _ _ b (hP1.ne hG1)
theorem own_slice {w : World} {base : Nat} {e : TypeId} {size : Nat} {v : Value} {n : Nat} {xs : List Value} (h : w.ownsRow base e size v n xs) : ∃ av cap, v = .slice av n cap := by
  rcases own_shape h with ⟨rfl, rfl, _⟩ | ⟨g, cap, cs, rfl, _⟩
  · exact ⟨none, 0, rfl⟩
  · exact ⟨_, _, rfl⟩
theorem own_kpc {w w' : World} {ts : List TypeId} {base : Nat} {e : TypeId} {size : Nat} {v : Value} {n : Nat} {xs : List Value} (h : w.ownsRow base e size v n xs) (k : KpC ts w w') (he : e ∉ ts) : w'.ownsRow base e size v n xs := by
  rcases own_shape h with ⟨rfl, rfl, rfl⟩ | ⟨g, cap, cs, rfl, hb, hh, hn, hc, hl, ht⟩
  · exact World.ownsRow_nil _ _ _ _
  · exact own_of hb (k _ _ _ he hh) hn hc hl ht
theorem placeOf_set (fs : List Fd) (i : Nat) (f : Fd) (hf : fs[i]? = some f) (y : V) (v : V) : placeOf (fs.set i (f.1, y)) v = placeOf fs v := by
  induction fs generalizing i with
  | nil => simp at hf
  | cons a r ih =>
    cases i with
    | zero =>
      simp at hf
      subst hf
      simp [placeOf, List.findIdx?_cons]
    | succ i =>
      have := ih i (by simpa using hf)
      unfold placeOf at this ⊢
      simp only [List.set_cons_succ, List.findIdx?_cons]
      split
      · rfl
      · rw [this]
theorem placeOf_some {fs : List Fd} {v : V} {i : Nat} (h : placeOf fs v = some i) : ∃ f, fs[i]? = some f ∧ sameB f.1 v = true := by
  unfold placeOf at h
  rw [List.findIdx?_eq_some_iff_getElem] at h
  obtain ⟨hi, h1, _⟩ := h
  exact ⟨fs[i], List.getElem?_eq_getElem hi, h1⟩
theorem rowF_set4 : ∀ (fs : List Fd) (i : Nat) (f : Fd) (y : V), fs[i]? = some f → ((((rowF fs).set (i * 8 + 4) (.int .i64 y.k)).set (i * 8 + 5) (.int .i64 y.n)).set (i * 8 + 6) (.string y.s)).set (i * 8 + 7) (.int .u64 (y.l : Int)) = rowF (fs.set i (f.1, y))
  | [], i, f, y, h => by simp at h
  | a :: r, 0, f, y, h => by
    simp at h
    subst h
    simp [rowF, V.cells]
  | a :: r, i + 1, f, y, h => by
    have ih := rowF_set4 r i f y (by simpa using h)
    have e1 : ∀ (t : List Value) (k : Nat) x, ((a.1.cells.toList ++ a.2.cells.toList) ++ t).set ((i + 1) * 8 + k) x = (a.1.cells.toList ++ a.2.cells.toList) ++ t.set (i * 8 + k) x := by
      intro t k x
      rw [List.set_append_right _ _ (by simp [V.cells]; omega)]
      congr 1
      congr 1
      simp [V.cells]
      omega
    show (((((a.1.cells.toList ++ a.2.cells.toList) ++ rowF r).set ((i + 1) * 8 + 4) _).set ((i + 1) * 8 + 5) _).set ((i + 1) * 8 + 6) _).set ((i + 1) * 8 + 7) _ = (a.1.cells.toList ++ a.2.cells.toList) ++ rowF (r.set i (f.1, y))
    rw [e1, e1, e1, e1, ih]
/-- A field's value stored. -/
theorem own_val {w : World} {B : Nat} {g cap : Nat} {fs : List Fd} {i : Nat} {f : Fd} (y : V) (h : w.ownsRow B 42 8 (.slice (some ⟨g, 0, none⟩) fs.length cap) fs.length (rowF fs)) (hf : fs[i]? = some f) :
    ∃ cs, Has w g 42 cs ∧ B ≤ g ∧ (i * 8 + 7 < cs.length) ∧ ((((w.setCell ⟨g, i * 8 + 4, none⟩ (.int .i64 y.k)).setCell ⟨g, i * 8 + 5, none⟩ (.int .i64 y.n)).setCell ⟨g, i * 8 + 6, none⟩ (.string y.s)).setCell ⟨g, i * 8 + 7, none⟩ (.int .u64 (y.l : Int))).ownsRow B 42 8 (.slice (some ⟨g, 0, none⟩) fs.length cap) (fs.set i (f.1, y)).length (rowF (fs.set i (f.1, y))) := by
  have hi : i < fs.length := (List.getElem?_eq_some_iff.1 hf).1
  rcases own_shape h with ⟨h1, _⟩ | ⟨g', cap', cs, h1, hb, hh, hn, hc, hl, ht⟩
  · cases h1
  · injection h1 with h2 h3 h4
    injection h2 with h2
    injection h2 with h5
    subst h5 h4
    refine ⟨cs, hh, hb, by rw [hl]; omega, ?_⟩
    rw [List.length_set]
    refine own_of hb ((((hh.set _ _).set _ _).set _ _).set _ _) hn hc (by simpa using hl) ?_
    rw [List.take_set, List.take_set, List.take_set, List.take_set, ht]
    exact rowF_set4 fs i f y hf
set_option maxRecDepth 100000 in
set_option maxHeartbeats 4000000 in
theorem put_new_no (B T lab : Nat) (fs : List Fd) (fv sv nm : Value) (pm : Option Nat) (c0 : Nat) (hc0 : c0 < M64) (key x : V) (hv : VOk key) (hx : VOk x) (hk : keyB key = true) (hkind : key.k = 3) (w : World) (h : IsT w B T lab fs fv pm sv nm)
    (hfit : ∀ W, Below w.heap.size w W → Calls Try.prog 34 #[.pointer (some ⟨T, 0, none⟩), .string key.s, .int .i64 x.k] W fun e w' => e = .returned (.bool true) ∧ Below W.heap.size W w') (hpl : placeOf fs key = none) (hfl : flowsB (c0 ||| key.l) lab = false) : Calls Try.prog 15 #[.pointer (some ⟨T, 0, none⟩), .int .u64 (c0 : Int), key.agg, x.agg] w (PutOut w 40) := by
  have HFit := Lib.hid hfit
  clear hfit
  have hp1 : placeI fs key = 0 := by unfold placeI; rw [hpl]
  have hp2 : placeB fs key = false := by unfold placeB; rw [hpl]; rfl
  have HK := fun W => Lib.hid (keyOf_any key W)
  unfold KeyIs at HK
  rw [hk] at HK
  have HT := Lib.hid (fun (W : World) (hb : Below w.heap.size w W) => h.below hb)
  have HL := Lib.hid (fun (W : World) (hb : Below w.heap.size w W) => look_places (h.below hb).2.2.1 key hv)
  have HW := Lib.hid (fun (W : World) (lv : Value) hj => with_any x lv (c0 ||| key.l) hx.2.2.2 (or_lt hc0 hv.2.2.2) W hj)
  have HJ2 := Lib.hid (fun (W : World) (n : Nat) h0 h1 => join2c c0 key.l hc0 hv.2.2.2 W n h0 h1)
  have HJ1 := Lib.hid (fun (W : World) (n : Nat) hc => join1_any (c0 ||| key.l) (or_lt hc0 hv.2.2.2) W n hc)
  have HFl := Lib.hid (fun (W : World) (y : Nat) (hy : y < M64) => flows_any (c0 ||| key.l) y (or_lt hc0 hv.2.2.2) hy W)
  have HV := Lib.hid hv
  have HX := Lib.hid hx
  have HH := Lib.hid h
  rw [hp1, hp2] at HL
  clear hk h hp1 hp2
  obtain ⟨vk, vn, vs, vl⟩ := key
  obtain ⟨xk, xn, xs, xl⟩ := x
  simp only [V.agg, V.with, kval] at HK HL HW HJ2 HJ1 HFl ⊢
  simp only at hkind
  subst hkind
  have HA := Lib.hid (((Below.refl w.heap.size w).alloc (Nat.le_refl _) (.cells #[.int .i64 3, .int .i64 vn, .string vs, .int .u64 (vl : Int)] 35)).alloc (by simp) (.cells #[.int .i64 xk, .int .i64 xn, .string xs, .int .u64 (xl : Int)] 35))
  have HKb := Lib.hid ((Has.new w 35 [.int .i64 3, .int .i64 vn, .string vs, .int .u64 (vl : Int)]).below ((Below.refl (w.heap.size + 1) (w.alloc (.cells #[.int .i64 3, .int .i64 vn, .string vs, .int .u64 (vl : Int)] 35))).alloc (by simp) (.cells #[.int .i64 xk, .int .i64 xn, .string xs, .int .u64 (xl : Int)] 35)) (by omega))
  have hXb := Has.new (w.alloc (.cells #[.int .i64 3, .int .i64 vn, .string vs, .int .u64 (vl : Int)] 35)) 35 [.int .i64 xk, .int .i64 xn, .string xs, .int .u64 (xl : Int)]
  simp only [World.size_alloc] at hXb
  have HXb := Lib.hid hXb
  clear hXb
  go_enter Try.func15, Try.ntmps15
  go_wp2_with fail
  refine ((HK _).out).mono ?_
  rintro e w1 ⟨rfl, hb1⟩
  have B1 := HA.out.trans (hb1.mono (by simp; omega))
  have i1 := (Below.refl w1.heap.size w1).alloc (Nat.le_refl _) (.cells #[.int .i64 3, .int .i64 vn, .string vs] 76)
  have kb2 := (HKb.out.below hb1 HKb.out.lt).below i1 (HKb.out.below hb1 HKb.out.lt).lt
  have xb2 := (HXb.out.below hb1 HXb.out.lt).below i1 (HXb.out.below hb1 HXb.out.lt).lt
  have ib2 := Has.new w1 76 [.int .i64 3, .int .i64 vn, .string vs]
  have hlw : w.heap.size + 1 < w1.heap.size := (HXb.out.below hb1 HXb.out.lt).lt
  have B2 := Lib.hid (B1.trans (i1.mono B1.size))
  have KB2 := Lib.hid kb2
  have XB2 := Lib.hid xb2
  have IB2 := Lib.hid ib2
  have a0 := kb2.cell 0
  have a1 := kb2.cell 1
  have a2 := kb2.cell 2
  have a3 := kb2.cell 3
  have b0 := xb2.cell 0
  have b1 := xb2.cell 1
  have b2 := xb2.cell 2
  have b3 := xb2.cell 3
  have hl1 := kb2.lt
  have hl2 := xb2.lt
  simp at a0 a1 a2 a3 b0 b1 b2 b3 hl1 hl2
  clear hb1 B1 i1 kb2 xb2 ib2
  go_wp2_with fail
  refine (HFit.out _ B2.out).mono ?_
  rintro e w2 ⟨rfl, hb2⟩
  have B3 := Lib.hid (B2.out.trans (hb2.mono B2.out.size))
  have kb3 := KB2.out.below hb2 KB2.out.lt
  have KB3 := Lib.hid kb3
  have XB3 := Lib.hid (XB2.out.below hb2 XB2.out.lt)
  have IB3 := Lib.hid (IB2.out.below hb2 IB2.out.lt)
  clear hb2 B2 KB2 XB2 IB2 a0 a1 a2 a3 b0 b1 b2 b3 hl1 hl2
  have a3 := kb3.cell 3
  have hl1 := kb3.lt
  simp at a3
  clear kb3
  have j3 := Has.new w2 23 [.int .u64 (c0 : Int), .int .u64 (vl : Int)]
  have J3 := Lib.hid (HJ2.out _ w2.heap.size (j3.cell 0) (j3.cell 1))
  clear j3
  go_wp2_with fail
  refine (J3.out).mono ?_
  rintro e w3 ⟨rfl, hw⟩
  have i3 := (Below.refl w2.heap.size w2).alloc (Nat.le_refl _) (.cells #[.int .u64 (c0 : Int), .int .u64 (vl : Int)] 23)
  rw [hw] at i3
  have B4 := Lib.hid (B3.out.trans (i3.mono B3.out.size))
  have KB4 := Lib.hid (KB3.out.below i3 KB3.out.lt)
  have xb4 := XB3.out.below i3 XB3.out.lt
  have XB4 := Lib.hid xb4
  have IB4 := Lib.hid (IB3.out.below i3 IB3.out.lt)
  have b0 := xb4.cell 0
  have b1 := xb4.cell 1
  have b2 := xb4.cell 2
  have b3 := xb4.cell 3
  have hl2 := xb4.lt
  simp at b0 b1 b2 b3
  clear hw i3 B3 KB3 XB3 IB3 J3 a3 hl1 xb4
  have j4 := Has.new w3 23 [.int .u64 ((c0 ||| vl : Nat) : Int)]
  have J4 := Lib.hid (HW.out (w3.alloc (.cells #[.int .u64 ((c0 ||| vl : Nat) : Int)] 23)) (.slice (some ⟨w3.heap.size, 0, none⟩) 1 1) (fun W hb => HJ1.out W w3.heap.size ((j4.below hb j4.lt).cell 0)))
  clear j4
  go_wp2_with fail
  refine (J4.out).mono ?_
  rintro e w5 ⟨rfl, hb5⟩
  have i4 := ((Below.refl w3.heap.size w3).alloc (Nat.le_refl _) (.cells #[.int .u64 ((c0 ||| vl : Nat) : Int)] 23)).trans (hb5.mono (by simp))
  have B5 := B4.out.trans (i4.mono B4.out.size)
  have kb5 := KB4.out.below i4 KB4.out.lt
  have xb5 := XB4.out.below i4 XB4.out.lt
  have ib5 := IB4.out.below i4 IB4.out.lt
  have hne : w1.heap.size ≠ w.heap.size + 1 := by omega
  have XB6 := Lib.hid (set4_self (x0 := .int .i64 xk) (x1 := .int .i64 xn) (x2 := .string xs) (x3 := .int .u64 ((xl ||| (c0 ||| vl) : Nat) : Int)) xb5)
  have KB6 := Lib.hid (set4_has (x0 := .int .i64 xk) (x1 := .int .i64 xn) (x2 := .string xs) (x3 := .int .u64 ((xl ||| (c0 ||| vl) : Nat) : Int)) kb5 (b := w.heap.size + 1) (by omega))
  have IB6 := Lib.hid (set4_has (x0 := .int .i64 xk) (x1 := .int .i64 xn) (x2 := .string xs) (x3 := .int .u64 ((xl ||| (c0 ||| vl) : Nat) : Int)) ib5 (b := w.heap.size + 1) hne)
  have B6 := Lib.hid (set4_below (x0 := .int .i64 xk) (x1 := .int .i64 xn) (x2 := .string xs) (x3 := .int .u64 ((xl ||| (c0 ||| vl) : Nat) : Int)) (b := w.heap.size + 1) B5 (by omega))
  have b0 := xb5.cell 0
  have b1 := xb5.cell 1
  have b2 := xb5.cell 2
  have b3 := xb5.cell 3
  have f0 := xb5.frozen 0
  have f1 := xb5.frozen 1
  have f2 := xb5.frozen 2
  have f3 := xb5.frozen 3
  have hl2 := xb5.lt
  simp at b0 b1 b2 b3
  clear hb5 i4 B5 kb5 xb5 ib5 B4 KB4 XB4 IB4 J4
  go_wp2
  clear b0 b1 b2 b3 f0 f1 f2 f3 hl2
  generalize World.setCell _ ⟨_, 3, none⟩ _ = W6 at XB6 KB6 IB6 B6 ⊢
  have t2 := (HT.out _ B6.out).1.cell 2
  have hlT := (HT.out _ B6.out).1.lt
  simp only [List.getElem?_cons_succ, List.getElem?_cons_zero] at t2
  have i0 := IB6.out.cell 0
  have i1 := IB6.out.cell 1
  have i2 := IB6.out.cell 2
  have hli := IB6.out.lt
  simp at i0 i1 i2
  have hlk := fun n => HL.out _ (below_drewN B6.out n)
  go_quiet (fail)
  have XB7 := Lib.hid (XB6.out.keepsT ((KeepsT.refl [] _).drewN nq) (by simp))
  have KB7 := Lib.hid (KB6.out.keepsT ((KeepsT.refl [] _).drewN nq) (by simp))
  have IB7 := Lib.hid (IB6.out.keepsT ((KeepsT.refl [] _).drewN nq) (by simp))
  have B7 := Lib.hid (below_drewN B6.out nq)
  generalize World.drewN _ nq = W7 at XB7 KB7 IB7 B7 ⊢
  clear XB6 KB6 IB6 B6 t2 hlT i0 i1 i2 hli hlk
  have t0 := (HT.out _ B7.out).1.cell 0
  have hlT := (HT.out _ B7.out).1.lt
  have hlab := HH.out.2.2.2.2.1
  simp only [List.getElem?_cons_zero] at t0
  have F7 := fun W => Lib.hid (HFl.out W lab hlab)
  rw [hfl] at F7
  clear hfl hlab
  go_wp2_with fail
  refine ((F7 _).out).mono ?_
  rintro e w8 ⟨rfl, hw⟩
  subst hw
  go_wp2
  go_ret
  exact ⟨rfl, B7.out⟩
set_option maxRecDepth 100000 in
set_option maxHeartbeats 4000000 in
theorem put_new_first (B T lab : Nat) (fs : List Fd) (fv sv nm : Value) (pm : Option Nat) (c0 : Nat) (hc0 : c0 < M64) (key x : V) (hv : VOk key) (hx : VOk x) (hk : keyB key = true) (hkind : key.k = 3) (w : World) (h : IsT w B T lab fs fv pm sv nm)
    (hfit : ∀ W, Below w.heap.size w W → Calls Try.prog 34 #[.pointer (some ⟨T, 0, none⟩), .string key.s, .int .i64 x.k] W fun e w' => e = .returned (.bool true) ∧ Below W.heap.size W w') (hBw : B ≤ w.heap.size) (hpm : pm = none) (hfl : flowsB (c0 ||| key.l) lab = true) : Calls Try.prog 15 #[.pointer (some ⟨T, 0, none⟩), .int .u64 (c0 : Int), key.agg, x.agg] w (PutDid w B T lab (fs ++ [({ key with l := 0 }, x.with (c0 ||| key.l))]) fv none sv nm) := by
  have HFit := Lib.hid hfit
  clear hfit
  subst hpm
  have hfs : fs = [] := h.2.2.1
  subst hfs
  have hp1 : placeI [] key = 0 := rfl
  have hp2 : placeB [] key = false := rfl
  have HK := fun W => Lib.hid (keyOf_any key W)
  unfold KeyIs at HK
  rw [hk] at HK
  have HT := Lib.hid (fun (W : World) (hb : Below w.heap.size w W) => h.below hb)
  have HL := Lib.hid (fun (W : World) (hb : Below w.heap.size w W) => look_places (h.below hb).2.2.1 key hv)
  have HW := Lib.hid (fun (W : World) (lv : Value) hj => with_any x lv (c0 ||| key.l) hx.2.2.2 (or_lt hc0 hv.2.2.2) W hj)
  have HJ2 := Lib.hid (fun (W : World) (n : Nat) h0 h1 => join2c c0 key.l hc0 hv.2.2.2 W n h0 h1)
  have HJ1 := Lib.hid (fun (W : World) (n : Nat) hc => join1_any (c0 ||| key.l) (or_lt hc0 hv.2.2.2) W n hc)
  have HFl := Lib.hid (fun (W : World) (y : Nat) (hy : y < M64) => flows_any (c0 ||| key.l) y (or_lt hc0 hv.2.2.2) hy W)
  have HV := Lib.hid hv
  have HX := Lib.hid hx
  have HH := Lib.hid h
  rw [hp1, hp2] at HL
  clear hk h hp1 hp2
  obtain ⟨vk, vn, vs, vl⟩ := key
  obtain ⟨xk, xn, xs, xl⟩ := x
  simp only [V.agg, V.with, kval] at HK HL HW HJ2 HJ1 HFl ⊢
  simp only at hkind
  subst hkind
  have HA := Lib.hid (((Below.refl w.heap.size w).alloc (Nat.le_refl _) (.cells #[.int .i64 3, .int .i64 vn, .string vs, .int .u64 (vl : Int)] 35)).alloc (by simp) (.cells #[.int .i64 xk, .int .i64 xn, .string xs, .int .u64 (xl : Int)] 35))
  have HKb := Lib.hid ((Has.new w 35 [.int .i64 3, .int .i64 vn, .string vs, .int .u64 (vl : Int)]).below ((Below.refl (w.heap.size + 1) (w.alloc (.cells #[.int .i64 3, .int .i64 vn, .string vs, .int .u64 (vl : Int)] 35))).alloc (by simp) (.cells #[.int .i64 xk, .int .i64 xn, .string xs, .int .u64 (xl : Int)] 35)) (by omega))
  have hXb := Has.new (w.alloc (.cells #[.int .i64 3, .int .i64 vn, .string vs, .int .u64 (vl : Int)] 35)) 35 [.int .i64 xk, .int .i64 xn, .string xs, .int .u64 (xl : Int)]
  simp only [World.size_alloc] at hXb
  have HXb := Lib.hid hXb
  clear hXb
  go_enter Try.func15, Try.ntmps15
  go_wp2_with fail
  refine ((HK _).out).mono ?_
  rintro e w1 ⟨rfl, hb1⟩
  have B1 := HA.out.trans (hb1.mono (by simp; omega))
  have i1 := (Below.refl w1.heap.size w1).alloc (Nat.le_refl _) (.cells #[.int .i64 3, .int .i64 vn, .string vs] 76)
  have kb2 := (HKb.out.below hb1 HKb.out.lt).below i1 (HKb.out.below hb1 HKb.out.lt).lt
  have xb2 := (HXb.out.below hb1 HXb.out.lt).below i1 (HXb.out.below hb1 HXb.out.lt).lt
  have ib2 := Has.new w1 76 [.int .i64 3, .int .i64 vn, .string vs]
  have hlw : w.heap.size + 1 < w1.heap.size := (HXb.out.below hb1 HXb.out.lt).lt
  have B2 := Lib.hid (B1.trans (i1.mono B1.size))
  have KB2 := Lib.hid kb2
  have XB2 := Lib.hid xb2
  have IB2 := Lib.hid ib2
  have a0 := kb2.cell 0
  have a1 := kb2.cell 1
  have a2 := kb2.cell 2
  have a3 := kb2.cell 3
  have b0 := xb2.cell 0
  have b1 := xb2.cell 1
  have b2 := xb2.cell 2
  have b3 := xb2.cell 3
  have hl1 := kb2.lt
  have hl2 := xb2.lt
  simp at a0 a1 a2 a3 b0 b1 b2 b3 hl1 hl2
  clear hb1 B1 i1 kb2 xb2 ib2
  go_wp2_with fail
  refine (HFit.out _ B2.out).mono ?_
  rintro e w2 ⟨rfl, hb2⟩
  have B3 := Lib.hid (B2.out.trans (hb2.mono B2.out.size))
  have kb3 := KB2.out.below hb2 KB2.out.lt
  have KB3 := Lib.hid kb3
  have XB3 := Lib.hid (XB2.out.below hb2 XB2.out.lt)
  have IB3 := Lib.hid (IB2.out.below hb2 IB2.out.lt)
  clear hb2 B2 KB2 XB2 IB2 a0 a1 a2 a3 b0 b1 b2 b3 hl1 hl2
  have a3 := kb3.cell 3
  have hl1 := kb3.lt
  simp at a3
  clear kb3
  have j3 := Has.new w2 23 [.int .u64 (c0 : Int), .int .u64 (vl : Int)]
  have J3 := Lib.hid (HJ2.out _ w2.heap.size (j3.cell 0) (j3.cell 1))
  clear j3
  go_wp2_with fail
  refine (J3.out).mono ?_
  rintro e w3 ⟨rfl, hw⟩
  have i3 := (Below.refl w2.heap.size w2).alloc (Nat.le_refl _) (.cells #[.int .u64 (c0 : Int), .int .u64 (vl : Int)] 23)
  rw [hw] at i3
  have B4 := Lib.hid (B3.out.trans (i3.mono B3.out.size))
  have KB4 := Lib.hid (KB3.out.below i3 KB3.out.lt)
  have xb4 := XB3.out.below i3 XB3.out.lt
  have XB4 := Lib.hid xb4
  have IB4 := Lib.hid (IB3.out.below i3 IB3.out.lt)
  have b0 := xb4.cell 0
  have b1 := xb4.cell 1
  have b2 := xb4.cell 2
  have b3 := xb4.cell 3
  have hl2 := xb4.lt
  simp at b0 b1 b2 b3
  clear hw i3 B3 KB3 XB3 IB3 J3 a3 hl1 xb4
  have j4 := Has.new w3 23 [.int .u64 ((c0 ||| vl : Nat) : Int)]
  have J4 := Lib.hid (HW.out (w3.alloc (.cells #[.int .u64 ((c0 ||| vl : Nat) : Int)] 23)) (.slice (some ⟨w3.heap.size, 0, none⟩) 1 1) (fun W hb => HJ1.out W w3.heap.size ((j4.below hb j4.lt).cell 0)))
  clear j4
  go_wp2_with fail
  refine (J4.out).mono ?_
  rintro e w5 ⟨rfl, hb5⟩
  have i4 := ((Below.refl w3.heap.size w3).alloc (Nat.le_refl _) (.cells #[.int .u64 ((c0 ||| vl : Nat) : Int)] 23)).trans (hb5.mono (by simp))
  have B5 := B4.out.trans (i4.mono B4.out.size)
  have kb5 := KB4.out.below i4 KB4.out.lt
  have xb5 := XB4.out.below i4 XB4.out.lt
  have ib5 := IB4.out.below i4 IB4.out.lt
  have hne : w1.heap.size ≠ w.heap.size + 1 := by omega
  have XB6 := Lib.hid (set4_self (x0 := .int .i64 xk) (x1 := .int .i64 xn) (x2 := .string xs) (x3 := .int .u64 ((xl ||| (c0 ||| vl) : Nat) : Int)) xb5)
  have KB6 := Lib.hid (set4_has (x0 := .int .i64 xk) (x1 := .int .i64 xn) (x2 := .string xs) (x3 := .int .u64 ((xl ||| (c0 ||| vl) : Nat) : Int)) kb5 (b := w.heap.size + 1) (by omega))
  have IB6 := Lib.hid (set4_has (x0 := .int .i64 xk) (x1 := .int .i64 xn) (x2 := .string xs) (x3 := .int .u64 ((xl ||| (c0 ||| vl) : Nat) : Int)) ib5 (b := w.heap.size + 1) hne)
  have B6 := Lib.hid (set4_below (x0 := .int .i64 xk) (x1 := .int .i64 xn) (x2 := .string xs) (x3 := .int .u64 ((xl ||| (c0 ||| vl) : Nat) : Int)) (b := w.heap.size + 1) B5 (by omega))
  have b0 := xb5.cell 0
  have b1 := xb5.cell 1
  have b2 := xb5.cell 2
  have b3 := xb5.cell 3
  have f0 := xb5.frozen 0
  have f1 := xb5.frozen 1
  have f2 := xb5.frozen 2
  have f3 := xb5.frozen 3
  have hl2 := xb5.lt
  simp at b0 b1 b2 b3
  clear hb5 i4 B5 kb5 xb5 ib5 B4 KB4 XB4 IB4 J4
  go_wp2
  clear b0 b1 b2 b3 f0 f1 f2 f3 hl2
  generalize World.setCell _ ⟨_, 3, none⟩ _ = W6 at XB6 KB6 IB6 B6 ⊢
  have t2 := (HT.out _ B6.out).1.cell 2
  have hlT := (HT.out _ B6.out).1.lt
  simp only [List.getElem?_cons_succ, List.getElem?_cons_zero] at t2
  have i0 := IB6.out.cell 0
  have i1 := IB6.out.cell 1
  have i2 := IB6.out.cell 2
  have hli := IB6.out.lt
  simp at i0 i1 i2
  have hlk := fun n => HL.out _ (below_drewN B6.out n)
  go_quiet (fail)
  have XB7 := Lib.hid (XB6.out.keepsT ((KeepsT.refl [] _).drewN nq) (by simp))
  have KB7 := Lib.hid (KB6.out.keepsT ((KeepsT.refl [] _).drewN nq) (by simp))
  have IB7 := Lib.hid (IB6.out.keepsT ((KeepsT.refl [] _).drewN nq) (by simp))
  have B7 := Lib.hid (below_drewN B6.out nq)
  generalize World.drewN _ nq = W7 at XB7 KB7 IB7 B7 ⊢
  clear XB6 KB6 IB6 B6 t2 hlT i0 i1 i2 hli hlk
  have t0 := (HT.out _ B7.out).1.cell 0
  have t2 := (HT.out _ B7.out).1.cell 2
  have ft2 := (HT.out _ B7.out).1.frozen 2
  have hlT := (HT.out _ B7.out).1.lt
  have hlab := HH.out.2.2.2.2.1
  simp only [List.getElem?_cons_zero, List.getElem?_cons_succ] at t0 t2
  have F7 := fun W => Lib.hid (HFl.out W lab hlab)
  rw [hfl] at F7
  clear hfl hlab
  have hmy := map_yes
  have hmm := @run_makeMap Try.prog
  go_wp2_with fail
  refine ((F7 _).out).mono ?_
  rintro e w8 ⟨rfl, hw⟩
  subst hw
  go_wp2
  have IT7 := HT.out _ B7.out
  have hlT7 := IT7.1.lt
  have hTw : T ≠ w.heap.size := by have := HH.out.1.lt; omega
  have hTx : T ≠ w.heap.size + 1 := by have := HH.out.1.lt; omega
  have hTi : T ≠ w1.heap.size := by have := HH.out.1.lt; omega
  have hz7 : (W7.setCell ⟨T, 2, none⟩ (.map (some W7.heap.size))).heap.size = W7.heap.size := by simp [World.setCell]
  have k7 : ∀ G t cs, T ≠ G → Has W7 G t cs → Has ((W7.setCell ⟨T, 2, none⟩ (.map (some W7.heap.size))).alloc (.map #[] 0)) G t cs := fun G t cs hne hh => ((hh.keeps (Keeps.set W7 T 2 (.map (some W7.heap.size))) (by simpa using Ne.symm hne)).keepsT ((KeepsT.refl [] _).alloc (.map #[] 0)) (by simp))
  have KB8 := Lib.hid (k7 _ _ _ hTw KB7.out)
  have XB8 := Lib.hid (k7 _ _ _ hTx XB7.out)
  have IB8 := Lib.hid (k7 _ _ _ hTi IB7.out)
  have hT8 : Has ((W7.setCell ⟨T, 2, none⟩ (.map (some W7.heap.size))).alloc (.map #[] 0)) T 66 [.int .u64 (lab : Int), fv, .map (some W7.heap.size), sv, nm] := (IT7.1.set 2 (.map (some W7.heap.size))).keepsT ((KeepsT.refl [] _).alloc (.map #[] 0)) (by simp)
  have hO8 : ((W7.setCell ⟨T, 2, none⟩ (.map (some W7.heap.size))).alloc (.map #[] 0)).ownsRow B 42 8 fv ([] : List Fd).length (rowF []) := (own_keeps IT7.2.1 (Keeps.set W7 T 2 (.map (some W7.heap.size))) (fun g hg => by
    have := own_ne IT7.2.1 IT7.1 (by decide) g hg
    simpa using this)).alloc _
  have hB7s : B ≤ W7.heap.size := Nat.le_trans hBw B7.out.size
  have hP8 : PlacesOk ((W7.setCell ⟨T, 2, none⟩ (.map (some W7.heap.size))).alloc (.map #[] 0)) B (some W7.heap.size) [] := by
    refine ⟨hB7s, .map [], ?_, fun v kl hv hkl => ⟨rfl, rfl⟩⟩
    have := World.ownsMap_made (H := Unit) (W7.setCell ⟨T, 2, none⟩ (.map (some W7.heap.size))) Try.prog 76 (plainElem Try.prog 3)
    rw [hz7] at this
    exact this
  have HT8 : Hid (IsT ((W7.setCell ⟨T, 2, none⟩ (.map (some W7.heap.size))).alloc (.map #[] 0)) B T lab [] fv (some W7.heap.size) sv nm) := Lib.hid ⟨hT8, hO8, hP8, IT7.2.2.2⟩
  have KP8 : Hid (KpC [66, 42] w ((W7.setCell ⟨T, 2, none⟩ (.map (some W7.heap.size))).alloc (.map #[] 0))) := Lib.hid (((KpC.of (KeepsT.below B7.out []) (by simp)).trans (KpC.keeps (Keeps.set W7 T 2 (.map (some W7.heap.size))) IT7.1 (by simp))).trans (KpC.of ((KeepsT.refl [] _).alloc (.map #[] 0)) (by simp)))
  have KM8 : Hid (Keeps [T] w ((W7.setCell ⟨T, 2, none⟩ (.map (some W7.heap.size))).alloc (.map #[] 0))) := Lib.hid (((Keeps.below' B7.out [T]).trans (Keeps.set W7 T 2 (.map (some W7.heap.size))) (by simp)).trans (Keeps.alloc [] _ (.map #[] 0)) (by simp))
  have hmbN := B7.out.size
  have HB8 : Hid (Below B w ((W7.setCell ⟨T, 2, none⟩ (.map (some W7.heap.size))).alloc (.map #[] 0))) := Lib.hid (((B7.out.mono hBw).setCell (p := ⟨T, 2, none⟩) IT7.2.2.2.1 (.map (some W7.heap.size))).alloc (by rw [hz7]; exact hB7s) (.map #[] 0))
  have hpl : placeOf ([] : List Fd) ⟨3, vn, vs, vl⟩ = none := rfl
  clear IT7 k7 hT8 hO8 hP8 t0 t2 ft2 hlT hlT7 hmy hmm F7
  change Code.wp _ _ _ _ (World.alloc (World.setCell _ _ _) _)
  generalize World.alloc (World.setCell _ _ _) _ = W8 at KB8 XB8 IB8 HT8 KP8 KM8 HB8 ⊢
  generalize W7.heap.size = mb at HT8 hB7s hmbN ⊢
  have hT8 := HT8.out.1
  have t1 := hT8.cell 1
  have t2 := hT8.cell 2
  have hlT := hT8.lt
  simp only [List.getElem?_cons_zero, List.getElem?_cons_succ] at t1 t2
  have ib8 := IB8.out
  have i0 := ib8.cell 0
  have i1 := ib8.cell 1
  have i2 := ib8.cell 2
  have hli := ib8.lt
  simp at i0 i1 i2
  obtain ⟨av1, cp1, hfv⟩ := own_slice HT8.out.2.1
  subst hfv
  obtain ⟨w9, hup, hP9, hm9⟩ := put_places (w := W8.drew) HT8.out.2.2.1 (by have := HT8.out.2.2.2.2.2.2; omega) ⟨3, vn, vs, vl⟩ HV.out hpl ⟨3, vn, vs, 0⟩ ⟨xk, xn, xs, xl ||| (c0 ||| vl)⟩ rfl
  simp only [kval] at hup
  change Sem.run _ (Instr.mapUpdate _ _ _ (.int .i64 0)) _ = _ at hup
  have hg9 := hm9.grown
  have KP9 : KpC [66, 42] W8 w9 := KpC.turned (a := W8.drew) hm9
  have T9 := Lib.hid (KpC.turned (ts := []) hm9 _ _ _ (by simp) HT8.out.1.drew)
  have R9 := Lib.hid (own_kpc HT8.out.2.1 (KpC.turned (ts := []) (a := W8.drew) hm9) (by simp))
  have P9 := Lib.hid hP9
  have KB9 := KP9 _ _ _ (by simp) KB8.out
  have XB9 := KP9 _ _ _ (by simp) XB8.out
  have B9 : Below B W8 w9 := ((Below.refl B W8).drew).grown hg9 (by have := HB8.out.size; simp; omega) (fun g hg => by
    have : g = mb := by simpa using hg.symm
    rw [this]
    exact HT8.out.2.2.1.1)
  have k3 := KB9.cell 3
  have kf3 := KB9.frozen 3
  have hlk9 := KB9.lt
  simp at k3
  have KB10 := Lib.hid (KB9.set 3 (.int .u64 0))
  have hneXK : w.heap.size + 1 ≠ w.heap.size := by omega
  have XB10 := Lib.hid (XB9.keeps (Keeps.set w9 w.heap.size 3 (.int .u64 0)) (by simp))
  have KP10 := Lib.hid ((KP8.out.trans KP9))
  have KM10 : Hid (Keeps [T] w (w9.setCell ⟨w.heap.size, 3, none⟩ (.int .u64 0))) := Lib.hid (((KM8.out.trans (Keeps.drew [] W8) (by simp)).trans (Keeps.grown hg9) (fun x hx => .inr (by simp at hx; omega))).trans (Keeps.set w9 w.heap.size 3 (.int .u64 0)) (by simp))
  have hTne : T ≠ w.heap.size := by have := HH.out.1.lt; omega
  have T10 := Lib.hid (T9.out.keeps (Keeps.set w9 w.heap.size 3 (.int .u64 0)) (by simpa using hTne))
  have R10 := Lib.hid (own_keeps R9.out (Keeps.set w9 w.heap.size 3 (.int .u64 0)) (fun g hg => by
    have := own_ne R9.out KB9 (by decide) g hg
    simpa using this))
  have P10 := Lib.hid (P9.out.below (w' := w9.setCell ⟨w.heap.size, 3, none⟩ (.int .u64 0)) (fun b hb => by
    have : mb = b := by simpa using hb
    subst this
    exact Below.heap_setCell _ _ _ _ (P9.out.ne KB9)))
  have B10 := Lib.hid ((HB8.out.trans B9).setCell (p := ⟨w.heap.size, 3, none⟩) hBw (.int .u64 0))
  have S10 : B ≤ (w9.setCell ⟨w.heap.size, 3, none⟩ (.int .u64 0)).heap.size := by have h1 := HB8.out.size; have h2 := B9.size; simp [World.setCell]; omega
  have KPL := Lib.hid (show KpC [66, 42, 35] w9 (w9.setCell ⟨w.heap.size, 3, none⟩ (.int .u64 0)) from KpC.keeps (Keeps.set w9 w.heap.size 3 (.int .u64 0)) KB9 (by simp))
  have KOld := Lib.hid (show ∀ G t cs, G ≠ w.heap.size → Has w9 G t cs → Has (w9.setCell ⟨w.heap.size, 3, none⟩ (.int .u64 0)) G t cs from fun G t cs hne hh => hh.keeps (Keeps.set w9 w.heap.size 3 (.int .u64 0)) (by simpa using hne))
  have HL8 := HT8.out.2.2.2.2.2.2
  clear hT8 ib8 hP9 hm9 hg9 KP9 KB9 XB9 B9 T9 R9 P9
  refine wp_region_still_tail 10 (by kernel_rfl) (by kernel_rfl) ?_
  simp only [List.take_succ_cons, List.take_zero, List.drop_succ_cons, List.drop_zero]
  change wpStill _ _ (World.drew _) (fun a' => wpList _ _ _ _ a' (World.drew _)) _ _
  have hdc : ∀ p, W8.drew.cell? p = W8.cell? p := fun _ => rfl
  rw [← hdc] at t1 t2 i0 i1 i2
  have hds : W8.drew.heap.size = W8.heap.size := rfl
  rw [← hds] at hlT hli
  clear hdc hds
  generalize World.drew W8 = W8d at *
  repeat still_step
  refine wpStill_nil ?_
  go_wp2
  change Code.wp _ _ _ _ (World.setCell w9 _ _)
  generalize World.setCell w9 _ _ = W10 at KB10 XB10 T10 R10 P10 B10 S10 KPL KOld KM10 ⊢
  obtain ⟨g', cap', w11, hrun, a0, a1, a2, hT11, hO11, hP11, hk11, ⟨hkp11, hg11⟩, hb11⟩ := app_T B T ([] : List Fd) ⟨3, vn, vs, 0⟩ ⟨xk, xn, xs, xl ||| (c0 ||| vl)⟩ _ _ _ _ _ (some mb) _ HL8 W10 S10 T10.out R10.out P10.out HH.out.2.2.2.1
  simp only [fcells, V.cells, List.cons_append, List.nil_append] at hrun
  have c0' := T10.out.cell 1
  simp only [List.getElem?_cons_zero, List.getElem?_cons_succ] at c0'
  have e0 := KB10.out.cell 0
  have e1 := KB10.out.cell 1
  have e2 := KB10.out.cell 2
  have e3 := KB10.out.cell 3
  simp at e0 e1 e2 e3
  have hle := KB10.out.lt
  have d0 := XB10.out.cell 0
  have d1 := XB10.out.cell 1
  have d2 := XB10.out.cell 2
  have d3 := XB10.out.cell 3
  simp at d0 d1 d2 d3
  have hld := XB10.out.lt
  have hlT10 := T10.out.lt
  have HEnd : Hid (PutDid w B T lab (([] : List Fd) ++ [(⟨3, vn, vs, 0⟩, ⟨xk, xn, xs, xl ||| (c0 ||| vl)⟩)]) (.slice av1 ([] : List Fd).length cp1) none sv nm (.returned (.int .i64 0)) (w11.setCell ⟨T, 1, none⟩ (.slice (some ⟨g', 0, none⟩) (([] : List Fd).length + 1) cap'))) := Lib.hid (by
    refine ⟨rfl, _, some mb, ⟨hT11, hO11, hP11, HH.out.2.2.2.1, HH.out.2.2.2.2.1, fun f hf => ?_, by simp⟩, ?_, ⟨tblk_keeps KM10.out (by simp) hkp11, tblk_fresh KM10.out.size hg11 (fun c hc => .inr (by simp at hc; omega))⟩, B10.out.trans hb11⟩
    · rcases List.mem_append.1 hf with h9 | h9
      · exact HH.out.2.2.2.2.2.1 f h9
      · have : f = (⟨3, vn, vs, 0⟩, ⟨xk, xn, xs, xl ||| (c0 ||| vl)⟩) := by simpa using h9
        subst this
        exact ⟨⟨HV.out.1, HV.out.2.1, HV.out.2.2.1, (by decide : (0 : Nat) < M64)⟩, ⟨HX.out.1, HX.out.2.1, HX.out.2.2.1, or_lt HX.out.2.2.2 (or_lt hc0 HV.out.2.2.2)⟩⟩
    · exact fun G t cs ht hh => hk11 G t cs ht (KOld.out G t cs (Nat.ne_of_lt hh.lt) (KP10.out G t cs ht hh)))
  clear hT11 hO11 hP11 hk11 hb11 KB10 XB10 T10 R10 P10 B10 KPL KOld KP10 KM10 hkp11 hg11 hup t1 t2 i0 i1 i2 hlT hli k3 kf3 hlk9
  go_region_law (refine step_append_own rfl (.tmp 107) (.tmp 111) 30 rfl _ _ _ _ rfl rfl hrun ?_)
  all_goals
    clear hrun
    go_wp2
    go_ret
    exact HEnd.out
end TabD
end Go.Proofs.Ytpmbbkhhnkhcbaa
