/- A table's block; its small functions. -/
import Derived.Test.YtpmbbkhhnkhcbaaTab1
namespace Go.Proofs.Ytpmbbkhhnkhcbaa
open Go.RowKit ObjM Go.Maps
namespace TabD
open LabelM LabelD ValD

def rowF (fs : List Fd) : List Value := fs.flatMap fun f => f.1.cells.toList ++ f.2.cells.toList
theorem rowF_len (fs : List Fd) : (rowF fs).length = fs.length * 8 := by
  induction fs with
  | nil => rfl
  | cons a r ih => simp [rowF, V.cells] at ih ⊢; omega
theorem rowF_at : ∀ (l : List Fd) (i : Nat) (e : Fd), l[i]? = some e → ∀ j, j < 8 → (rowF l)[i * 8 + j]? = (e.1.cells.toList ++ e.2.cells.toList)[j]?
  | [], i, e, h, j, hj => by simp at h
  | a :: r, 0, e, h, j, hj => by
    simp at h
    subst h
    show ((a.1.cells.toList ++ a.2.cells.toList) ++ rowF r)[0 * 8 + j]? = _
    rw [List.getElem?_append_left (by simp [V.cells]; omega), Nat.zero_mul, Nat.zero_add]
  | a :: r, i + 1, e, h, j, hj => by
    show ((a.1.cells.toList ++ a.2.cells.toList) ++ rowF r)[(i + 1) * 8 + j]? = _
    rw [List.getElem?_append_right (by simp [V.cells]; omega)]
    have e1 : (i + 1) * 8 + j - (a.1.cells.toList ++ a.2.cells.toList).length = i * 8 + j := by simp [V.cells]; omega
    rw [e1]
    exact rowF_at r i e (by simpa using h) j hj
theorem rowF_snoc (l : List Fd) (e : Fd) : rowF (l ++ [e]) = rowF l ++ (e.1.cells.toList ++ e.2.cells.toList) := by simp [rowF]
def keyB (v : V) : Bool := (v.k == 2 || v.k == 3) && checkB v
def KeyIs (w : World) (v : V) (e : Ending) (w' : World) : Prop := e = .returned (.tuple #[kval v, .bool (keyB v)]) ∧ Below w.heap.size w w'
set_option maxRecDepth 100000 in
set_option maxHeartbeats 1000000 in
theorem keyOf_any (v : V) (w : World) : Calls Try.prog 33 #[v.agg] w (KeyIs w v) := by
  have HC := fun W => Lib.hid (check_any v W)
  have hA : ∀ o p : Go.Obj, Below w.heap.size w ((w.alloc o).alloc p) := fun o p => ((Below.refl _ w).alloc (Nat.le_refl _) o).alloc (by simp) p
  obtain ⟨c, hc⟩ : ∃ c, checkB v = c := ⟨_, rfl⟩
  simp only [hc] at HC
  have hcase : (v.k = 2 ∧ keyB v = c) ∨ (v.k = 3 ∧ keyB v = c) ∨ ((v.k == 2) = false ∧ (v.k == 3) = false ∧ keyB v = false) := by
    unfold keyB
    rw [hc]
    by_cases h2 : v.k = 2
    · exact .inl ⟨h2, by simp [h2]⟩
    · by_cases h3 : v.k = 3
      · exact .inr (.inl ⟨h3, by simp [h3]⟩)
      · exact .inr (.inr ⟨by simpa using h2, by simpa using h3, by simp [h2, h3]⟩)
  obtain ⟨kb, hkb⟩ : ∃ c, keyB v = c := ⟨_, rfl⟩
  unfold KeyIs
  rw [hkb] at hcase ⊢
  clear hc hkb
  obtain ⟨vk, vn, vs, vl⟩ := v
  simp only [V.agg, kval] at HC hcase ⊢
  rcases hcase with ⟨rfl, rfl⟩ | ⟨rfl, rfl⟩ | ⟨h2, h3, rfl⟩
  · go_enter Try.func33, Try.ntmps33
    go_wp2_with fail
    with_reducible refine ((HC _).out).mono ?_
    rintro e w1 ⟨rfl, hb1⟩
    have h1 := (Has.new w 35 [.int .i64 2, .int .i64 vn, .string vs, .int .u64 (vl : Int)]).keepsT ((KeepsT.refl [] _).alloc (.cells #[.int .i64 0, .int .i64 0, .string ⟨#[]⟩] 76)) (by simp)
    have h2 := Has.new (w.alloc (.cells #[.int .i64 2, .int .i64 vn, .string vs, .int .u64 (vl : Int)] 35)) 76 [.int .i64 0, .int .i64 0, .string ⟨#[]⟩]
    simp only [World.size_alloc] at h2
    have g1 := h1.below hb1 h1.lt
    have g2 := h2.below hb1 h2.lt
    have HB := Lib.hid ((hA (.cells #[.int .i64 2, .int .i64 vn, .string vs, .int .u64 (vl : Int)] 35) (.cells #[.int .i64 0, .int .i64 0, .string ⟨#[]⟩] 76)).trans (hb1.mono (by simp; omega)))
    have a0 := g1.cell 0
    have a1 := g1.cell 1
    have a2 := g1.cell 2
    have b0 := g2.cell 0
    have b1 := g2.cell 1
    have b2 := g2.cell 2
    have f0 := g2.frozen 0
    have f1 := g2.frozen 1
    have f2 := g2.frozen 2
    have hl1 := g1.lt
    have hl2 := g2.lt
    simp at a0 a1 a2 b0 b1 b2
    have hG := Lib.hid (((g2.set 0 (.int .i64 2)).set 1 (.int .i64 vn)).set 2 (.string vs))
    have hBB := Lib.hid (((HB.out.setCell (p := ⟨w.heap.size + 1, 0, none⟩) (by simp) (.int .i64 2)).setCell (p := ⟨w.heap.size + 1, 1, none⟩) (by simp) (.int .i64 vn)).setCell (p := ⟨w.heap.size + 1, 2, none⟩) (by simp) (.string vs))
    clear h1 h2 g1 g2 hb1
    go_wp2
    generalize World.setCell _ ⟨_, 2, none⟩ _ = w9 at hG hBB ⊢
    have e0 := hG.out.cell 0
    have e1 := hG.out.cell 1
    have e2 := hG.out.cell 2
    simp at e0 e1 e2
    exact bodyPost_ret (v := .tuple #[.agg #[.int .i64 2, .int .i64 vn, .string vs], .bool kb]) (by simp [results, Try.results33, go_sem, e0, e1, e2]) rfl ⟨rfl, hBB.out⟩
  · go_enter Try.func33, Try.ntmps33
    go_wp2_with fail
    with_reducible refine ((HC _).out).mono ?_
    rintro e w1 ⟨rfl, hb1⟩
    have h1 := (Has.new w 35 [.int .i64 3, .int .i64 vn, .string vs, .int .u64 (vl : Int)]).keepsT ((KeepsT.refl [] _).alloc (.cells #[.int .i64 0, .int .i64 0, .string ⟨#[]⟩] 76)) (by simp)
    have h2 := Has.new (w.alloc (.cells #[.int .i64 3, .int .i64 vn, .string vs, .int .u64 (vl : Int)] 35)) 76 [.int .i64 0, .int .i64 0, .string ⟨#[]⟩]
    simp only [World.size_alloc] at h2
    have g1 := h1.below hb1 h1.lt
    have g2 := h2.below hb1 h2.lt
    have HB := Lib.hid ((hA (.cells #[.int .i64 3, .int .i64 vn, .string vs, .int .u64 (vl : Int)] 35) (.cells #[.int .i64 0, .int .i64 0, .string ⟨#[]⟩] 76)).trans (hb1.mono (by simp; omega)))
    have a0 := g1.cell 0
    have a1 := g1.cell 1
    have a2 := g1.cell 2
    have b0 := g2.cell 0
    have b1 := g2.cell 1
    have b2 := g2.cell 2
    have f0 := g2.frozen 0
    have f1 := g2.frozen 1
    have f2 := g2.frozen 2
    have hl1 := g1.lt
    have hl2 := g2.lt
    simp at a0 a1 a2 b0 b1 b2
    have hG := Lib.hid (((g2.set 0 (.int .i64 3)).set 1 (.int .i64 vn)).set 2 (.string vs))
    have hBB := Lib.hid (((HB.out.setCell (p := ⟨w.heap.size + 1, 0, none⟩) (by simp) (.int .i64 3)).setCell (p := ⟨w.heap.size + 1, 1, none⟩) (by simp) (.int .i64 vn)).setCell (p := ⟨w.heap.size + 1, 2, none⟩) (by simp) (.string vs))
    clear h1 h2 g1 g2 hb1
    go_wp2
    generalize World.setCell _ ⟨_, 2, none⟩ _ = w9 at hG hBB ⊢
    have e0 := hG.out.cell 0
    have e1 := hG.out.cell 1
    have e2 := hG.out.cell 2
    simp at e0 e1 e2
    exact bodyPost_ret (v := .tuple #[.agg #[.int .i64 3, .int .i64 vn, .string vs], .bool kb]) (by simp [results, Try.results33, go_sem, e0, e1, e2]) rfl ⟨rfl, hBB.out⟩
  · go_enter Try.func33, Try.ntmps33
    go_wp2
    refine bodyPost_ret (v := .tuple #[.agg #[.int .i64 vk, .int .i64 vn, .string vs], .bool false]) (by simp [results, Try.results33, go_sem]) rfl ⟨rfl, ?_⟩
    repeat (first | exact hA _ _ | refine Below.setCell ?_ (by simp) _)

set_option maxHeartbeats 1000000 in
theorem tnew_any (l : Nat) (w : World) : Calls Try.prog 10 #[.int .u64 (l : Int)] w fun e w' => e = .returned (.pointer (some ⟨w.heap.size, 0, none⟩)) ∧ w.alloc (.cells #[.int .u64 (l : Int), .slice none 0 0, .map none, .slice none 0 0, .map none] 66) = w' := by
  go_enter Try.func10, Try.ntmps10
  go_wp2
  go_ret
  exact ⟨rfl, rfl⟩
set_option maxHeartbeats 1000000 in
theorem tlabel_any (T : Nat) (cs : List Value) (l : Int) (w : World) (h : Has w T 66 (.int .u64 l :: cs)) : Calls Try.prog 22 #[.pointer (some ⟨T, 0, none⟩)] w fun e w' => e = .returned (.int .u64 l) ∧ w = w' := by
  have h1 := h.cell 0
  simp at h1
  clear h
  go_enter Try.func22, Try.ntmps22
  go_wp2
  go_ret
  exact ⟨rfl, rfl⟩
set_option maxHeartbeats 1000000 in
theorem tlabel_nil (w : World) : Calls Try.prog 22 #[.pointer none] w fun e w' => e = .returned (.int .u64 0) ∧ w = w' := by
  go_enter Try.func22, Try.ntmps22
  go_wp2
  go_ret
  exact ⟨rfl, rfl⟩
set_option maxHeartbeats 1000000 in
theorem tlen_any (T : Nat) (lv : Value) (av : Option Addr) (n cp : Nat) (cs : List Value) (w : World) (h : Has w T 66 (lv :: .slice av n cp :: cs)) : Calls Try.prog 21 #[.pointer (some ⟨T, 0, none⟩)] w fun e w' => e = .returned (.int .i64 n) ∧ w = w' := by
  have h1 := h.cell 1
  have hl := h.lt
  simp at h1
  clear h
  go_enter Try.func21, Try.ntmps21
  go_wp2
  go_ret
  exact ⟨rfl, rfl⟩
set_option maxHeartbeats 1000000 in
theorem tlen_nil (w : World) : Calls Try.prog 21 #[.pointer none] w fun e w' => e = .returned (.int .i64 0) ∧ w = w' := by
  go_enter Try.func21, Try.ntmps21
  go_wp2
  go_ret
  exact ⟨rfl, rfl⟩
/-- Where no stamp was ever laid. -/
theorem look_named (s : ByteArray) (hs : s.size ≤ 140737488355328) (w : World) : (Instr.lookup 64 (.map none) (.string s) true).run Try.prog w = .ok (.tuple #[.int .i64 0, .bool false]) w := by
  have hk : keyOf Try.prog 9 (.string s) = some (.string s.data.toList) := Go.WideMaps.keyOf_string_mk Try.underlying9 (by unfold maxLen; omega)
  rw [Maps.look_nil true keyedStr Try.underlying64 (zeroInt w) hk]
  rfl
set_option maxRecDepth 100000 in
set_option maxHeartbeats 1000000 in
theorem fits_none (T : Nat) (s : ByteArray) (hs : s.size ≤ 140737488355328) (kd : Int) (a b c d : Value) (w : World) (h : Has w T 66 [a, b, c, d, .map none]) : Calls Try.prog 34 #[.pointer (some ⟨T, 0, none⟩), .string s, .int .i64 kd] w fun e w' => e = .returned (.bool true) ∧ Below w.heap.size w w' := by
  have h1 := h.cell 4
  have hl := h.lt
  simp at h1
  have hlk := fun W => look_named s hs W
  clear h hs
  go_enter Try.func34, Try.ntmps34
  go_wp2
  go_ret
  exact ⟨rfl, Below.refl _ _⟩
end TabD
end Go.Proofs.Ytpmbbkhhnkhcbaa
