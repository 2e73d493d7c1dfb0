/- The row's tables; nodes that came in; the law TreeWalks. -/
import Derived.Test.YtakdmlaecidjaaaGreatDoorTck27
import Derived.Test.YtakdmlaecidjaaaGreatDoorTree11
import Derived.Lib.LaidTab
namespace Go.Proofs.YtakdmlaecidjaaaGreatDoor
open Go.RowKit Go.Shelf Go.WideShapes Go.ChangeShapes Go.Deep ObjM RoundM
namespace TreeD
open LexD (WTab WL)

section
variable {H : Type} {enc : TypeId × Value → H}
set_option maxRecDepth 100000 in
theorem open_caps {W : World} {r : Reach} {b0 : Nat} {v : Value} {d : DataW H} {ps : List MemPlace} {sp : Nat → Bool} (hval : Value.okWide Tryz.prog W r b0 22 v) (hd : DataW.Trod enc Tryz.prog W 0 sp true 22 v d ps) (l : List Nd) (hl : NdsAt W v l) : CapOk W v l := by
  have hcell : Cell.okWide Tryz.prog W r b0 22 v := by
    have h := hval
    unfold Value.okWide at h
    rw [Tryz.underlying22] at h
    exact h
  obtain ⟨fuel, hf⟩ := hd
  intro b o n c0 e i hi a m c hc2
  subst e
  obtain ⟨av, cap, e, -⟩ := hl
  injection e with e1 e2 e3
  subst e2
  rcases Shell.open_slice_any Tryz.underlying22 hf with h | ⟨a', len', cap', h, _, _, -, hc⟩
  · simp [Value.cells] at h
  · simp [Value.cells] at h
    obtain ⟨rfl, rfl, rfl⟩ := h
    obtain ⟨cs, y, mm, hl4, hat, ht, -⟩ := hc i hi
    rw [nodeCellsOf] at hl4 hat
    obtain ⟨f0, f1, f2, f3, hs, -, -, ⟨p2, q2, t2⟩, -⟩ := node_desc
    match cs, hl4, ht with
    | [x0, x1, x2, x3], _, ht =>
      obtain ⟨z2, m2, h2, w2⟩ := Shell.field_trod hs ht 2 f2 rfl 2 1 p2 q2
      rw [t2] at h2
      simp only [List.drop_zero, List.drop_succ_cons, List.take_succ_cons, List.take_zero] at h2
      have g2 := hat 2 _ rfl
      rw [addr_at, ← Nat.add_assoc] at g2
      rw [g2] at hc2
      injection hc2 with hc2
      subst hc2
      rcases Shell.open_slice_any Tryz.underlying30 h2 with h | ⟨a2, l2, c2, h, h3, _⟩
      · simp at h
        omega
      · simp at h
        omega
end
theorem gPow : Tryz.prog.globalNamed "internal/strconv.uint64pow10" = some 5 := by kernel_rfl
theorem gPowType : (Tryz.prog.globals[5]?).map (·.type) = some 128 := by kernel_rfl
theorem cellsU64 : Tryz.prog.cellsOf 72 = 1 := by kernel_rfl
theorem cellsTab : Tryz.prog.cellsOf 128 = 20 := by kernel_rfl
theorem pow_of {W : World} {r : List (String × DataW Unit)} (h : laidMet Tryz.prog (("internal/strconv.uint64pow10", Rows.laid_internal_strconv_uint64pow10) :: r) W) : NumD.Tab W :=
  Lib.tabIs_of_head (rest := r) gPow gPowType Tryz.underlying128 Tryz.underlying72 cellsU64 cellsTab h
theorem gSpc : Tryz.prog.globalNamed "strings.asciiSpace" = some 2 := by kernel_rfl
theorem gSpcType : (Tryz.prog.globals[2]?).map (·.type) = some 103 := by kernel_rfl
theorem cellsU8 : Tryz.prog.cellsOf 5 = 1 := by kernel_rfl
theorem cellsSpc : Tryz.prog.cellsOf 103 = 256 := by kernel_rfl
set_option maxRecDepth 100000 in
theorem spc_of {W : World} {r : List (String × DataW Unit)} (h : laidMet Tryz.prog (("strings.asciiSpace", Rows.laid_strings_asciiSpace) :: r) W) : Lib.TabIs Tryz.prog W "strings.asciiSpace" .u8 Lib.asciiSpaceTab :=
  Lib.tabIs_of_head (rest := r) gSpc gSpcType Tryz.underlying103 Tryz.underlying5 cellsU8 cellsSpc h
theorem gWords : Tryz.prog.globalNamed "ravelin/lex.words" = some 1 := by kernel_rfl
theorem gWordsType : (Tryz.prog.globals[1]?).map (·.type) = some 82 := by kernel_rfl
theorem words_of {l : List (String × DataW Unit)} {W : World} (h : laidMet Tryz.prog (("ravelin/lex.words", Rows.laid_ravelin_lex_words) :: l) W) : WTab W := by
  have hc := Tables.cells_of_head 4 (vs := WL.map Value.string) gWords gWordsType h (by kernel_rfl)
  have h2 : ∀ (i : Nat) (s : ByteArray), WL[i]? = some s → W.cell? ⟨1, i, none⟩ = some (.string s) := fun i s hs => hc i _ (by rw [List.getElem?_map, hs]; rfl)
  exact ⟨World.block_lt_of_cell? W ⟨1, 0, none⟩ (h2 0 _ rfl), h2⟩
theorem wants_of {l : List (String × DataW Unit)} {W : World} (h : laidMet Tryz.prog (("ravelin/tree.wants", Rows.laid_ravelin_tree_wants) :: l) W) : ∀ n, n < 37 → W.cell? ⟨0, n, none⟩ = some (.string (wantS n)) := by
  have hc := Tables.cells_of_head 4 (vs := (List.range 37).map fun n => Value.string (wantS n)) gWants tWants h (by kernel_rfl)
  intro n hn
  refine hc n _ ?_
  rw [List.getElem?_map, List.getElem?_range hn]
  rfl
theorem gSyn : Tryz.prog.globalNamed "strconv.ErrSyntax" = some 8 := by kernel_rfl
theorem tSyn : (Tryz.prog.globals[8]?).map (·.type) = some 78 := by kernel_rfl
theorem gRng : Tryz.prog.globalNamed "strconv.ErrRange" = some 9 := by kernel_rfl
theorem tRng : (Tryz.prog.globals[9]?).map (·.type) = some 78 := by kernel_rfl
theorem star : "*" ++ "errors.errorString" = "*errors.errorString" := by decide
theorem rowErr (u : TypeId) (h : Tryz.prog.typeName? 3 u = some "*errors.errorString") : u = 155 :=
  typeName_ptr_named (nm := "errors.errorString") (by rw [star]; kernel_rfl) (by kernel_rfl) (by decide) u (by rw [star]; exact h)
theorem cErr : Tryz.prog.cellsOf 157 = 1 := by kernel_rfl
theorem cStr : Tryz.prog.cellsOf 9 = 1 := by kernel_rfl
/-- What a row's list gives the checks of a tree. -/
theorem stills_of {W : World} (h : laidMet Tryz.prog [("math/bits.deBruijn32tab", Rows.laid_math_bits_deBruijn32tab), ("math/bits.deBruijn64tab", Rows.laid_math_bits_deBruijn64tab), ("internal/strconv.uint64pow10", Rows.laid_internal_strconv_uint64pow10), ("unicode/utf8.acceptRanges", Rows.laid_unicode_utf8_acceptRanges), ("strconv.ErrRange", Rows.laid_strconv_ErrRange), ("strconv.ErrSyntax", Rows.laid_strconv_ErrSyntax), ("unicode.White_Space", Rows.laid_unicode_White_Space), ("strings.asciiSpace", Rows.laid_strings_asciiSpace), ("ravelin/lex.words", Rows.laid_ravelin_lex_words), ("ravelin/tree.wants", Rows.laid_ravelin_tree_wants), ("unicode/utf8.first", Rows.laid_unicode_utf8_first)] W) (hs : W.ShapedOpen Tryz.prog) : Tb W ∧ Tt W ∧ Tk W := by
  have hb := tb_of h hs
  have h3 := h.tail.tail
  have h5 := h3.tail.tail
  have h6 := h5.tail
  have h8 := h6.tail.tail
  have h9 := h8.tail
  have h10 := h9.tail
  obtain ⟨a0, sa, hva, _, _, _⟩ := laid_sentinel h5 gRng tRng Tryz.underlying78 rowErr Tryz.underlying155 Tryz.underlying157 rfl rfl Tryz.underlying9 cErr cStr
  obtain ⟨b0, sb, hvb, _, _, _⟩ := laid_sentinel h6 gSyn tSyn Tryz.underlying78 rowErr Tryz.underlying155 Tryz.underlying157 rfl rfl Tryz.underlying9 cErr cStr
  have cR : W.cell? ⟨9, 0, none⟩ = some (.iface 155 (.pointer (some a0))) := by simpa using World.var?_cell gRng hva 0
  have cS : W.cell? ⟨8, 0, none⟩ = some (.iface 155 (.pointer (some b0))) := by simpa using World.var?_cell gSyn hvb 0
  exact ⟨hb, ⟨words_of h9, ⟨pow_of h3, ⟨_, cS, .inr ⟨_, _, rfl⟩⟩, ⟨_, cR, .inr ⟨_, _, rfl⟩⟩, World.block_lt_of_cell? W _ cS, World.block_lt_of_cell? W _ cR⟩, spc_of h8⟩, ⟨hb.lt, wants_of h10, hb.ml⟩⟩
theorem walks_tabs {W : World} (h : laidMetH Tryz.prog Rows.treeWalksRow.laid W) (hs : W.ShapedOpen Tryz.prog) : Tb W ∧ Tt W ∧ Tk W := stills_of h hs
end TreeD
end Go.Proofs.YtakdmlaecidjaaaGreatDoor

namespace Go.Proofs.YtakdmlaecidjaaaGreatDoor
open Go.RowKit Go.Shelf ObjM RoundM
namespace TreeD
attribute [local go_sem] Oper.semAt_some

theorem ord_len (l : List Nd) : (ordV l).length = (dpV l).length ∧ (ordV l).length ≤ l.length := by
  unfold ordV dpV
  by_cases h : (checkV l).2 = 0
  · rw [if_pos h, if_pos h, List.length_map, List.length_map, walk_len (tree_of h)]
    exact ⟨rfl, Nat.le_refl _⟩
  · rw [if_neg h, if_neg h]
    simp
theorem has_noncell {W W' : World} {G : Nat} {t : TypeId} {cs : List Value} (h : Has W G t cs) {row : Option Nat} (hg : W.grownBy W' row) (hr : ∀ r, row = some r → ∃ o : Obj, W.heap[r]? = some o ∧ o.isCells = false) : Has W' G t cs := by
  refine h.keeps (Keeps.grown hg) ?_
  intro hm
  obtain ⟨o, ho, hc⟩ := hr G (Option.mem_toList.1 hm)
  rw [show W.heap[G]? = _ from h] at ho
  cases ho
  cases hc
theorem law_start (w7 : World) (K : Nat) (a b : Value) {kv : Value} (hk : Has w7 K 3 [kv]) : Has (((w7.setCell ⟨K, 0, none⟩ (.int .i64 0)).alloc (.cells #[a] 30)).alloc (.cells #[b] 30)) K 3 [.int .i64 0] ∧
    Has (((w7.setCell ⟨K, 0, none⟩ (.int .i64 0)).alloc (.cells #[a] 30)).alloc (.cells #[b] 30)) w7.heap.size 30 [a] ∧ Has (((w7.setCell ⟨K, 0, none⟩ (.int .i64 0)).alloc (.cells #[a] 30)).alloc (.cells #[b] 30)) (w7.heap.size + 1) 30 [b] ∧
    Keeps [K] w7 (((w7.setCell ⟨K, 0, none⟩ (.int .i64 0)).alloc (.cells #[a] 30)).alloc (.cells #[b] 30)) := by
  have hs : (w7.setCell ⟨K, 0, none⟩ (.int .i64 0)).heap.size = w7.heap.size := by simp [World.setCell]
  have k1 := hk.set 0 (.int .i64 0)
  have n1 := Has.new (w7.setCell ⟨K, 0, none⟩ (.int .i64 0)) 30 [a]
  have n2 := Has.new ((w7.setCell ⟨K, 0, none⟩ (.int .i64 0)).alloc (.cells #[a] 30)) 30 [b]
  rw [World.size_alloc, hs] at n2
  rw [hs] at n1
  exact ⟨(k1.keeps (Keeps.alloc [] _ _) (by simp)).keeps (Keeps.alloc [] _ _) (by simp), n1.keeps (Keeps.alloc [] _ _) (by simp), n2, ((Keeps.set w7 K 0 _).trans (Keeps.alloc [] _ _) (by simp)).trans (Keeps.alloc [] _ _) (by simp)⟩
theorem prefix_get {α : Type} {pre L : List α} {x : α} (h : pre ++ [x] <+: L) : L[pre.length]? = some x := by
  obtain ⟨r, rfl⟩ := h
  simp
theorem prefix_snoc {α : Type} {pre L : List α} {x : α} (h : pre <+: L) (hx : L[pre.length]? = some x) : pre ++ [x] <+: L := by
  obtain ⟨r, rfl⟩ := h
  cases r with
  | nil => simp at hx
  | cons y r =>
    simp at hx
    subst hx
    exact ⟨r, by simp⟩
theorem law_end {w W : World} {D D2 Br : Nat} {cs : List Value} (hK2 : W.heap[D2]? = some (.deferred (some []))) (hK : W.heap[D]? = some (.deferred (some []))) (hne : D ≠ D2) (hR : Has W Br 4 cs) (hB : Below w.heap.size w W) (hD2 : w.heap.size ≤ D2) (hD : w.heap.size ≤ D) (hc : cs.length = 1 := by rfl) (hBr : w.heap.size ≤ Br := by omega) :
    (W.setCell ⟨Br, 0, none⟩ (.bool true)).heap[D2]? = some (.deferred (some [])) ∧ ((W.setCell ⟨Br, 0, none⟩ (.bool true)).putObj D2 (.deferred none)).heap[D]? = some (.deferred (some [])) ∧
    (((W.setCell ⟨Br, 0, none⟩ (.bool true)).putObj D2 (.deferred none)).putObj D (.deferred none)).cell? ⟨Br, 0, none⟩ = some (.bool true) ∧ Below w.heap.size w (((W.setCell ⟨Br, 0, none⟩ (.bool true)).putObj D2 (.deferred none)).putObj D (.deferred none)) := by
  have ko := KeepsOthers.setCell W ⟨Br, 0, none⟩ (.bool true)
  have a1 := ko.same D2 _ hK2 rfl
  have a2 : ((W.setCell ⟨Br, 0, none⟩ (.bool true)).putObj D2 (.deferred none)).heap[D]? = some (.deferred (some [])) := (World.putObj_heap_other hne).trans (ko.same D _ hK rfl)
  have h1 := hR.set 0 (.bool true)
  have h2 := has_noncell h1 (grownBy_putObj' _ D2 (.deferred none)) (fun r e => by cases e; exact ⟨_, a1, rfl⟩)
  have h3 := has_noncell h2 (grownBy_putObj' _ D (.deferred none)) (fun r e => by cases e; exact ⟨_, a2, rfl⟩)
  have hb1 : Below w.heap.size w (W.setCell ⟨Br, 0, none⟩ (.bool true)) := hB.setCell hBr _
  have hb2 := hb1.grown (grownBy_putObj' _ D2 (.deferred none)) hb1.size (fun k e => by cases e; exact hD2)
  refine ⟨a1, a2, ?_, hb2.grown (grownBy_putObj' _ D (.deferred none)) hb2.size (fun k e => by cases e; exact hD)⟩
  rw [h3.cell]
  match cs, hc with
  | [c], _ => rfl
theorem le_sum_of : ∀ {l : List Nat} {x : Nat}, x ∈ l → x ≤ l.sum
  | a :: r, x, h => by
    rw [List.sum_cons]
    rcases List.mem_cons.1 h with rfl | h
    · omega
    · have := le_sum_of h
      omega
theorem few_node {l : List Nd} (h : fewB l = true) : l.length ≤ 5000 ∧ ∀ n ∈ l, n.kids.length < 1000000 ∧ n.text.size ≤ 1000000 := by
  have h1 := few_len l
  have h2 : fewN l ≤ 20000 := of_decide_eq_true h
  refine ⟨by omega, fun n hn => ?_⟩
  have h3 : ndN n ≤ fewN l := by
    unfold fewN
    exact le_sum_of (List.mem_map.2 ⟨n, hn, rfl⟩)
  unfold ndN at h3
  omega
set_option maxRecDepth 100000 in
set_option maxHeartbeats 8000000 in
theorem treeWalks_u (l : List Nd) (v : Value) (stop : Int) (w : World) (hv : NdsAt w v l) (hcap : CapOk w v l) (hok : ∀ n ∈ l, NdOk n) (hlen : l.length ≤ 9223372036854775807) (hT : Tb w ∧ Tt w ∧ Tk w) :
    CallsIn Fence.wide 5 Tryz.prog 5 #[v, .int .i64 stop] w fun e w' => e = .returned (.bool true) ∧ Below w.heap.size w w' := by
  have HA : Hid (∀ W, Below w.heap.size w W → Calls Tryz.prog 6 #[] W fun e w' => e = .returned (.bool true) ∧ Below W.heap.size W w') := Lib.hid fun W h => awake_any W (hT.1.below (Nat.le_refl _) h)
  have HF : Hid (∀ W, Below w.heap.size w W → Calls Tryz.prog 7 #[v] W fun e w' => e = .returned (.bool (fewB l)) ∧ Below W.heap.size W w') := Lib.hid fun W h => few_any l v W (hv.below (Nat.le_refl _) h) hok hlen
  have HS : Hid (∀ W, Below w.heap.size w W → Still W v l) := Lib.hid fun W h => ((⟨hT.2.1, hT.2.2, hv, hcap⟩ : Still w v l).below (Nat.le_refl _) h)
  have HOk := Lib.hid hok
  have hfn : ∀ (f : Fn) (a b : Array Value) (W : World), (binOp .eql 28 (.func f a b) Value.nilFunc).run Tryz.prog W = .ok (.bool false) W := fun _ _ _ _ => by kernel_rfl
  obtain ⟨av, cv, rfl⟩ := hv.shape
  clear hv hcap hok hlen hT
  have hb1 := Has.new w 3 [.int .i64 stop]
  have hb2 := Has.new (w.alloc (.cells #[.int .i64 stop] 3)) 4 [.bool false]
  have hb1 := hb1.keeps (Keeps.alloc [] (w.alloc (.cells #[.int .i64 stop] 3)) (.cells #[.bool false] 4)) (by simp)
  have hB2 : Below w.heap.size w ((w.alloc (.cells #[.int .i64 stop] 3)).alloc (.cells #[.bool false] 4)) := ((Below.refl _ w).alloc (Nat.le_refl _) _).alloc (by simp) _
  simp only [World.size_alloc] at hb2
  refine callsIn_of_wp_marks Tryz.func5 rfl trivial ?_ rfl
  simp only [Tryz.ntmps5, List.size_toArray, List.length_cons, List.length_nil, Nat.reduceAdd, Nat.reduceSub, Array.replicate_succ, Array.replicate_zero, List.push_toArray, List.append_toArray, List.nil_append, List.cons_append]
  gi_wp2_with fail
  refine ⟨trivial, ?_⟩
  change CallsIn _ _ _ _ _ (World.alloc (World.alloc w _) _) _
  generalize World.alloc (World.alloc w _) _ = w2 at hb1 hb2 hB2 ⊢
  refine (callsIn_wide.2 (HA.out _ hB2)).mono ?_
  rintro e w3 ⟨rfl, h3⟩
  have HB3 := Lib.hid (hB2.trans (h3.mono hB2.size))
  have hc1 := hb1.below h3 hb1.lt
  have hc2 := hb2.below h3 hb2.lt
  clear h3 HA hb1 hb2 hB2
  gi_wp2_with fail
  refine ⟨trivial, ?_⟩
  refine (callsIn_wide.2 (HF.out _ HB3.out)).mono ?_
  rintro e w4 ⟨rfl, h4⟩
  have HB4 := Lib.hid (HB3.out.trans (h4.mono HB3.out.size))
  have hb1 := hc1.below h4 hc1.lt
  have hb2 := hc2.below h4 hc2.lt
  clear h4 HF hc1 hc2 HB3
  cases hf : fewB l with
  | false =>
    have z0 := hb2.cell 0
    have z1 := hb2.frozen 0
    have z2 := hb2.lt
    simp only [List.getElem?_cons_zero] at z0
    gi_wp2
    refine ⟨.bool true, ?_, rfl, HB4.out.setCell (by simp) _⟩
    have hc5 := (hb2.set 0 (.bool true)).cell 0
    simp only [List.set_cons_zero, List.getElem?_cons_zero] at hc5
    simp [results, Tryz.f5, go_sem, hc5]
  | true =>
    obtain ⟨hl5, hnd⟩ := few_node hf
    have HW := Lib.hid (walk_in l _ w4 (by omega) HOk.out (fun n hn => (hnd n hn).1) (HS.out _ HB4.out))
    have HR : Hid (∀ W, Below w.heap.size w W → Calls Tryz.prog 13 #[.slice av l.length cv] W (WalkIs l W)) := Lib.hid fun W h => rwalk_any l _ W (by omega) HOk.out (fun n hn => (hnd n hn).1) (fun n hn => (hnd n hn).2) (HS.out _ h)
    clear HS HOk hf hnd
    gi_wp2_with fail
    refine ⟨trivial, ?_⟩
    refine (callsIn_wide.2 (callsIn_wide.1 HW.out)).mono ?_
    rintro e w5 ⟨Bo, Bd, v, u, rfl, hTwo⟩
    have hb1 := hb1.below (hTwo.b) hb1.lt
    have hb2 := hb2.below (hTwo.b) hb2.lt
    have HB5 := Lib.hid (HB4.out.trans (hTwo.b.mono HB4.out.size))
    obtain ⟨m, hm⟩ : ∃ m, (ordV l).length = m := ⟨_, rfl⟩
    have hOD : (dpV l).length = m ∧ m ≤ 50000 := by
      have h1 := ord_len l
      omega
    have HSeq : Hid (∀ k W, Below w5.heap.size w5 W → SeqStopsK Fence.wide k Tryz.prog 20 #[.pointer (some ⟨Bo, 0, none⟩), .pointer (some ⟨Bd, 0, none⟩)] encP (Below w5.heap.size) (fun ys => ys = (ordV l).zip (dpV l)) (fun pre => pre <+: (ordV l).zip (dpV l)) ((ordV l).zip (dpV l)).length W) := Lib.hid fun k W h =>
      each_stops k Bo Bd m _ _ v u w5 W hm hOD.1 hOD.2 hTwo.o hTwo.d (own_kids hTwo.r) (own_kids hTwo.s) h
    have HM := Lib.hid (⟨hm, hOD⟩ : (ordV l).length = m ∧ (dpV l).length = m ∧ m ≤ 50000)
    have HSz2 := Lib.hid (hb2.lt : w.heap.size + 1 < w5.heap.size)
    clear hTwo HW hm hOD
    gi_wp2
    have hk0 := Has.new w5 3 [.int .i64 0]
    have hB6 : Below w5.heap.size w5 (w5.alloc (.cells #[.int .i64 0] 3)) := (Below.refl _ w5).alloc (Nat.le_refl _) _
    have hs6 : w5.heap.size < (w5.alloc (.cells #[.int .i64 0] 3)).heap.size := by simp
    change Code.wpIn _ _ _ _ _ _ (World.alloc w5 _)
    generalize World.alloc w5 _ = w6 at hk0 hB6 hs6 ⊢
    refine wpIn_rangeFunc_ownG rfl (by omega) (gf := 20) (lb := #[.pointer (some ⟨Bo, 0, none⟩), .pointer (some ⟨Bd, 0, none⟩)]) rfl trivial (enters_of Tryz.func20 (by kernel_rfl) rfl)
      (HSeq.out 4 w6 hB6) (fun h k => h.trans k) (belowK_b (by omega)) (Below.refl _ _) (fun _ => rfl)
      (fun pre W => (∃ kv : Int, Has W w5.heap.size 3 [.int .i64 kv]) ∧ Below w5.heap.size w5 W)
      (fun c pre W => c = .exit 0 ∧ (∃ kv : Int, Has W w5.heap.size 3 [.int .i64 kv]) ∧ Below w5.heap.size w5 W)
      (fun s W W' row hs hg hr => by
        obtain ⟨⟨kv, h1⟩, h2⟩ := hs
        exact ⟨⟨kv, has_noncell h1 hg (fun r e => (hr r e).2)⟩, h2.grown hg h2.size (fun r e => by have := (hr r e).1; omega)⟩)
      (fun c s W W' row hs hg hr => by
        obtain ⟨h0, ⟨kv, h1⟩, h2⟩ := hs
        exact ⟨h0, ⟨kv, has_noncell h1 hg (fun r e => (hr r e).2)⟩, h2.grown hg h2.size (fun r e => by have := (hr r e).1; omega)⟩)
      ⟨⟨0, hk0⟩, hB6⟩ ?a1 ?assign ?body ?done ?stop
    case assign =>
      intro lp x W K hK
      unfold encP
      gi_wp2
      exact hK
    case body =>
      rintro lp pre x W ⟨⟨kv, h1⟩, h2⟩ hlt
      have c0 := h1.cell 0
      have f0 := h1.frozen 0
      have l0 := h1.lt
      simp only [List.getElem?_cons_zero] at c0
      have cs := (hb1.below h2 hb1.lt).cell 0
      have cl := (hb1.below h2 hb1.lt).lt
      simp only [List.getElem?_cons_zero] at cs
      have HE : Hid (∀ kv2 : Int, KeepsFrom w6.heap.size W (W.setCell ⟨w5.heap.size, 0, none⟩ (.int .i64 kv2)) ∧ Below w5.heap.size W (W.setCell ⟨w5.heap.size, 0, none⟩ (.int .i64 kv2)) ∧ (∃ kv : Int, Has (W.setCell ⟨w5.heap.size, 0, none⟩ (.int .i64 kv2)) w5.heap.size 3 [.int .i64 kv]) ∧ Below w5.heap.size w5 (W.setCell ⟨w5.heap.size, 0, none⟩ (.int .i64 kv2))) := Lib.hid fun kv2 =>
        ⟨(KeepsOthers.setCell _ _ _).from _, (Below.refl _ W).setCell (p := ⟨w5.heap.size, 0, none⟩) (Nat.le_refl _) _, ⟨kv2, h1.set 0 _⟩, h2.setCell (p := ⟨w5.heap.size, 0, none⟩) (Nat.le_refl _) _⟩
      have hne : w.heap.size ≠ w5.heap.size := by have := hb1.lt; omega
      clear h1 h2 hlt hk0 hB6 HSeq hb1 hb2
      gi_wp2
      · exact ⟨(HE.out _).1, rfl, (HE.out _).2.2⟩
      · exact ⟨(HE.out _).1, (HE.out _).2.1, (HE.out _).2.2⟩
    all_goals first
      | (rintro D c ys W hD hS ⟨rfl, ⟨kv, hk⟩, hb⟩ hK)
      | (rintro D ys W hD hS ⟨⟨kv, hk⟩, hb⟩ hK)
    all_goals
      clear hS hk0 hB6
      have HB7 := Lib.hid (HB5.out.trans (hb.mono HB5.out.size))
      have HD := Lib.hid (⟨hD, hK⟩ : w6.heap.size ≤ D ∧ W.heap[D]? = some (.deferred (some [])))
      have hb2 := hb2.below hb hb2.lt
      have HBd := Lib.hid hb
      clear hD hK hb
      gi_wp2_with fail
      refine ⟨trivial, ?_⟩
      refine (callsIn_wide.2 (HR.out W HB7.out)).mono ?_
      rintro e w7 ⟨a, b, rfl, hb7, ra, rb⟩
      have HRow : Hid (w7.ownsRow W.heap.size 3 1 a (ordV l).length ((ordV l).map (Value.int .i64)) ∧ w7.ownsRow W.heap.size 3 1 b (dpV l).length ((dpV l).map (Value.int .i64))) := Lib.hid (by
        unfold ordV dpV
        exact ⟨ra, rb⟩)
      obtain ⟨a1, a3, rfl⟩ := (own_kids HRow.out.1).shape
      obtain ⟨b1, b3, rfl⟩ := (own_kids HRow.out.2).shape
      rw [HM.out.1, HM.out.2.1] at HRow ⊢
      have hk7 := hk.below hb7 hk.lt
      have hr7 := hb2.below hb7 hb2.lt
      have HD7 : Hid (D < w7.heap.size ∧ w7.heap[D]? = some (.deferred (some []))) := Lib.hid ⟨Nat.lt_of_lt_of_le (Array.getElem?_eq_some_iff.1 HD.out.2).1 hb7.size, (hb7.block _ (Array.getElem?_eq_some_iff.1 HD.out.2).1).trans HD.out.2⟩
      have HB8 := Lib.hid (HBd.out.trans (hb7.mono HBd.out.size))
      have HLt := Lib.hid (⟨hk.lt, hb2.lt⟩ : w5.heap.size < W.heap.size ∧ w.heap.size + 1 < W.heap.size)
      have k0 := hk7.cell 0
      have k1 := hk7.frozen 0
      have k2 := hk7.lt
      simp only [List.getElem?_cons_zero] at k0
      have HWs := Lib.hid hb7.size
      clear ra rb hb7 HR hk hb2
      gi_wp2
      clear k0 k1 k2
      obtain ⟨hK8, hn8, hq8, hkk8⟩ := law_start w7 w5.heap.size (.slice a1 m a3) (.slice b1 m b3) hk7
      have hr8 := hr7.keeps hkk8 (by have := HSz2.out; simp; omega)
      have HKids : Hid (KidsAt (((w7.setCell ⟨w5.heap.size, 0, none⟩ (.int .i64 0)).alloc (.cells #[.slice a1 m a3] 30)).alloc (.cells #[.slice b1 m b3] 30)) (.slice a1 m a3) (ordV l) ∧ KidsAt (((w7.setCell ⟨w5.heap.size, 0, none⟩ (.int .i64 0)).alloc (.cells #[.slice a1 m a3] 30)).alloc (.cells #[.slice b1 m b3] 30)) (.slice b1 m b3) (dpV l) ∧ ∀ g o, (a1 = some ⟨g, o, none⟩ ∨ b1 = some ⟨g, o, none⟩) → g ≠ w5.heap.size) := Lib.hid (by
        have hne : ∀ (x : Value) zs, w7.ownsRow W.heap.size 3 1 x m zs → ∀ g, x.ownBlock = some g → g ∉ [w5.heap.size] := fun x zs h g hg => by
          have := (own_lt h g hg).1
          have := HLt.out.1
          simp
          omega
        have r1 := own_keeps HRow.out.1 hkk8 (hne _ _ HRow.out.1)
        have r2 := own_keeps HRow.out.2 hkk8 (hne _ _ HRow.out.2)
        refine ⟨own_kids (zs := ordV l) (by rw [HM.out.1]; exact r1), own_kids (zs := dpV l) (by rw [HM.out.2.1]; exact r2), ?_⟩
        intro g o h
        rcases h with rfl | rfl
        · have := hne _ _ HRow.out.1 g rfl
          simpa using this
        · have := hne _ _ HRow.out.2 g rfl
          simpa using this)
      have hB9 : Below w5.heap.size w5 (((w7.setCell ⟨w5.heap.size, 0, none⟩ (.int .i64 0)).alloc (.cells #[.slice a1 m a3] 30)).alloc (.cells #[.slice b1 m b3] 30)) := HB8.out.trans (hkk8.toBelow _ (by have := HB8.out.size; omega) (by simp))
      have hsz8 : w7.heap.size ≤ (((w7.setCell ⟨w5.heap.size, 0, none⟩ (.int .i64 0)).alloc (.cells #[.slice a1 m a3] 30)).alloc (.cells #[.slice b1 m b3] 30)).heap.size := hkk8.size
      have hD8 : (((w7.setCell ⟨w5.heap.size, 0, none⟩ (.int .i64 0)).alloc (.cells #[.slice a1 m a3] 30)).alloc (.cells #[.slice b1 m b3] 30)).heap[D]? = some (.deferred (some [])) := (hkk8.block D HD7.out.1 (by
        intro hm
        simp at hm
        have h1 := HD7.out.2
        rw [hm] at h1
        rw [show w7.heap[w5.heap.size]? = _ from hk7] at h1
        cases h1)).trans HD7.out.2
      change Code.wpIn _ _ _ _ _ _ (World.alloc (World.alloc (World.setCell w7 _ _) _) _)
      generalize World.alloc (World.alloc (World.setCell w7 _ _) _) _ = w8 at hK8 hn8 hq8 hkk8 hr8 HKids hB9 hsz8 hD8 ⊢
      have HB9 : Hid (w5.heap.size < w7.heap.size ∧ w5.heap.size < w8.heap.size) := Lib.hid ⟨by have := HLt.out.1; have := HWs.out; omega, by have := HLt.out.1; have := HWs.out; omega⟩
    · obtain ⟨L, hL⟩ : ∃ L, (ordV l).zip (dpV l) = L := ⟨_, rfl⟩
      have HL : Hid (∀ k (h1 : k < (ordV l).length) (h2 : k < (dpV l).length), L[k]? = some ((ordV l)[k], (dpV l)[k])) := Lib.hid fun k h1 h2 => by
        rw [← hL, List.getElem?_eq_getElem (by rw [List.length_zip]; omega)]
        simp
      have HLl : Hid (L.length = m) := Lib.hid (by rw [← hL, List.length_zip, HM.out.1, HM.out.2.1]; omega)
      have HSeq8 := Lib.hid (HSeq.out 4 w8 hB9)
      rw [hL] at HSeq8
      have HHas := Lib.hid (⟨hn8, hq8, hr8⟩ : Has w8 w7.heap.size 30 [.slice a1 m a3] ∧ Has w8 (w7.heap.size + 1) 30 [.slice b1 m b3] ∧ Has w8 (w.heap.size + 1) 4 [.bool false])
      have HDlo : Hid (w.heap.size ≤ D) := Lib.hid (by have := HD.out.1; have := HB5.out.size; omega)
      have hDlt : D < w8.heap.size := Nat.lt_of_lt_of_le HD7.out.1 hsz8
      have hK8s := hn8.lt
      have hB9w := Lib.hid (HB5.out.trans (hB9.mono HB5.out.size))
      clear HSeq HRow HD7 HB7 HBd HB8 hL hr7 hk7 hsz8 hn8 hq8 hr8 hkk8
      refine wpIn_rangeFunc_ownG rfl (by omega) (gf := 20) (lb := #[.pointer (some ⟨Bo, 0, none⟩), .pointer (some ⟨Bd, 0, none⟩)]) rfl trivial (enters_of Tryz.func20 (by kernel_rfl) rfl)
        HSeq8.out (fun h k => h.trans k) (belowK_b (by have := hB9.size; omega)) (Below.refl _ _) (fun _ => rfl)
        (fun pre W => pre <+: L ∧ Has W w5.heap.size 3 [.int .i64 (pre.length : Int)] ∧ Keeps [w5.heap.size] w8 W ∧ W.heap[D]? = some (.deferred (some [])))
        (fun c pre _ => c = .ret ∧ ¬ (pre <+: L))
        (fun s W W' row hs hg hr => by
          obtain ⟨h0, h1, h2, h3⟩ := hs
          refine ⟨h0, has_noncell h1 hg (fun r e => (hr r e).2), h2.trans (Keeps.grown hg) (fun x hx => .inr (hr x (Option.mem_toList.1 hx)).1), (hg.block D (Array.getElem?_eq_some_iff.1 h3).1 (fun e => by have := (hr D e.symm).1; omega)).trans h3⟩)
        (fun _ _ _ _ _ hs _ _ => hs)
        ⟨List.nil_prefix, hK8, Keeps.refl _ _, hD8⟩ ?a2 ?assign2 ?body2 ?done2 ?stop2
      case assign2 =>
        intro lp x W K hK
        unfold encP
        gi_wp2
        exact hK
      case body2 =>
        rintro lp pre x W1 ⟨hpre, h1, h2, h3⟩ hlt
        rw [HLl.out] at hlt
        obtain ⟨k, hk⟩ : ∃ k, pre.length = k := ⟨_, rfl⟩
        have hz1 : k < (ordV l).length := by rw [HM.out.1]; omega
        have hz2 : k < (dpV l).length := by rw [HM.out.2.1]; omega
        have HLk := Lib.hid (HL.out k hz1 hz2)
        have HPre := Lib.hid hpre
        have HKp := Lib.hid h2
        have H3 := Lib.hid h3
        have hk1 := h1
        rw [hk] at h1
        have c0 := h1.cell 0
        have f0 := h1.frozen 0
        have l0 := h1.lt
        have hN := HHas.out.1.keeps h2 (by have := HB9.out; simp; omega)
        have hQ := HHas.out.2.1.keeps h2 (by have := HB9.out; simp; omega)
        have hR := HHas.out.2.2.keeps h2 (by have := HSz2.out; simp; omega)
        have n0 := hN.cell 0
        have q0 := hQ.cell 0
        have r0 := hR.cell 0
        have r1 := hR.frozen 0
        have r2 := hR.lt
        simp only [List.getElem?_cons_zero] at c0 n0 q0 r0
        obtain ⟨g1, o1, rfl, hg1, e1⟩ := HKids.out.1.at k hz1
        obtain ⟨g2, o2, rfl, hg2, e2⟩ := HKids.out.2.1.at k hz2
        have d1 : W1.cell? ⟨g1, o1 + k, none⟩ = some (.int .i64 (ordV l)[k]) := (cell_same (h2.block g1 hg1 (by have := HKids.out.2.2 g1 o1 (.inl rfl); simp; omega)) _).trans e1
        have d2 : W1.cell? ⟨g2, o2 + k, none⟩ = some (.int .i64 (dpV l)[k]) := (cell_same (h2.block g2 hg2 (by have := HKids.out.2.2 g2 o2 (.inr rfl); simp; omega)) _).trans e2
        have HK1 := Lib.hid (hk : pre.length = k)
        generalize (ordV l)[k] = z1 at d1 HLk
        generalize (dpV l)[k] = z2 at d2 HLk
        have HNo : Hid (x ≠ (z1, z2) → ¬ (pre ++ [x] <+: L)) := Lib.hid fun hne hp => hne (by
          have h := prefix_get hp
          rw [HK1.out, HLk.out] at h
          injection h with h
          exact h.symm)
        have HYes : Hid (x = (z1, z2) → pre ++ [x] <+: L) := Lib.hid fun he => prefix_snoc HPre.out (by rw [HK1.out, HLk.out, he])
        have hk0 : (0 : Int) ≤ (k : Int) := by omega
        have hkm : (k : Int) < (m : Int) := by omega
        have hkm2 : decide ((m : Int) ≤ (k : Int)) = false := by simp; omega
        have hm5 : (m : Int) ≤ 50000 := by have := HM.out.2.2; omega
        have HKF : Hid (∀ v, KeepsFrom w8.heap.size W1 (W1.setCell ⟨w.heap.size + 1, 0, none⟩ v)) := Lib.hid fun v => (KeepsOthers.setCell _ _ _).from _
        have HGo : Hid (KeepsFrom w8.heap.size W1 (W1.setCell ⟨w5.heap.size, 0, none⟩ (.int .i64 ((k : Int) + 1))) ∧ Below w5.heap.size W1 (W1.setCell ⟨w5.heap.size, 0, none⟩ (.int .i64 ((k : Int) + 1))) ∧ Has (W1.setCell ⟨w5.heap.size, 0, none⟩ (.int .i64 ((k : Int) + 1))) w5.heap.size 3 [.int .i64 ((pre ++ [x]).length : Int)] ∧ Keeps [w5.heap.size] w8 (W1.setCell ⟨w5.heap.size, 0, none⟩ (.int .i64 ((k : Int) + 1))) ∧ (W1.setCell ⟨w5.heap.size, 0, none⟩ (.int .i64 ((k : Int) + 1))).heap[D]? = some (.deferred (some []))) := Lib.hid (by
          refine ⟨(KeepsOthers.setCell _ _ _).from _, (Below.refl _ W1).setCell (p := ⟨w5.heap.size, 0, none⟩) (Nat.le_refl _) _, ?_, h2.trans (Keeps.set _ _ _ _) (fun _ h => .inl h), (KeepsOthers.setCell W1 ⟨w5.heap.size, 0, none⟩ _).same D _ h3 rfl⟩
          have := h1.set 0 (.int .i64 ((k : Int) + 1))
          rw [List.length_append, hk]
          exact this)
        have hne : w5.heap.size ≠ w.heap.size + 1 := by have := HSz2.out; omega
        clear hpre h1 h2 h3 hlt hk hz1 hz2 hk1 hN hQ hR hg1 hg2 e1 e2 HL HLl HSeq8 hK8 hD8 hB9
        obtain ⟨x1, x2⟩ := x
        by_cases hx1 : x1 = z1
        · by_cases hx2 : x2 = z2
          · have b1 : (x1 != z1) = false := by simp [hx1]
            have b2 : (x2 != z2) = false := by simp [hx2]
            have HP := Lib.hid (HYes.out (by rw [hx1, hx2]))
            clear hx1 hx2 HNo HYes HLk
            gi_wp2
            exact ⟨HGo.out.1, HGo.out.2.1, HP.out, HGo.out.2.2.1, HGo.out.2.2.2.1, HGo.out.2.2.2.2⟩
          · have b1 : (x1 != z1) = false := by simp [hx1]
            have b2 : (x2 != z2) = true := by simpa using hx2
            have HP := Lib.hid (HNo.out (fun e => hx2 (by injection e)))
            clear hx1 hx2 HNo HYes HLk HGo
            gi_wp2
            exact ⟨HKF.out _, rfl, HP.out⟩
        · have b1 : (x1 != z1) = true := by simpa using hx1
          have HP := Lib.hid (HNo.out (fun e => hx1 (by injection e)))
          clear hx1 HNo HYes HLk HGo
          gi_wp2
          exact ⟨HKF.out _, rfl, HP.out⟩
      case done2 =>
        rintro D2 ys W1 hD2 rfl ⟨hpre, h1, h2, h3⟩ hK2
        rw [HLl.out] at h1
        have hN := HHas.out.1.keeps h2 (by have := HB9.out; simp; omega)
        have hR := HHas.out.2.2.keeps h2 (by have := HSz2.out; simp; omega)
        have c0 := h1.cell 0
        have n0 := hN.cell 0
        have r0 := hR.cell 0
        have r1 := hR.frozen 0
        have r2 := hR.lt
        simp only [List.getElem?_cons_zero] at c0 n0 r0
        have hne : D ≠ D2 := by omega
        have HFin := Lib.hid (law_end hK2 h3 hne hR ((hB9w.out).trans (h2.toBelow w.heap.size hB9w.out.size (by have := HSz2.out; simp; omega))) (by have := hB9w.out.size; omega) (by have := (hB9w.out).size; have := HDlo.out; omega))
        clear hpre h1 h2 h3 hN hR HL HLl HSeq8 hK8 hD8 hB9 hD2
        gi_wp2
        refine ⟨by simp, .inl ⟨_, _, rfl, run_takeDeferred HFin.out.1, ?_⟩⟩
        refine ⟨by simp, .inl ⟨_, _, rfl, run_takeDeferred HFin.out.2.1, ?_⟩⟩
        have hc5 := HFin.out.2.2.1
        refine ⟨.bool true, ?_, rfl, HFin.out.2.2.2⟩
        simp [results, Tryz.f5, go_sem, hc5]
      case stop2 =>
        rintro D2 c pre W1 _ hp ⟨_, hno⟩ _
        exact absurd hp hno
    · obtain ⟨L, hL⟩ : ∃ L, (ordV l).zip (dpV l) = L := ⟨_, rfl⟩
      have HL : Hid (∀ k (h1 : k < (ordV l).length) (h2 : k < (dpV l).length), L[k]? = some ((ordV l)[k], (dpV l)[k])) := Lib.hid fun k h1 h2 => by
        rw [← hL, List.getElem?_eq_getElem (by rw [List.length_zip]; omega)]
        simp
      have HLl : Hid (L.length = m) := Lib.hid (by rw [← hL, List.length_zip, HM.out.1, HM.out.2.1]; omega)
      have HSeq8 := Lib.hid (HSeq.out 4 w8 hB9)
      rw [hL] at HSeq8
      have HHas := Lib.hid (⟨hn8, hq8, hr8⟩ : Has w8 w7.heap.size 30 [.slice a1 m a3] ∧ Has w8 (w7.heap.size + 1) 30 [.slice b1 m b3] ∧ Has w8 (w.heap.size + 1) 4 [.bool false])
      have HDlo : Hid (w.heap.size ≤ D) := Lib.hid (by have := HD.out.1; have := HB5.out.size; omega)
      have hDlt : D < w8.heap.size := Nat.lt_of_lt_of_le HD7.out.1 hsz8
      have hK8s := hn8.lt
      have hB9w := Lib.hid (HB5.out.trans (hB9.mono HB5.out.size))
      clear HSeq HRow HD7 HB7 HBd HB8 hL hr7 hk7 hsz8 hn8 hq8 hr8 hkk8
      refine wpIn_rangeFunc_ownG rfl (by omega) (gf := 20) (lb := #[.pointer (some ⟨Bo, 0, none⟩), .pointer (some ⟨Bd, 0, none⟩)]) rfl trivial (enters_of Tryz.func20 (by kernel_rfl) rfl)
        HSeq8.out (fun h k => h.trans k) (belowK_b (by have := hB9.size; omega)) (Below.refl _ _) (fun _ => rfl)
        (fun pre W => pre <+: L ∧ Has W w5.heap.size 3 [.int .i64 (pre.length : Int)] ∧ Keeps [w5.heap.size] w8 W ∧ W.heap[D]? = some (.deferred (some [])))
        (fun c pre _ => c = .ret ∧ ¬ (pre <+: L))
        (fun s W W' row hs hg hr => by
          obtain ⟨h0, h1, h2, h3⟩ := hs
          refine ⟨h0, has_noncell h1 hg (fun r e => (hr r e).2), h2.trans (Keeps.grown hg) (fun x hx => .inr (hr x (Option.mem_toList.1 hx)).1), (hg.block D (Array.getElem?_eq_some_iff.1 h3).1 (fun e => by have := (hr D e.symm).1; omega)).trans h3⟩)
        (fun _ _ _ _ _ hs _ _ => hs)
        ⟨List.nil_prefix, hK8, Keeps.refl _ _, hD8⟩ ?a3 ?assign3 ?body3 ?done3 ?stop3
      case assign3 =>
        intro lp x W K hK
        unfold encP
        gi_wp2
        exact hK
      case body3 =>
        rintro lp pre x W1 ⟨hpre, h1, h2, h3⟩ hlt
        rw [HLl.out] at hlt
        obtain ⟨k, hk⟩ : ∃ k, pre.length = k := ⟨_, rfl⟩
        have hz1 : k < (ordV l).length := by rw [HM.out.1]; omega
        have hz2 : k < (dpV l).length := by rw [HM.out.2.1]; omega
        have HLk := Lib.hid (HL.out k hz1 hz2)
        have HPre := Lib.hid hpre
        have HKp := Lib.hid h2
        have H3 := Lib.hid h3
        have hk1 := h1
        rw [hk] at h1
        have c0 := h1.cell 0
        have f0 := h1.frozen 0
        have l0 := h1.lt
        have hN := HHas.out.1.keeps h2 (by have := HB9.out; simp; omega)
        have hQ := HHas.out.2.1.keeps h2 (by have := HB9.out; simp; omega)
        have hR := HHas.out.2.2.keeps h2 (by have := HSz2.out; simp; omega)
        have n0 := hN.cell 0
        have q0 := hQ.cell 0
        have r0 := hR.cell 0
        have r1 := hR.frozen 0
        have r2 := hR.lt
        simp only [List.getElem?_cons_zero] at c0 n0 q0 r0
        obtain ⟨g1, o1, rfl, hg1, e1⟩ := HKids.out.1.at k hz1
        obtain ⟨g2, o2, rfl, hg2, e2⟩ := HKids.out.2.1.at k hz2
        have d1 : W1.cell? ⟨g1, o1 + k, none⟩ = some (.int .i64 (ordV l)[k]) := (cell_same (h2.block g1 hg1 (by have := HKids.out.2.2 g1 o1 (.inl rfl); simp; omega)) _).trans e1
        have d2 : W1.cell? ⟨g2, o2 + k, none⟩ = some (.int .i64 (dpV l)[k]) := (cell_same (h2.block g2 hg2 (by have := HKids.out.2.2 g2 o2 (.inr rfl); simp; omega)) _).trans e2
        have HK1 := Lib.hid (hk : pre.length = k)
        generalize (ordV l)[k] = z1 at d1 HLk
        generalize (dpV l)[k] = z2 at d2 HLk
        have HNo : Hid (x ≠ (z1, z2) → ¬ (pre ++ [x] <+: L)) := Lib.hid fun hne hp => hne (by
          have h := prefix_get hp
          rw [HK1.out, HLk.out] at h
          injection h with h
          exact h.symm)
        have HYes : Hid (x = (z1, z2) → pre ++ [x] <+: L) := Lib.hid fun he => prefix_snoc HPre.out (by rw [HK1.out, HLk.out, he])
        have hk0 : (0 : Int) ≤ (k : Int) := by omega
        have hkm : (k : Int) < (m : Int) := by omega
        have hkm2 : decide ((m : Int) ≤ (k : Int)) = false := by simp; omega
        have hm5 : (m : Int) ≤ 50000 := by have := HM.out.2.2; omega
        have HKF : Hid (∀ v, KeepsFrom w8.heap.size W1 (W1.setCell ⟨w.heap.size + 1, 0, none⟩ v)) := Lib.hid fun v => (KeepsOthers.setCell _ _ _).from _
        have HGo : Hid (KeepsFrom w8.heap.size W1 (W1.setCell ⟨w5.heap.size, 0, none⟩ (.int .i64 ((k : Int) + 1))) ∧ Below w5.heap.size W1 (W1.setCell ⟨w5.heap.size, 0, none⟩ (.int .i64 ((k : Int) + 1))) ∧ Has (W1.setCell ⟨w5.heap.size, 0, none⟩ (.int .i64 ((k : Int) + 1))) w5.heap.size 3 [.int .i64 ((pre ++ [x]).length : Int)] ∧ Keeps [w5.heap.size] w8 (W1.setCell ⟨w5.heap.size, 0, none⟩ (.int .i64 ((k : Int) + 1))) ∧ (W1.setCell ⟨w5.heap.size, 0, none⟩ (.int .i64 ((k : Int) + 1))).heap[D]? = some (.deferred (some []))) := Lib.hid (by
          refine ⟨(KeepsOthers.setCell _ _ _).from _, (Below.refl _ W1).setCell (p := ⟨w5.heap.size, 0, none⟩) (Nat.le_refl _) _, ?_, h2.trans (Keeps.set _ _ _ _) (fun _ h => .inl h), (KeepsOthers.setCell W1 ⟨w5.heap.size, 0, none⟩ _).same D _ h3 rfl⟩
          have := h1.set 0 (.int .i64 ((k : Int) + 1))
          rw [List.length_append, hk]
          exact this)
        have hne : w5.heap.size ≠ w.heap.size + 1 := by have := HSz2.out; omega
        clear hpre h1 h2 h3 hlt hk hz1 hz2 hk1 hN hQ hR hg1 hg2 e1 e2 HL HLl HSeq8 hK8 hD8 hB9
        obtain ⟨x1, x2⟩ := x
        by_cases hx1 : x1 = z1
        · by_cases hx2 : x2 = z2
          · have b1 : (x1 != z1) = false := by simp [hx1]
            have b2 : (x2 != z2) = false := by simp [hx2]
            have HP := Lib.hid (HYes.out (by rw [hx1, hx2]))
            clear hx1 hx2 HNo HYes HLk
            gi_wp2
            exact ⟨HGo.out.1, HGo.out.2.1, HP.out, HGo.out.2.2.1, HGo.out.2.2.2.1, HGo.out.2.2.2.2⟩
          · have b1 : (x1 != z1) = false := by simp [hx1]
            have b2 : (x2 != z2) = true := by simpa using hx2
            have HP := Lib.hid (HNo.out (fun e => hx2 (by injection e)))
            clear hx1 hx2 HNo HYes HLk HGo
            gi_wp2
            exact ⟨HKF.out _, rfl, HP.out⟩
        · have b1 : (x1 != z1) = true := by simpa using hx1
          have HP := Lib.hid (HNo.out (fun e => hx1 (by injection e)))
          clear hx1 HNo HYes HLk HGo
          gi_wp2
          exact ⟨HKF.out _, rfl, HP.out⟩
      case done3 =>
        rintro D2 ys W1 hD2 rfl ⟨hpre, h1, h2, h3⟩ hK2
        rw [HLl.out] at h1
        have hN := HHas.out.1.keeps h2 (by have := HB9.out; simp; omega)
        have hR := HHas.out.2.2.keeps h2 (by have := HSz2.out; simp; omega)
        have c0 := h1.cell 0
        have n0 := hN.cell 0
        have r0 := hR.cell 0
        have r1 := hR.frozen 0
        have r2 := hR.lt
        simp only [List.getElem?_cons_zero] at c0 n0 r0
        have hne : D ≠ D2 := by omega
        have HFin := Lib.hid (law_end hK2 h3 hne hR ((hB9w.out).trans (h2.toBelow w.heap.size hB9w.out.size (by have := HSz2.out; simp; omega))) (by have := hB9w.out.size; omega) (by have := (hB9w.out).size; have := HDlo.out; omega))
        clear hpre h1 h2 h3 hN hR HL HLl HSeq8 hK8 hD8 hB9 hD2
        gi_wp2
        refine ⟨by simp, .inl ⟨_, _, rfl, run_takeDeferred HFin.out.1, ?_⟩⟩
        refine ⟨by simp, .inl ⟨_, _, rfl, run_takeDeferred HFin.out.2.1, ?_⟩⟩
        have hc5 := HFin.out.2.2.1
        refine ⟨.bool true, ?_, rfl, HFin.out.2.2.2⟩
        simp [results, Tryz.f5, go_sem, hc5]
      case stop3 =>
        rintro D2 c pre W1 _ hp ⟨_, hno⟩ _
        exact absurd hp hno
section
variable {H : Type} {enc : TypeId × Value → H}
set_option maxRecDepth 100000 in
theorem treeWalks_w {r : Reach} {b0 : Nat} {d : DataW H} {ps : List MemPlace} {sp : Nat → Bool} (v : Value) (stop : Int) (W : World) (hval : Value.okWide Tryz.prog W r b0 22 v) (hd : DataW.Trod enc Tryz.prog W 0 sp true 22 v d ps)
    (hw : ∀ n ∈ d.weights Tryz.prog 22, n ≤ reachBytes) (hT : Tb W ∧ Tt W ∧ Tk W) :
    Calls Tryz.prog 5 #[v, .int .i64 stop] W fun e w' => e = .returned (.bool true) ∧ Below W.heap.size W w' := by
  obtain ⟨l, h1, h2, h3⟩ := open_nodes hval hd hw
  exact callsIn_wide.1 (treeWalks_u l v stop W h1 (open_caps hval hd l h1) h2 h3 hT)
end
end TreeD
end Go.Proofs.YtakdmlaecidjaaaGreatDoor
