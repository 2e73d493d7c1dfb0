/- What a row's list gives the checks of a tree; nodes that came in. -/
import Derived.Test.YtmdkocegnbcgmaaGreatDoorZ26
import Derived.Test.YtmdkocegnbcgmaaGreatDoorZ47
import Derived.Lib.LaidTab
namespace Go.Proofs.YtmdkocegnbcgmaaGreatDoor
open Go.RowKit Go.Shelf Go.WideShapes Go.ChangeShapes Go.Deep ObjM
namespace TreeD
open LexD (WTabN WLn)

section
variable {H : Type} {enc : TypeId × Value → H}
set_option maxRecDepth 100000 in
theorem open_caps {W : World} {r : Reach} {b0 : Nat} {v : Value} {d : DataW H} {ps : List MemPlace} {sp : Nat → Bool} (hval : Value.okWide Tryz.prog W r b0 22 v) (hd : DataW.Trod enc Tryz.prog W 0 sp true 22 v d ps) (l : List Nd) (hl : NdsAt W v l) : CapOk W v l := by
  have hcell : Cell.okWide Tryz.prog W r b0 22 v := by
    have h := hval
    unfold Value.okWide at h
    rw [Tryz.underlying22] at h
    exact h
  obtain ⟨fuel, hf⟩ := hd
  intro b o n c0 e i hi a m c hc2
  subst e
  obtain ⟨av, cap, e, -⟩ := hl
  injection e with e1 e2 e3
  subst e2
  rcases Shell.open_slice_any Tryz.underlying22 hf with h | ⟨a', len', cap', h, _, _, -, hc⟩
  · simp [Value.cells] at h
  · simp [Value.cells] at h
    obtain ⟨rfl, rfl, rfl⟩ := h
    obtain ⟨cs, y, mm, hl4, hat, ht, -⟩ := hc i hi
    rw [nodeCellsOf] at hl4 hat
    obtain ⟨f0, f1, f2, f3, hs, -, -, ⟨p2, q2, t2⟩, -⟩ := node_desc
    match cs, hl4, ht with
    | [x0, x1, x2, x3], _, ht =>
      obtain ⟨z2, m2, h2, w2⟩ := Shell.field_trod hs ht 2 f2 rfl 2 1 p2 q2
      rw [t2] at h2
      simp only [List.drop_zero, List.drop_succ_cons, List.take_succ_cons, List.take_zero] at h2
      have g2 := hat 2 _ rfl
      rw [addr_at, ← Nat.add_assoc] at g2
      rw [g2] at hc2
      injection hc2 with hc2
      subst hc2
      rcases Shell.open_slice_any Tryz.underlying31 h2 with h | ⟨a2, l2, c2, h, h3, _⟩
      · simp at h
        omega
      · simp at h
        omega
end
theorem gPow : Tryz.prog.globalNamed "internal/strconv.uint64pow10" = some 2 := by kernel_rfl
theorem gPowType : (Tryz.prog.globals[2]?).map (·.type) = some 133 := by kernel_rfl
theorem cellsU64 : Tryz.prog.cellsOf 92 = 1 := by kernel_rfl
theorem cellsTab : Tryz.prog.cellsOf 133 = 20 := by kernel_rfl
theorem pow_of {W : World} {r : List (String × DataW Unit)} (h : laidMet Tryz.prog (("internal/strconv.uint64pow10", Rows.laid_internal_strconv_uint64pow10) :: r) W) : NumD.Tab W :=
  Lib.tabIs_of_head (rest := r) gPow gPowType Tryz.underlying133 Tryz.underlying92 cellsU64 cellsTab h
theorem gSpc : Tryz.prog.globalNamed "strings.asciiSpace" = some 3 := by kernel_rfl
theorem gSpcType : (Tryz.prog.globals[3]?).map (·.type) = some 148 := by kernel_rfl
theorem cellsU8 : Tryz.prog.cellsOf 5 = 1 := by kernel_rfl
theorem cellsSpc : Tryz.prog.cellsOf 148 = 256 := by kernel_rfl
set_option maxRecDepth 100000 in
theorem spc_of {W : World} {r : List (String × DataW Unit)} (h : laidMet Tryz.prog (("strings.asciiSpace", Rows.laid_strings_asciiSpace) :: r) W) : Lib.TabIs Tryz.prog W "strings.asciiSpace" .u8 Lib.asciiSpaceTab :=
  Lib.tabIs_of_head (rest := r) gSpc gSpcType Tryz.underlying148 Tryz.underlying5 cellsU8 cellsSpc h
theorem gWords : Tryz.prog.globalNamed "ravelin/lex.words" = some 1 := by kernel_rfl
theorem gWordsType : (Tryz.prog.globals[1]?).map (·.type) = some 123 := by kernel_rfl
theorem words_of {l : List (String × DataW Unit)} {W : World} (h : laidMet Tryz.prog (("ravelin/lex.words", Rows.laid_ravelin_lex_words) :: l) W) : WTabN W := by
  have hc := Tables.cells_of_head 4 (vs := WLn.map Value.string) gWords gWordsType h (by kernel_rfl)
  have h2 : ∀ (i : Nat) (s : ByteArray), WLn[i]? = some s → W.cell? ⟨1, i, none⟩ = some (.string s) := fun i s hs => hc i _ (by rw [List.getElem?_map, hs]; rfl)
  exact ⟨World.block_lt_of_cell? W ⟨1, 0, none⟩ (h2 0 _ rfl), h2⟩
theorem wants_of {l : List (String × DataW Unit)} {W : World} (h : laidMet Tryz.prog (("ravelin/tree.wants", Rows.laid_ravelin_tree_wants) :: l) W) : ∀ n, n < 37 → W.cell? ⟨0, n, none⟩ = some (.string (wantS n)) := by
  have hc := Tables.cells_of_head 4 (vs := (List.range 37).map fun n => Value.string (wantS n)) gWants tWants h (by kernel_rfl)
  intro n hn
  refine hc n _ ?_
  rw [List.getElem?_map, List.getElem?_range hn]
  rfl
theorem gSyn : Tryz.prog.globalNamed "strconv.ErrSyntax" = some 10 := by kernel_rfl
theorem tSyn : (Tryz.prog.globals[10]?).map (·.type) = some 119 := by kernel_rfl
theorem gRng : Tryz.prog.globalNamed "strconv.ErrRange" = some 11 := by kernel_rfl
theorem tRng : (Tryz.prog.globals[11]?).map (·.type) = some 119 := by kernel_rfl
theorem star : "*" ++ "errors.errorString" = "*errors.errorString" := by decide
theorem rowErr (u : TypeId) (h : Tryz.prog.typeName? 3 u = some "*errors.errorString") : u = 190 :=
  typeName_ptr_named (nm := "errors.errorString") (by rw [star]; kernel_rfl) (by kernel_rfl) (by decide) u (by rw [star]; exact h)
theorem cErr : Tryz.prog.cellsOf 192 = 1 := by kernel_rfl
theorem cStr : Tryz.prog.cellsOf 9 = 1 := by kernel_rfl
/-- What a row's list gives the checks of a tree. -/
theorem stills_of {W : World} (h : laidMet Tryz.prog [("math/bits.deBruijn32tab", Rows.laid_math_bits_deBruijn32tab), ("math/bits.deBruijn64tab", Rows.laid_math_bits_deBruijn64tab), ("internal/strconv.uint64pow10", Rows.laid_internal_strconv_uint64pow10), ("unicode/utf8.acceptRanges", Rows.laid_unicode_utf8_acceptRanges), ("strconv.ErrRange", Rows.laid_strconv_ErrRange), ("strconv.ErrSyntax", Rows.laid_strconv_ErrSyntax), ("unicode.White_Space", Rows.laid_unicode_White_Space), ("strings.asciiSpace", Rows.laid_strings_asciiSpace), ("ravelin/lex.words", Rows.laid_ravelin_lex_words), ("ravelin/tree.wants", Rows.laid_ravelin_tree_wants), ("unicode/utf8.first", Rows.laid_unicode_utf8_first)] W) (hs : W.ShapedOpen Tryz.prog) : Tb W ∧ Tt W ∧ Tk W := by
  have hb := tb_of h hs
  have h3 := h.tail.tail
  have h5 := h3.tail.tail
  have h6 := h5.tail
  have h8 := h6.tail.tail
  have h9 := h8.tail
  have h10 := h9.tail
  obtain ⟨a0, sa, hva, _, _, _⟩ := laid_sentinel h5 gRng tRng Tryz.underlying119 rowErr Tryz.underlying190 Tryz.underlying192 rfl rfl Tryz.underlying9 cErr cStr
  obtain ⟨b0, sb, hvb, _, _, _⟩ := laid_sentinel h6 gSyn tSyn Tryz.underlying119 rowErr Tryz.underlying190 Tryz.underlying192 rfl rfl Tryz.underlying9 cErr cStr
  have cR : W.cell? ⟨11, 0, none⟩ = some (.iface 190 (.pointer (some a0))) := by simpa using World.var?_cell gRng hva 0
  have cS : W.cell? ⟨10, 0, none⟩ = some (.iface 190 (.pointer (some b0))) := by simpa using World.var?_cell gSyn hvb 0
  exact ⟨hb, ⟨words_of h9, ⟨pow_of h3, ⟨_, cS, .inr ⟨_, _, rfl⟩⟩, ⟨_, cR, .inr ⟨_, _, rfl⟩⟩, World.block_lt_of_cell? W _ cS, World.block_lt_of_cell? W _ cR⟩, spc_of h8⟩, ⟨hb.lt, wants_of h10, hb.ml⟩⟩
end TreeD
end Go.Proofs.YtmdkocegnbcgmaaGreatDoor
