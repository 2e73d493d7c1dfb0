/- The statements LexScans, LexQuotes. -/
import Derived.Test.YthlclmjcdpffbaaDoorLex20
import Derived.Test.YthlclmjcdpffbaaDoorTables
import Derived.Test.YthlclmjcdpffbaaDoorRows
namespace Go.Proofs.YthlclmjcdpffbaaDoor
open Go.RowKit ObjM Go.Maps Go.ChangeShapes
namespace LexD

theorem gWords : Tryd.prog.globalNamed "ravelin/lex.words" = some 0 := by kernel_rfl
theorem gWordsType : (Tryd.prog.globals[0]?).map (·.type) = some 47 := by kernel_rfl
theorem words_of {W : World} (h : laidMet Tryd.prog [("ravelin/lex.words", Rows.laid_ravelin_lex_words)] W) : WTab W := by
  have hc := Tables.cells_of_head 4 (vs := WL.map Value.string) gWords gWordsType h (by kernel_rfl)
  have h2 : ∀ (i : Nat) (s : ByteArray), WL[i]? = some s → W.cell? ⟨0, i, none⟩ = some (.string s) := fun i s hs => hc i _ (by rw [List.getElem?_map, hs]; rfl)
  exact ⟨World.block_lt_of_cell? W ⟨0, 0, none⟩ (h2 0 _ rfl), h2⟩
theorem tabs_of {W : World} (h : laidMetH Tryd.prog Rows.lexScansRow.laid W) : WTab W := words_of h
theorem bytes_inj {l : List UInt8} : (⟨l.toArray⟩ : ByteArray) = bytes l := rfl
set_option maxRecDepth 100000 in
set_option maxHeartbeats 4000000 in
theorem lexQuotes_u (s : ByteArray) (hs : s.size ≤ 9223372036854775807) (w : World) (hT : WTab w) :
    Calls Tryd.prog 5 #[.string s] w fun e w' => e = .returned (.bool true) ∧ Below w.heap.size w w' := by
  have HA := Lib.hid (awake_any w hT)
  clear hT
  by_cases h3 : 3000 < s.size
  · have h3i : (3000 : Int) < (s.size : Int) := by omega
    go_enter Tryd.func5, Tryd.ntmps5
    go_wp2_with fail
    refine (HA.out).mono ?_
    rintro e w1 ⟨rfl, hb⟩
    go_wp2
    go_ret
    exact ⟨rfl, hb⟩
  · have h3i : ¬ (3000 : Int) < (s.size : Int) := by omega
    have HQ := fun W => Lib.hid (TraceD.quote_any s (by omega) W)
    have HR := fun W => Lib.hid (TraceD.refQuote_any s (by omega) W)
    generalize (⟨(TraceD.quoteB s.data.toList).toArray⟩ : ByteArray) = q at HQ HR
    go_enter Tryd.func5, Tryd.ntmps5
    go_wp2_with fail
    refine (HA.out).mono ?_
    rintro e w1 ⟨rfl, hb⟩
    have HB := Lib.hid hb
    clear hb
    go_wp2_with fail
    refine ((HQ _).out).mono ?_
    rintro e w2 ⟨rfl, hb⟩
    have HB2 := Lib.hid (HB.out.trans (hb.mono HB.out.size))
    clear hb
    go_wp2_with fail
    refine ((HR _).out).mono ?_
    rintro e w3 ⟨rfl, hb⟩
    have HB3 := Lib.hid (HB2.out.trans (hb.mono HB2.out.size))
    clear hb
    go_wp2
    go_ret
    exact ⟨rfl, HB3.out⟩
set_option maxRecDepth 100000 in
set_option maxHeartbeats 4000000 in
theorem lexScans_u (s : ByteArray) (hs : s.size ≤ 9223372036854775807) (w : World) (hT : WTab w) :
    Calls Tryd.prog 3 #[.string s] w fun e w' => e = .returned (.bool true) ∧ Below w.heap.size w w' := by
  have HA := Lib.hid (awake_any w hT)
  have HT := Lib.hid hT
  clear hT
  by_cases h5 : 5000 < s.size ∧ s.size ≤ 100000
  · have h5a : (5000 : Int) < (s.size : Int) := by omega
    have h5b : (s.size : Int) ≤ 100000 := by omega
    clear h5
    go_enter Tryd.func3, Tryd.ntmps3
    go_wp2_with fail
    refine (HA.out).mono ?_
    rintro e w1 ⟨rfl, hb⟩
    go_wp2
    go_ret
    exact ⟨rfl, hb⟩
  · have h5a : ¬ ((5000 : Int) < (s.size : Int)) ∨ ((5000 : Int) < (s.size : Int) ∧ ¬ (s.size : Int) ≤ 100000) := by omega
    have HS := fun W (h : WTab W) => Lib.hid (scan_any s W h)
    have HR := fun W => Lib.hid (refScan_any s W)
    clear h5
    rcases h5a with h5a | ⟨h5a, h5b⟩
    all_goals
      go_enter Tryd.func3, Tryd.ntmps3
      go_wp2_with fail
      refine (HA.out).mono ?_
      rintro e w1 ⟨rfl, hb⟩
      have HB := Lib.hid hb
      clear hb
      go_wp2_with fail
      refine ((HS _ (HT.out.below HB.out)).out).mono ?_
      intro e w2 h1
      cases h1 with
      | long _ hl hb =>
        have HB2 := Lib.hid (HB.out.trans (hb.mono HB.out.size))
        clear hb
        go_wp2_with fail
        refine ((HR _).out).mono ?_
        intro e w3 h2
        cases h2 with
        | long _ _ hb =>
          have HB3 := Lib.hid (HB2.out.trans (hb.mono HB2.out.size))
          have HSm := Lib.hid (same_any [] (.slice none 0 0) (.slice none 0 0) w3 (by simp) (.inl ⟨rfl, rfl⟩) (.inl ⟨rfl, rfl⟩))
          clear hb
          go_wp2_with fail
          refine (HSm.out).mono ?_
          rintro e w4 ⟨rfl, hb⟩
          have HB4 := Lib.hid (HB3.out.trans (hb.mono HB3.out.size))
          clear hb
          go_wp2
          go_ret
          exact ⟨rfl, HB4.out⟩
        | ok _ _ _ h _ _ _ _ => omega
        | err _ _ _ h _ _ _ => omega
      | ok ts tv _ hsz hv hl hrow hb =>
        have HB2 := Lib.hid (HB.out.trans (hb.mono HB.out.size))
        have HTk := Lib.hid (tks_of_own (l := scanL s ts) (scanL_len s ts) hrow)
        obtain ⟨av, cv, rfl⟩ := HTk.out.shape
        clear hb hrow
        go_wp2_with fail
        refine ((HR _).out).mono ?_
        intro e w3 h2
        cases h2 with
        | long _ h _ => omega
        | ok ts2 tv2 _ _ hv2 _ hrow hb =>
          rw [hv] at hv2
          injection hv2 with hv2
          subst hv2
          have HB3 := Lib.hid (HB2.out.trans (hb.mono HB2.out.size))
          have HTk2 := Lib.hid (tks_of_own (l := scanL s ts) (scanL_len s ts) hrow)
          have HTk1 := Lib.hid (HTk.out.below hb)
          obtain ⟨av2, cv2, rfl⟩ := HTk2.out.shape
          have HSm := Lib.hid (same_any (scanL s ts) _ _ w3 (by rw [scanL_len]; omega) HTk1.out HTk2.out)
          clear hb hrow hv hl
          go_wp2_with fail
          refine (HSm.out).mono ?_
          rintro e w4 ⟨rfl, hb⟩
          have HB4 := Lib.hid (HB3.out.trans (hb.mono HB3.out.size))
          clear hb
          go_wp2
          go_ret
          exact ⟨rfl, HB4.out⟩
        | err _ _ _ _ h _ _ => rw [hv] at h; cases h
      | err p er _ hsz hv hp hb =>
        have HB2 := Lib.hid (HB.out.trans (hb.mono HB.out.size))
        clear hb
        go_wp2_with fail
        refine ((HR _).out).mono ?_
        intro e w3 h2
        cases h2 with
        | long _ h _ => omega
        | ok _ _ _ _ h _ _ _ => rw [hv] at h; cases h
        | err p2 er2 _ _ hv2 _ hb =>
          rw [hv] at hv2
          injection hv2 with hv2
          injection hv2 with e1 e2
          subst e1 e2
          have HB3 := Lib.hid (HB2.out.trans (hb.mono HB2.out.size))
          have HSm := Lib.hid (same_any [] (.slice none 0 0) (.slice none 0 0) w3 (by simp) (.inl ⟨rfl, rfl⟩) (.inl ⟨rfl, rfl⟩))
          clear hb hv
          go_wp2_with fail
          refine (HSm.out).mono ?_
          rintro e w4 ⟨rfl, hb⟩
          have HB4 := Lib.hid (HB3.out.trans (hb.mono HB3.out.size))
          clear hb
          go_wp2
          go_ret
          exact ⟨rfl, HB4.out⟩
end LexD
end Go.Proofs.YthlclmjcdpffbaaDoor
