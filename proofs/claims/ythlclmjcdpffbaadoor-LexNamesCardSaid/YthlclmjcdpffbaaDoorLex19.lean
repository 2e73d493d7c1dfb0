/- The document's Scan. -/
import Derived.Test.YthlclmjcdpffbaaDoorLex18
namespace Go.Proofs.YthlclmjcdpffbaaDoor
open Go.RowKit ObjM Go.Maps
namespace LexD

theorem cells5 (W : World) (t : TypeId) (x0 x1 x2 x3 x4 : Value) (j : Nat) (u : Value) (h : [x0, x1, x2, x3, x4][j]? = some u) : (W.alloc (.cells #[x0, x1, x2, x3, x4] t)).cell? ((⟨W.heap.size, 0, none⟩ : Addr).add j) = some u := by
  rw [TraceD.addr_add, Nat.zero_add]
  exact ((Has.new W t [x0, x1, x2, x3, x4]).cell j).trans h
/-- Where the loop stands. -/
structure At (s : ByteArray) (p : Nat) (ts : List Tok) : Prop where
  le : p ≤ s.size
  len : ts.length ≤ p
  scan : scanV s = andTok ts (scanK 0 p (s.data.toList.drop p))
  noBlank : stepB (s.data.toList.drop p) = none
theorem At.first (s : ByteArray) : At s (blK 0 s.data.toList) [] := by
  obtain ⟨h1, h2⟩ := bl_scan s.data.toList 0
  simp only [List.drop_zero, Nat.zero_add] at h1 h2
  refine ⟨?_, by simp, ?_, h2⟩
  · simpa using blK_le s.data.toList
  · rw [andTok_nil]
    exact h1
theorem At.next {s : ByteArray} {p k : Nat} {ts : List Tok} {t : Tok} (h : At s p ts) (ht : tokV 0 (s.data.toList.drop p) = .ok (t, k)) :
    p + k ≤ s.size ∧ 1 ≤ k ∧ At s (p + (k + blK 0 (s.data.toList.drop (p + k)))) (ts ++ [t.at0 p k]) := by
  have ht2 : tokV p (s.data.toList.drop p) = .ok (t.at0 p k, k) := by rw [tok_at, ht]
  have h1 := tokV_pos ht
  have h2 := tokV_le ht
  have h2' : k ≤ s.size - p := by simpa using h2
  obtain ⟨h3, h4⟩ := bl_scan s.data.toList (p + k)
  have h5 := blK_le (s.data.toList.drop (p + k))
  have h5' : blK 0 (s.data.toList.drop (p + k)) ≤ s.size - (p + k) := by simpa using h5
  have hl := h.le
  have hn := h.len
  refine ⟨by omega, h1, by omega, by simp; omega, ?_, by rw [← Nat.add_assoc]; exact h4⟩
  rw [h.scan, scan_tok h1 h.noBlank ht2, andTok_snoc, ← Nat.add_assoc, h3]
theorem At.bad {s : ByteArray} {p : Nat} {ts : List Tok} {er : Int} (h : At s p ts) (hp : p < s.size) (ht : tokV 0 (s.data.toList.drop p) = .error er) : scanV s = .error (p, er) := by
  have ht2 : tokV p (s.data.toList.drop p) = .error er := by rw [tok_at, ht]
  rw [h.scan, scan_err h.noBlank ht2 (by simpa using hp)]
  rfl
theorem At.done {s : ByteArray} {p : Nat} {ts : List Tok} (h : At s p ts) (hp : ¬ p < s.size) : scanV s = .ok ts ∧ ts.length ≤ s.size := by
  have hl := h.le
  have hn := h.len
  refine ⟨?_, by omega⟩
  rw [h.scan, scan_end (by simp; omega)]
  simp [andTok]
set_option maxRecDepth 100000 in
set_option maxHeartbeats 8000000 in
theorem refScan_any (s : ByteArray) (w : World) : Calls Tryd.prog 11 #[.string s] w (ScanIs w s) := by
  by_cases hlong : 100000 < s.size
  · have hl : (100000 : Int) < (s.size : Int) := by omega
    go_enter Tryd.func11, Tryd.ntmps11
    go_wp2
    go_ret3
    exact .long _ hlong (Below.refl _ _)
  · have hl : ¬ (100000 : Int) < (s.size : Int) := by omega
    have hs : s.size ≤ 100000 := by omega
    obtain ⟨i0, hi, hz0, hz1, hz2⟩ := info_parts infoTok
    have HIf := Lib.hid (⟨hi, hz0, hz1, hz2⟩ : _ ∧ _ ∧ _ ∧ _)
    have HBk := fun W => Lib.hid (refBlank_any s (by omega) W)
    have HA0 := Lib.hid (At.first s)
    clear hi hz0 hz1 hz2
    go_enter Tryd.func11, Tryd.ntmps11
    go_wp2_with fail
    refine ((HBk _).out).mono ?_
    rintro e w1 ⟨rfl, rfl⟩
    generalize blK 0 s.data.toList = b0 at HA0 ⊢
    clear HBk
    go_wp2
    go_loopw [5, 6] (fun o i wr => ∃ (p : Nat) (ts : List Tok), i = .int .i64 (p : Int) ∧ p ≤ s.size ∧ ts.length ≤ p ∧ Below w.heap.size w wr ∧ Hid (wr.ownsRow w.heap.size 36 5 o ts.length (rowT ts)) ∧ Hid (At s p ts)) (fun _ i _ => s.size - (intOf i).toNat)
    case atStart => exact ⟨b0, [], rfl, HA0.out.le, by simp, Below.refl _ _, Lib.hid (World.ownsRow_nil _ _ _ _), HA0⟩
    case round =>
      obtain ⟨p, ts, rfl, hp, hts, hBr, HO, HA⟩ := hrel
      have HB := Lib.hid hBr
      have hszr := hBr.size
      clear hBr
      obtain ⟨av, cv, rfl⟩ := own_sl HO.out
      by_cases hlt : p < s.size
      · have hi1 : (p : Int) < (s.size : Int) := by omega
        have hi2 : (p : Int) ≤ (s.size : Int) := by omega
        obtain ⟨R, hR, hRl, hRs, hR0, -⟩ := rest_of hlt
        have HTk := fun W => Lib.hid (refToken_any R hR0 (by omega) W)
        rw [hRl] at HTk
        clear hRl hRs hR0
        go_wp2_with fail
        refine ((HTk _).out).mono ?_
        intro e w2 htk
        cases htk with
        | ok t k _ ht hb =>
          obtain ⟨hk1, hk2, hat⟩ := HA.out.next ht
          have HA2 := Lib.hid hat
          have HB2 := Lib.hid (HB.out.trans (hb.mono hszr))
          have HO2 := Lib.hid (own_keepsT HO.out (KeepsT.below hb []) (by simp))
          have hsz2 := HB2.out.size
          have HBl := fun W => Lib.hid (refBlank_any (s.extract (p + k) s.size) (by simp; omega) W)
          rw [ext_drop] at HBl
          obtain ⟨b2, hb2⟩ : ∃ b, blK 0 (s.data.toList.drop (p + k)) = b := ⟨_, rfl⟩
          rw [hb2] at HBl HA2
          have hki : (p : Int) + (k : Int) ≤ (s.size : Int) := by omega
          clear hat ht hb hb2 HTk HO HA HB
          simp only [TokCells]
          obtain ⟨hi, hz0, hz1, hz2⟩ := HIf.out
          go_wp2_with (at_builtin; refine wpList_append_own _ rfl _ _ 23 rfl w.heap.size 36 i0 (.agg #[.int .i64 0, .string ⟨#[]⟩, .int .i64 0, .int .i64 0, .int .i64 0]) 5 48 Tryd.underlying23 hi hz0 hz1 hz2 rfl (by decide) (.slice av ts.length cv) ts.length (rowT ts) rfl ((HO2.out.alloc _).alloc _) ⟨w2.heap.size + 1, 0, none⟩ 1 1 [.int .i64 t.kind, .string t.text, .int .i64 (p : Int), .int .i64 ((p : Int) + (k : Int)), .int .i64 t.n] rfl rfl ?cells (by simp [Value.oneCell']) ?c3 ?c4 ?c5 ?_)
          case cells =>
            intro j u h
            have := cells5 (w2.alloc (.cells #[.int .i64 t.kind, .string t.text, .int .i64 (p : Int), .int .i64 ((p : Int) + (k : Int)), .int .i64 t.n] 36)) 36 _ _ _ _ _ j u h
            simpa only [World.size_alloc] using this
          case c3 => unfold maxLen; omega
          case c4 => omega
          case c5 => first | omega | (simp; omega)
          intro v' w3 hown' hgrow _
          have HO3 : Hid (w3.ownsRow w.heap.size 36 5 v' (ts ++ [t.at0 p k]).length (rowT (ts ++ [t.at0 p k]))) := Lib.hid (by
            rw [rowT_snoc, List.length_append]
            exact hown')
          have HB3 : Hid (Below w.heap.size w w3) := Lib.hid (((HB2.out.alloc hsz2 _).alloc (by simp; omega) _).grown hgrow (by simp; omega) (fun k hk => (HO2.out.lt k hk).1))
          obtain ⟨av3, cv3, rfl⟩ := own_sl HO3.out
          have hle := HA2.out.le
          clear hown' hgrow hi hz0 hz1 hz2 HIf HO2 HB2
          go_wp2_with fail
          refine ((HBl _).out).mono ?_
          rintro e w4 ⟨rfl, rfl⟩
          go_wp2
          go_roundw
          case rel => exact ⟨p + (k + b2), ts ++ [t.at0 p k], by go_num, hle, HA2.out.len, HB3.out, Lib.hid (by have h9 := HO3.out; simp only [List.length_append, List.length_singleton] at h9 ⊢; exact h9), HA2⟩
          case measure => simp [intOf]; omega
        | err er _ ht her hb =>
          have HE := Lib.hid (HA.out.bad hlt ht)
          have HB2 := Lib.hid (HB.out.trans (hb.mono hszr))
          have hne : (er != 0) = true := by simpa using her
          clear ht hb HA HB HO
          simp only [TokZero]
          go_wp2
          go_ret3
          refine .err p er _ hs HE.out hlt ?_
          repeat (first | exact HB2.out | refine Below.alloc ?_ (by have := HB2.out.size; omega) _)
      · have HD := Lib.hid (HA.out.done hlt)
        obtain ⟨hi, hz0, hz1, hz2⟩ := HIf.out
        clear HA
        go_wp2_with (at_builtin; refine wpList_append_own _ rfl _ _ 23 rfl w.heap.size 36 i0 (.agg #[.int .i64 0, .string ⟨#[]⟩, .int .i64 0, .int .i64 0, .int .i64 0]) 5 48 Tryd.underlying23 hi hz0 hz1 hz2 rfl (by decide) (.slice av ts.length cv) ts.length (rowT ts) rfl (HO.out.alloc _) ⟨wr.heap.size, 0, none⟩ 1 1 [.int .i64 0, .string ⟨#[]⟩, .int .i64 (s.size : Int), .int .i64 (s.size : Int), .int .i64 0] rfl rfl (fun j u h => cells5 wr 36 _ _ _ _ _ j u h) (by simp [Value.oneCell']) ?c3 ?c4 ?c5 ?_)
        case c3 => unfold maxLen; omega
        case c4 => omega
        case c5 => first | omega | (simp; omega)
        intro v' w3 hown' hgrow _
        have HO3 : Hid (w3.ownsRow w.heap.size 36 5 v' (ts.length + 1) (rowT (ts ++ [endTok s]))) := Lib.hid (by
          rw [rowT_snoc]
          exact hown')
        have HB3 : Hid (Below w.heap.size w w3) := Lib.hid ((HB.out.alloc hszr _).grown hgrow (by simp; omega) (fun k hk => (HO.out.lt k hk).1))
        obtain ⟨av3, cv3, rfl⟩ := own_sl HO3.out
        clear hown' hgrow hi hz0 hz1 hz2 HIf HO HB
        go_wp2
        go_ret3
        exact .ok ts _ _ hs HD.out.1 HD.out.2 HO3.out HB3.out
end LexD
end Go.Proofs.YthlclmjcdpffbaaDoor
