/- A function's words as a text: the document's. (Written by mk_code7.py.) -/
import Derived.Test.YtmebhdffgpnplaaDoorCode6
namespace Go.Proofs.YtmebhdffgpnplaaDoor
open Go.RowKit ObjM
namespace CodeD
open InstrM InstrD FlowD

theorem showP_step {ws : List Nat} {k : Nat} {s : ByteArray} (h : s.data.toList = lineW k (ws.getD k 0 : Nat)) : (⟨(showP ws k).toArray⟩ : ByteArray) ++ s = ⟨(showP ws (k + 1)).toArray⟩ := by
  apply ByteArray.ext
  apply Array.toList_inj.1
  rw [app_l, h, showP_next]
set_option maxRecDepth 100000 in
set_option maxHeartbeats 16000000 in
theorem refShow_all (p : PrV) (ws : List Nat) (w : World) (hw : WordsAt w p ws) (hl : ws.length ≤ 2000) (hP : Pow w) : Calls Tryd.prog 10 #[p.agg] w fun e w' => e = .returned (.string ⟨(showP ws ws.length).toArray⟩) ∧ Below w.heap.size w w' := by
  have HSm := Lib.hid hw.small
  have HWo := Lib.hid (fun (W : World) (hW : Below w.heap.size w W) (k : Nat) (hk : k < ws.length) => (hw.below hW).at_ k _ (getD_some hk))
  have HLi : Hid (∀ k, k < ws.length → ws.getD k 0 ≤ 4294967295) := Lib.hid fun k hk => hw.lim _ (List.mem_of_getElem? (getD_some hk))
  have HLn := Lib.hid (fun k hk => showP_len hw.lim k hk)
  have HTP := Lib.hid (fun (W : World) (hW : Below w.heap.size w W) => (⟨hP.below hW, trivial⟩ : Pow W ∧ True))
  obtain ⟨a0, n0, c0, rg, wa, wn, wk, a3, n3, c3, a4, n4, c4, a5, n5, c5⟩ := p
  obtain rfl : wn = ws.length := hw.len
  obtain ⟨hx, hb⟩ := pr_box w ⟨a0, n0, c0, rg, wa, ws.length, wk, a3, n3, c3, a4, n4, c4, a5, n5, c5⟩
  simp only [PrV.cells] at hx hb
  simp only at HWo
  obtain ⟨m, hm⟩ : ∃ m, ws.length = m := ⟨_, rfl⟩
  have HM := Lib.hid hm
  have x2 := hx.cell 2
  have lx := hx.lt
  simp only [List.getElem?_cons_zero, List.getElem?_cons_succ] at x2
  have HB := Lib.hid hb
  unfold PrV.agg
  simp only
  rw [hm] at hl x2 lx HB HSm HWo HLi ⊢
  clear hx hb hw hP hm
  have HB0 : Hid (Below w.heap.size w (w.alloc (.cells #[.slice a0 n0 c0, .int .i64 rg, .slice wa m wk, .slice a3 n3 c3, .slice a4 n4 c4, .slice a5 n5 c5] 38))) := HB
  have HSe0 : Hid ((⟨#[]⟩ : ByteArray) = ⟨(showP ws 0).toArray⟩) := Lib.hid rfl
  clear HB
  go_enter Tryd.func10, Tryd.ntmps10
  go_wp2
  go_loopg [12, 3] m (fun kk i sv wr => ∃ (k : Nat) (S : ByteArray), i = .int .i64 k ∧ .string S = sv ∧ k ≤ m ∧ kk + k = m ∧ Hid (Below w.heap.size w wr) ∧ Hid (S = ⟨(showP ws k).toArray⟩))
  case atStart => exact ⟨0, _, rfl, rfl, by omega, by omega, HB0, HSe0⟩
  case round =>
    obtain ⟨k, S, rfl, rfl, hk, hkk, HS, HSe⟩ := hrel
    clear HB0 HSe0 x2 lx
    by_cases hlt : k < m
    · have hi1 : (k : Int) < (m : Int) := by omega
      have hi0 : (0 : Int) ≤ (k : Int) := by omega
      have hk5 : k ≤ 1000000 := by omega
      obtain ⟨gg, oo, rfl, lg, cg⟩ := HWo.out wr HS.out k hlt
      have hlim := HLi.out k hlt
      have hsl := HLn.out k hk5
      have htl := txt_len (x := (ws.getD k 0 : Nat)) (by omega) (by omega)
      have hit := Lib.itoa_length_le (k : Int) (by omega) (by omega)
      have HD := Lib.hid (refDecode_any (ws.getD k 0 : Nat) (by omega) (by omega) wr)
      have hfr := rF_range (x := (ws.getD k 0 : Nat)) (by omega) (by omega)
      obtain ⟨A, hA⟩ : ∃ x : ByteArray, (⟨(Lib.itoa (k : Int)).toArray⟩ : ByteArray) = x := ⟨_, rfl⟩
      obtain ⟨T, hTx⟩ : ∃ x : ByteArray, (⟨(txtW (ws.getD k 0 : Nat)).toArray⟩ : ByteArray) = x := ⟨_, rfl⟩
      have hAs : A.size ≤ 21 := by rw [← hA]; show (Lib.itoa (k : Int)).toArray.size ≤ _; simpa using hit
      have hTs : T.size ≤ 74 := by rw [← hTx]; show (txtW (ws.getD k 0 : Nat)).toArray.size ≤ _; simpa using htl
      have HIt := fun (W : World) (hb : Below w.heap.size w W) => Lib.hid (itoa_any (k : Int) (by omega) (by omega) W (HTP.out W hb).1)
      simp only [hA] at HIt
      have HS3 : Hid (S ++ (A ++ ⟨#[58, 32]⟩ ++ T ++ ⟨#[10]⟩) = ⟨(showP ws (k + 1)).toArray⟩) := Lib.hid (by
        rw [HSe.out]
        exact showP_step (line_bytes hA.symm hTx.symm))
      have hSs : S.size ≤ 100000000 := by rw [HSe.out]; show (showP ws k).toArray.size ≤ _; simp; omega
      have z1 : ¬ 9223372036854775807 < A.size + 2 := by omega
      have z2 : ¬ 9223372036854775807 < A.size + 2 + T.size := by omega
      have z3 : ¬ 9223372036854775807 < A.size + 2 + T.size + 1 := by omega
      have z4 : ¬ 9223372036854775807 < S.size + (A.size + 2 + T.size + 1) := by omega
      have HBr := Lib.hid HS.out
      have HSh : Hid (∀ (op a b c d : Int), op = ((ws.getD k 0 : Nat) : Int) % 256 → a = (rF (ws.getD k 0 : Nat)).a → b = (rF (ws.getD k 0 : Nat)).b → c = (rF (ws.getD k 0 : Nat)).c → d = (rF (ws.getD k 0 : Nat)).d → txtW (ws.getD k 0 : Nat) = showV op a b c d → ∀ W, Below w.heap.size w W → Calls Tryd.prog 27 #[.agg #[.int .i64 op, .int .i64 a, .int .i64 b, .int .i64 c, .int .i64 d]] W fun e w' => e = .returned (.string T) ∧ Below W.heap.size W w') := Lib.hid fun op a b c d e1 e2 e3 e4 e5 e6 W hW => by
        rw [← hTx, e6]
        exact refShow_any op a b c d (by omega) (by omega) (by omega) (by omega) (by omega) (by omega) (by omega) (by omega) W (HTP.out W hW).1
      have HT3 : Hid (txtW (ws.getD k 0 : Nat) = [63] → T = ⟨#[63]⟩) := Lib.hid fun h => by rw [← hTx, h]
      rcases word_cases (ws.getD k 0 : Nat) with ⟨op, a, b, c, d, ha, ht, e1, e2, e3, e4, e5⟩ | ⟨ha, ht⟩
      · have HS1 := Lib.hid (HSh.out op a b c d e1 e2 e3 e4 e5 ht)
        rw [ha] at HD
        clear HSh HT3 ha ht e1 e2 e3 e4 e5 hfr hA hTx hit htl hsl HLi HLn HS hlim HSe
        generalize (ws.getD k 0 : Nat) = xk at HD cg
        go_wp2_with fail
        refine HD.out.mono ?_
        rintro e w2 ⟨rfl, hb2⟩
        have hb3 : Below wr.heap.size wr (w2.alloc (.cells #[.int .i64 op, .int .i64 a, .int .i64 b, .int .i64 c, .int .i64 d] 65)) := hb2.alloc hb2.size _
        have HB3 := Lib.hid hb3
        have HS2 := Lib.hid (HS1.out _ (HBr.out.trans (hb3.mono HBr.out.size)))
        clear HD HS1 hb2 hb3 lg cg
        go_wp2_with fail
        refine HS2.out.mono ?_
        rintro e w4 ⟨rfl, hb⟩
        have HB4 := Lib.hid (HB3.out.trans (hb.mono HB3.out.size))
        have HI4 := HIt _ (HBr.out.trans (HB4.out.mono HBr.out.size))
        clear HS2 hb HB3 HIt
        go_wp2_with fail
        refine HI4.out.mono ?_
        rintro e w5 ⟨rfl, hb⟩
        have H6 := Lib.hid (HBr.out.trans ((HB4.out.trans (hb.mono HB4.out.size)).mono HBr.out.size))
        clear hb HI4 HB4
        go_wp2
        go_roundg (gk - 1)
        case measure => omega
        case rel => exact ⟨k + 1, _, by go_num, rfl, by omega, by omega, H6, HS3⟩
      · obtain rfl := HT3.out ht
        rw [ha] at HD
        clear HSh HT3 ha ht hfr hA hTx hit htl hsl HLi HLn HS hlim HSe
        generalize (ws.getD k 0 : Nat) = xk at HD cg
        go_wp2_with fail
        refine HD.out.mono ?_
        rintro e w2 ⟨rfl, hb2⟩
        have hb3 : Below wr.heap.size wr (w2.alloc (.cells #[.int .i64 0, .int .i64 0, .int .i64 0, .int .i64 0, .int .i64 0] 65)) := hb2.alloc hb2.size _
        have HB4 := Lib.hid hb3
        have HI4 := HIt _ (HBr.out.trans (HB4.out.mono HBr.out.size))
        clear HD hb2 hb3 lg cg HIt
        go_wp2_with fail
        refine HI4.out.mono ?_
        rintro e w5 ⟨rfl, hb⟩
        have H6 := Lib.hid (HBr.out.trans ((HB4.out.trans (hb.mono HB4.out.size)).mono HBr.out.size))
        clear hb HI4 HB4
        go_wp2
        go_roundg (gk - 1)
        case measure => omega
        case rel => exact ⟨k + 1, _, by go_num, rfl, by omega, by omega, H6, HS3⟩
    · have hkm : k = m := by omega
      subst hkm
      have HBr := Lib.hid HS.out
      have HF : Hid (Ending.returned (.string S) = .returned (.string ⟨(showP ws k).toArray⟩)) := Lib.hid (by rw [HSe.out])
      clear HS HSe
      go_wp2
      go_ret
      exact ⟨HF.out, HBr.out⟩
end CodeD
end Go.Proofs.YtmebhdffgpnplaaDoor
