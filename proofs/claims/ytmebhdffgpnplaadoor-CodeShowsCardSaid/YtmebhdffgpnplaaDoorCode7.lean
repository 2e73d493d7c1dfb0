/- A function's words as a text: the program's. (Written by mk_code7.py.) -/
import Derived.Test.YtmebhdffgpnplaaDoorCode6
namespace Go.Proofs.YtmebhdffgpnplaaDoor
open Go.RowKit ObjM
namespace CodeD
open InstrM InstrD FlowD

set_option maxRecDepth 100000 in
set_option maxHeartbeats 16000000 in
theorem show_all (p : PrV) (ws : List Nat) (w : World) (hw : WordsAt w p ws) (hl : ws.length ≤ 2000) (hT : Tabs w) (hP : Pow w) : Calls Tryd.prog 9 #[p.agg] w fun e w' => e = .returned (.string ⟨(showP ws ws.length).toArray⟩) ∧ Below w.heap.size w w' := by
  have HSm := Lib.hid hw.small
  have HWo := Lib.hid (fun (W : World) (hW : Below w.heap.size w W) (k : Nat) (hk : k < ws.length) => (hw.below hW).at_ k _ (getD_some hk))
  have HLi : Hid (∀ k, k < ws.length → ws.getD k 0 ≤ 4294967295) := Lib.hid fun k hk => hw.lim _ (List.mem_of_getElem? (getD_some hk))
  have HLn := Lib.hid (fun k hk => showP_len hw.lim k hk)
  have HTP := Lib.hid (fun (W : World) (hW : Below w.heap.size w W) => (⟨hT.below hW, hP.below hW⟩ : Tabs W ∧ Pow W))
  obtain ⟨a0, n0, c0, rg, wa, wn, wk, a3, n3, c3, a4, n4, c4, a5, n5, c5⟩ := p
  obtain rfl : wn = ws.length := hw.len
  obtain ⟨hx, hb⟩ := pr_box w ⟨a0, n0, c0, rg, wa, ws.length, wk, a3, n3, c3, a4, n4, c4, a5, n5, c5⟩
  simp only [PrV.cells] at hx hb
  simp only at HWo
  obtain ⟨m, hm⟩ : ∃ m, ws.length = m := ⟨_, rfl⟩
  have HM := Lib.hid hm
  have x2 := hx.cell 2
  have lx := hx.lt
  simp only [List.getElem?_cons_zero, List.getElem?_cons_succ] at x2
  have HB := Lib.hid hb
  unfold PrV.agg
  simp only
  rw [hm] at hl x2 lx HB HSm HWo HLi ⊢
  clear hx hb hw hT hP hm
  obtain ⟨B, hB⟩ : ∃ B, w.heap.size + 1 = B := ⟨_, rfl⟩
  have hI0 : Lib.IsBuilder 63 5 B B (Lib.byteCells (showP ws 0)) ((w.alloc (.cells #[.slice a0 n0 c0, .int .i64 rg, .slice wa m wk, .slice a3 n3 c3, .slice a4 n4 c4, .slice a5 n5 c5] 38)).alloc (.cells #[.pointer none, .slice none 0 0] 63)) := by
    have h := Has.new (w.alloc (.cells #[.slice a0 n0 c0, .int .i64 rg, .slice wa m wk, .slice a3 n3 c3, .slice a4 n4 c4, .slice a5 n5 c5] 38)) 63 [.pointer none, .slice none 0 0]
    rw [World.size_alloc, hB] at h
    exact .inl ⟨Nat.le_refl _, .slice none 0 0, h, World.ownsRow_nil _ _ _ _, by simp [Value.ownBlock]⟩
  have I0 := Lib.hid hI0
  have HB0 : Hid (Below w.heap.size w ((w.alloc (.cells #[.slice a0 n0 c0, .int .i64 rg, .slice wa m wk, .slice a3 n3 c3, .slice a4 n4 c4, .slice a5 n5 c5] 38)).alloc (.cells #[.pointer none, .slice none 0 0] 63)) ∧ B < ((w.alloc (.cells #[.slice a0 n0 c0, .int .i64 rg, .slice wa m wk, .slice a3 n3 c3, .slice a4 n4 c4, .slice a5 n5 c5] 38)).alloc (.cells #[.pointer none, .slice none 0 0] 63)).heap.size ∧ w.heap.size ≤ B) := Lib.hid ⟨HB.out.alloc HB.out.size _, by rw [← hB]; simp, by omega⟩
  have HBe := Lib.hid hB
  have HwB := HB0.out.2.2
  clear hI0 hB HB
  go_enter Tryd.func9, Tryd.ntmps9
  go_wp2
  rw [HBe.out]
  go_loopg [12] m (fun kk i wr => ∃ k : Nat, i = .int .i64 k ∧ k ≤ m ∧ kk + k = m ∧ Hid (Below w.heap.size w wr ∧ Lib.IsBuilder 63 5 B B (Lib.byteCells (showP ws k)) wr ∧ B < wr.heap.size))
  case atStart => exact ⟨0, rfl, by omega, by omega, Lib.hid ⟨HB0.out.1, I0.out, HB0.out.2.1⟩⟩
  case round =>
    obtain ⟨k, rfl, hk, hkk, HS⟩ := hrel
    clear I0 HB0 x2 lx
    by_cases hlt : k < m
    · have hi1 : (k : Int) < (m : Int) := by omega
      have hi0 : (0 : Int) ≤ (k : Int) := by omega
      have hk5 : k ≤ 1000000 := by omega
      obtain ⟨gg, oo, rfl, lg, cg⟩ := HWo.out wr HS.out.1 k hlt
      have hlim := HLi.out k hlt
      have HNx := Lib.hid (showP_next ws k)
      have hsl := HLn.out k hk5
      have hln := line_len hk5 (x := (ws.getD k 0 : Nat)) (by omega) (by omega)
      have htl := txt_len (x := (ws.getD k 0 : Nat)) (by omega) (by omega)
      have hit := Lib.itoa_length_le (k : Int) (by omega) (by omega)
      have HD := Lib.hid (decodeP (ws.getD k 0 : Nat) (by omega) (by omega) wr (HTP.out _ HS.out.1).1)
      have hfr := rF_range (x := (ws.getD k 0 : Nat)) (by omega) (by omega)
      obtain ⟨A, hA⟩ : ∃ x : ByteArray, (⟨(Lib.itoa (k : Int)).toArray⟩ : ByteArray) = x := ⟨_, rfl⟩
      obtain ⟨T, hTx⟩ : ∃ x : ByteArray, (⟨(txtW (ws.getD k 0 : Nat)).toArray⟩ : ByteArray) = x := ⟨_, rfl⟩
      have HLb := Lib.hid (line_bytes hA.symm hTx.symm)
      have hAs : A.size ≤ 21 := by rw [← hA]; show (Lib.itoa (k : Int)).toArray.size ≤ _; simpa using hit
      have hTs : T.size ≤ 74 := by rw [← hTx]; show (txtW (ws.getD k 0 : Nat)).toArray.size ≤ _; simpa using htl
      have HIt := fun (W : World) (hb : Below w.heap.size w W) => Lib.hid (itoa_any (k : Int) (by omega) (by omega) W (HTP.out W hb).2)
      simp only [hA] at HIt
      have hLs : (A ++ ⟨#[58, 32]⟩ ++ T ++ ⟨#[10]⟩).size ≤ 98 := by
        have h := list_size (A ++ ⟨#[58, 32]⟩ ++ T ++ ⟨#[10]⟩)
        rw [HLb.out] at h
        omega
      have HWS : Hid (∀ W, Below wr.heap.size wr W → Calls Tryd.prog 23 #[.pointer (some ⟨B, 0, none⟩), .string (A ++ ⟨#[58, 32]⟩ ++ T ++ ⟨#[10]⟩)] W fun e w' => e = .returned (.tuple #[.int .i64 (A ++ ⟨#[58, 32]⟩ ++ T ++ ⟨#[10]⟩).size, .nilIface]) ∧ Hid (Below w.heap.size w w' ∧ Lib.IsBuilder 63 5 B B (Lib.byteCells (showP ws (k + 1))) w' ∧ B < w'.heap.size)) := Lib.hid fun W hW => by
        rw [HNx.out]
        exact write_line w wr B _ _ _ HLb.out (by omega) hLs HS.out.1 HS.out.2.1 HS.out.2.2 HwB W hW
      have z1 : ¬ 9223372036854775807 < A.size + 2 := by omega
      have z2 : ¬ 9223372036854775807 < A.size + 2 + T.size := by omega
      have z3 : ¬ 9223372036854775807 < A.size + 2 + T.size + 1 := by omega
      have HBr := Lib.hid HS.out.1
      have HSh : Hid (∀ (op a b c d : Int), op = ((ws.getD k 0 : Nat) : Int) % 256 → a = (rF (ws.getD k 0 : Nat)).a → b = (rF (ws.getD k 0 : Nat)).b → c = (rF (ws.getD k 0 : Nat)).c → d = (rF (ws.getD k 0 : Nat)).d → txtW (ws.getD k 0 : Nat) = showV op a b c d → ∀ W, Below w.heap.size w W → Calls Tryd.prog 22 #[.agg #[.int .i64 op, .int .i64 a, .int .i64 b, .int .i64 c, .int .i64 d]] W fun e w' => e = .returned (.string T) ∧ Below W.heap.size W w') := Lib.hid fun op a b c d e1 e2 e3 e4 e5 e6 W hW => by
        rw [← hTx, e6]
        exact show_any op a b c d (by omega) (by omega) (by omega) (by omega) (by omega) (by omega) (by omega) (by omega) (by omega) (by omega) W (HTP.out W hW).1 (HTP.out W hW).2
      have HT3 : Hid (txtW (ws.getD k 0 : Nat) = [63] → T = ⟨#[63]⟩) := Lib.hid fun h => by rw [← hTx, h]
      rcases word_cases (ws.getD k 0 : Nat) with ⟨op, a, b, c, d, ha, ht, e1, e2, e3, e4, e5⟩ | ⟨ha, ht⟩
      · have HS1 := Lib.hid (HSh.out op a b c d e1 e2 e3 e4 e5 ht)
        rw [ha] at HD
        clear HSh HT3 ha ht e1 e2 e3 e4 e5 hfr hA hTx hit htl hln hsl HLb HNx hLs HLi HLn HS hlim
        generalize (ws.getD k 0 : Nat) = xk at HD cg
        go_wp2_with fail
        refine HD.out.mono ?_
        rintro e w2 ⟨rfl, hb2⟩
        have hb3 : Below wr.heap.size wr (w2.alloc (.cells #[.int .i64 op, .int .i64 a, .int .i64 b, .int .i64 c, .int .i64 d] 65)) := hb2.alloc hb2.size _
        have HB3 := Lib.hid hb3
        have HS2 := Lib.hid (HS1.out _ (HBr.out.trans (hb3.mono HBr.out.size)))
        clear HD HS1 hb2 hb3 lg cg
        go_wp2_with fail
        refine HS2.out.mono ?_
        rintro e w4 ⟨rfl, hb⟩
        have HB4 := Lib.hid (HB3.out.trans (hb.mono HB3.out.size))
        have HI4 := HIt _ (HBr.out.trans (HB4.out.mono HBr.out.size))
        clear HS2 hb HB3 HIt
        go_wp2_with fail
        refine HI4.out.mono ?_
        rintro e w5 ⟨rfl, hb⟩
        have HW5 := Lib.hid (HWS.out _ (HB4.out.trans (hb.mono HB4.out.size)))
        clear hb HI4 HB4 HWS
        go_wp2_with fail
        refine HW5.out.mono ?_
        rintro e w6 ⟨rfl, H6⟩
        clear HW5
        go_wp2
        go_roundg (gk - 1)
        case measure => omega
        case rel => exact ⟨k + 1, by go_num, by omega, by omega, H6⟩
      · obtain rfl := HT3.out ht
        rw [ha] at HD
        clear HSh HT3 ha ht hfr hA hTx hit htl hln hsl HLb HNx hLs HLi HLn HS hlim
        generalize (ws.getD k 0 : Nat) = xk at HD cg
        go_wp2_with fail
        refine HD.out.mono ?_
        rintro e w2 ⟨rfl, hb2⟩
        have hb3 : Below wr.heap.size wr (w2.alloc (.cells #[.int .i64 0, .int .i64 0, .int .i64 0, .int .i64 0, .int .i64 0] 65)) := hb2.alloc hb2.size _
        have HB4 := Lib.hid hb3
        have HI4 := HIt _ (HBr.out.trans (HB4.out.mono HBr.out.size))
        clear HD hb2 hb3 lg cg HIt
        go_wp2_with fail
        refine HI4.out.mono ?_
        rintro e w5 ⟨rfl, hb⟩
        have HW5 := Lib.hid (HWS.out _ (HB4.out.trans (hb.mono HB4.out.size)))
        clear hb HI4 HB4 HWS
        go_wp2_with fail
        refine HW5.out.mono ?_
        rintro e w6 ⟨rfl, H6⟩
        clear HW5
        go_wp2
        go_roundg (gk - 1)
        case measure => omega
        case rel => exact ⟨k + 1, by go_num, by omega, by omega, H6⟩
    · have hkm : k = m := by omega
      subst hkm
      have hlt2 : ¬ (k : Int) < (k : Int) := by omega
      have HSt := Lib.hid (Tryd.Builder_String_any B B (showP ws k) wr HS.out.2.1 (Nat.le_of_lt HS.out.2.2))
      have HBr := Lib.hid HS.out.1
      clear HS
      go_wp2_with fail
      refine HSt.out.mono ?_
      rintro e w5 ⟨rfl, hb5⟩
      go_wp2
      go_ret
      exact ⟨rfl, HBr.out.trans (hb5.mono HwB)⟩
end CodeD
end Go.Proofs.YtmebhdffgpnplaaDoor
