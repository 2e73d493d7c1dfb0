/- (XInstrShow without its law.) The contracts of Show and of the document's own, and the law InstrShows. -/
import Derived.Test.YtmebhdffgpnplaaDoorInstrDec2
import Derived.Test.YtmebhdffgpnplaaDoorShelf
import Derived.Lib.ItoaLen
import Derived.Deep.RegionHeld3
namespace Go.Proofs.YtmebhdffgpnplaaDoor
open Go.RowKit
namespace InstrM
/-- An instruction's fields as a text. -/
def fieldsT (a b c d : Int) : List UInt8 → List UInt8
  | [] => []
  | l :: r => 32 :: Lib.itoa (fld a b c d l.toNat) ++ fieldsT a b c d r
def showV (op a b c d : Int) : List UInt8 := if (wordV op a b c d).2 = 0 then nameOf op ++ fieldsT a b c d (formOf op) else [63]
theorem nameL_len (k : Nat) : (nameL k).length ≤ 8 := by
  by_cases h : k < 63
  · exact (show ∀ k < 63, (nameL k).length ≤ 8 by decide +kernel) k h
  · rw [nameL_big (by omega)]
    exact Nat.zero_le _
theorem name_len (op : Int) : (nameOf op).length ≤ 8 := by
  unfold nameOf
  split
  · exact nameL_len _
  · exact Nat.zero_le _
end InstrM
namespace InstrD
open InstrM
theorem ret_str {x y : List UInt8} (h : x = y) : Ending.returned (.string ⟨x.toArray⟩) = .returned (.string ⟨y.toArray⟩) := by rw [h]
theorem cat_eq (a b : List UInt8) : (⟨a.toArray⟩ : ByteArray) ++ ⟨b.toArray⟩ = ⟨(a ++ b).toArray⟩ := by
  apply ByteArray.ext
  rw [ByteArray.data_append]
  simp
theorem TabIs_below {P : Program} {n : String} {g : Nat} {k : IntKind} {zs : List Int} {w w' : World} (hg : P.globalNamed n = some g) (h : Lib.TabIs P w n k zs) (hb : Below w.heap.size w w') : Lib.TabIs P w' n k zs := by
  unfold Lib.TabIs World.var? at h ⊢
  rw [hg] at h ⊢
  simp only [Option.bind_some] at h ⊢
  have hlt : g < w.heap.size := by
    rcases Nat.lt_or_ge g w.heap.size with h' | h'
    · exact h'
    · rw [Array.getElem?_eq_none h'] at h
      cases h
  rw [hb.block g hlt]
  exact h
theorem below_grow (w : World) (k : Nat) (os : Array Obj) : Below w.heap.size w (Go.Sort.grow (w.drewN k) os) :=
  ⟨rfl, rfl, rfl, by show w.heap.size ≤ (w.heap ++ os).size; rw [Array.size_append]; omega, fun j hj => by show (w.heap ++ os)[j]? = _; rw [Array.getElem?_append_left hj]⟩
abbrev Pow (w : World) : Prop := Lib.TabIs Tryd.prog w "internal/strconv.uint64pow10" .u64 Lib.pow10Tab
theorem gPow : Tryd.prog.globalNamed "internal/strconv.uint64pow10" = some 2 := by kernel_rfl
theorem Pow.below {w w' : World} (h : Pow w) (hb : Below w.heap.size w w') : Pow w' := TabIs_below gPow h hb
theorem itoa_any (n : Int) (h0 : -9223372036854775808 ≤ n) (h1 : n ≤ 9223372036854775807) (w : World) (hP : Pow w) :
    Calls Tryd.prog 24 #[.int .i64 n] w fun e w' => e = .returned (.string ⟨(Lib.itoa n).toArray⟩) ∧ Below w.heap.size w w' := by
  refine (Tryd.strconv_Itoa n h0 h1 w hP).mono ?_
  rintro e w' ⟨he, k, os, rfl⟩
  exact ⟨he, below_grow w k os⟩

set_option maxHeartbeats 1000000 in
set_option maxRecDepth 100000 in
theorem show_any (op a b c d : Int) (o0 : -9223372036854775808 ≤ op) (o1 : op ≤ 9223372036854775807) (a0 : -9223372036854775808 ≤ a) (a1 : a ≤ 9223372036854775807) (b0 : -9223372036854775808 ≤ b) (b1 : b ≤ 9223372036854775807)
    (c0 : -9223372036854775808 ≤ c) (c1 : c ≤ 9223372036854775807) (d0 : -9223372036854775808 ≤ d) (d1 : d ≤ 9223372036854775807) (w : World) (hT : Tabs w) (hP : Pow w) :
    Calls Tryd.prog 22 #[.agg #[.int .i64 op, .int .i64 a, .int .i64 b, .int .i64 c, .int .i64 d]] w fun e w' => e = .returned (.string ⟨(showV op a b c d).toArray⟩) ∧ Below w.heap.size w w' := by
  have hfl : ∀ l : Int, -9223372036854775808 ≤ fld a b c d l ∧ fld a b c d l ≤ 9223372036854775807 := by
    intro l
    unfold fld
    (repeat' split) <;> omega
  obtain ⟨L, hL⟩ : ∃ L, formOf op = L := ⟨_, rfl⟩
  have hlet := letters_of op
  have HF := fun W h => Lib.hid (form_any op o0 o1 W h)
  have HN := fun W h => Lib.hid (name_any op o0 o1 W h)
  have HE := fun W h => Lib.hid (encode_all op a b c d o0 o1 W h)
  have hnl := name_len op
  have h3 := form_len op
  rw [hL] at HF hlet h3
  obtain ⟨N, hN⟩ : ∃ N, nameOf op = N := ⟨_, rfl⟩
  rw [hN] at HN hnl
  rcases word_err op a b c d with hv | hv
  · have hs : showV op a b c d = N ++ fieldsT a b c d L := by unfold showV; rw [if_pos hv, hN, hL]
    obtain ⟨x, hx⟩ : ∃ x, wordV op a b c d = (x, 0) := ⟨(wordV op a b c d).1, Prod.ext rfl hv⟩
    rw [hx] at HE
    have HS := Lib.hid hs
    have HT := Lib.hid hT
    have HP := Lib.hid hP
    have Hlet := Lib.hid hlet
    have Hfl := Lib.hid hfl
    clear hs hx hv hL hN hT hP o0 o1 a0 a1 b0 b1 c0 c1 d0 d1 hlet hfl
    go_enter Tryd.func22, Tryd.ntmps22
    go_wp2_with fail
    refine ((HE _ (HT.out.below ((Below.refl _ _).alloc (Nat.le_refl _) _))).out).mono ?_
    rintro e w1 ⟨rfl, hb⟩
    have hbw : Below w.heap.size w w1 := ((Below.refl _ _).alloc (Nat.le_refl _) _).trans (hb.mono (by simp))
    have z1 : w.heap.size < w1.heap.size := by have := hb.size; simp only [World.size_alloc] at this; omega
    have hA := (hb.block w.heap.size (by simp)).trans (alloc_new w _)
    obtain ⟨d0, d1, d2, d3, d4, _⟩ := ins_at hA
    have HT1 := Lib.hid (HT.out.below hbw)
    go_wp2_with fail
    refine ((HN _ HT1.out).out).mono ?_
    rintro e w2 ⟨rfl, hb2⟩
    have z2 := hb2.size
    have hA2 := (hb2.block w.heap.size z1).trans hA
    have hb3 := hbw.trans (hb2.mono hbw.size)
    have HT2 := Lib.hid (HT1.out.below hb2)
    clear d0 d1 d2 d3 d4
    obtain ⟨d0, d1, d2, d3, d4, _⟩ := ins_at hA2
    go_wp2_with fail
    refine ((HF _ HT2.out).out).mono ?_
    rintro e w3 ⟨rfl, hb4⟩
    have z3 := hb4.size
    have hA3 := (hb4.block w.heap.size (by omega)).trans hA2
    have hb5 := hb3.trans (hb4.mono hb3.size)
    clear d0 d1 d2 d3 d4
    go_wp2_with fail
    go_loopw [5] (fun sv wr => ∃ (pos : Nat) (acc : List UInt8), sv = .string ⟨acc.toArray⟩ ∧ pos ≤ L.length ∧ acc.length ≤ 8 + 23 * pos ∧ wr.heap[w.heap.size]? = some (.cells #[.int .i64 op, .int .i64 a, .int .i64 b, .int .i64 c, .int .i64 d] 65 (0, 0)) ∧ wr.heap[w3.heap.size]? = some (.stringIter ⟨L.toArray⟩ pos) ∧ Below w.heap.size w wr ∧ Hid (showV op a b c d = acc ++ fieldsT a b c d (L.drop pos))) (fun _ wr => L.length - wr.iterPos w3.heap.size)
    case atStart =>
      exact ⟨0, N, rfl, by omega, by omega, (Below.heap_alloc _ _ _ (by omega)).trans hA3, World.iter_heap w3 ⟨L.toArray⟩ 0, hb5.alloc (by omega) _, HS⟩
    case round =>
      obtain ⟨pos, acc, rfl, hpos, hacc, hAr, hit, hbr, HD⟩ := hrel
      have hsz : w3.heap.size < wr.heap.size := (Array.getElem?_eq_some_iff.1 hit).1
      by_cases hp : pos < L.length
      · have hp2 : pos < (⟨L.toArray⟩ : ByteArray).size := by show pos < L.toArray.size; rw [List.size_toArray]; exact hp
        obtain ⟨l, hl0, hl1, hst, hnx⟩ : ∃ l : Int, 65 ≤ l ∧ l ≤ 68 ∧ Hid (showV op a b c d = (acc ++ ([32] ++ Lib.itoa (fld a b c d l))) ++ fieldsT a b c d (L.drop (pos + 1))) ∧
            ∀ ty, (Instr.next (.pointer (some ⟨w3.heap.size, 0, none⟩)) true ty).run Tryd.prog wr = .ok (.tuple #[.bool true, .int .i64 pos, .int .i32 l]) (wr.iterAt w3.heap.size ⟨L.toArray⟩ (pos + 1)) := by
          have hm := Hlet.out _ (List.getElem_mem hp)
          refine ⟨(L[pos].toNat : Int), by omega, by omega, ?_, fun ty => Lib.run_next_ascii_at wr w3.heap.size ⟨L.toArray⟩ pos ty hit hp2 (show (L.toArray[pos]).toNat < 128 by simp only [List.getElem_toArray]; omega)⟩
          have h := HD.out
          rw [drop_cons hp, fieldsT] at h
          show showV op a b c d = _
          rw [h]
          simp [List.append_assoc]
        have hA5 := (Lib.iterAt_other wr w3.heap.size w.heap.size ⟨L.toArray⟩ (pos + 1) (by omega)).trans hAr
        have hit5 := Lib.iterAt_heap wr w3.heap.size ⟨L.toArray⟩ pos (pos + 1) hit
        have hb6 : Below w.heap.size w (wr.iterAt w3.heap.size ⟨L.toArray⟩ (pos + 1)) := Lib.below_iterAt hbr (by omega) _ _
        have hsz2 : (wr.iterAt w3.heap.size ⟨L.toArray⟩ (pos + 1)).heap.size = wr.heap.size := Lib.iterAt_size _ _ _ _
        have Hsz2 := Lib.hid hsz2
        clear hsz2
        obtain ⟨n, hn⟩ : ∃ n, fld a b c d l = n := ⟨_, rfl⟩
        have FI := fun W => Lib.hid (field_any op a b c d l W)
        have hnb := Hfl.out l
        rw [hn] at FI hst hnb
        have hil := Lib.itoa_length_le n hnb.1 hnb.2
        clear hn
        obtain ⟨d0, d1, d2, d3, d4, _⟩ := ins_at hA5
        have hs1 : (⟨acc.toArray⟩ : ByteArray).size ≤ 1000 := by show acc.toArray.size ≤ 1000; rw [List.size_toArray]; omega
        have hs2 : (⟨(Lib.itoa n).toArray⟩ : ByteArray).size ≤ 21 := by show (Lib.itoa n).toArray.size ≤ 21; rw [List.size_toArray]; exact hil
        go_wp2_with fail
        refine ((FI _).out).mono ?_
        rintro e w5 ⟨rfl, hb7⟩
        have hb8 : Below w.heap.size w w5 := hb6.trans (hb7.mono (by rw [Hsz2.out]; omega))
        have HP5 := Lib.hid (HP.out.below hb8)
        go_wp2_with fail
        refine (itoa_any n hnb.1 hnb.2 _ HP5.out).mono ?_
        rintro e w6 ⟨rfl, hb9⟩
        go_wp2
        rw [cat_eq, cat_eq]
        have hA6 := (hb9.block w.heap.size (by have := hb7.size; rw [Hsz2.out] at this; omega)).trans ((hb7.block w.heap.size (by rw [Hsz2.out]; omega)).trans hA5)
        have hit6 := (hb9.block w3.heap.size (by have := hb7.size; rw [Hsz2.out] at this; omega)).trans ((hb7.block w3.heap.size (by rw [Hsz2.out]; omega)).trans hit5)
        go_roundw
        case rel => exact ⟨pos + 1, acc ++ ([32] ++ Lib.itoa n), rfl, by omega, by simp only [List.length_append, List.length_cons, List.length_nil]; omega, hA6, hit6, hb8.trans (hb9.mono hb8.size), hst⟩
        case measure =>
          rw [iterPos_of hit, iterPos_of hit6]
          omega
      · have hp2 : ¬pos < (⟨L.toArray⟩ : ByteArray).size := by show ¬pos < L.toArray.size; rw [List.size_toArray]; exact hp
        have hnx : ∀ ty, (Instr.next (.pointer (some ⟨w3.heap.size, 0, none⟩)) true ty).run Tryd.prog wr = _ := fun ty => Lib.run_next_end_at wr w3.heap.size ⟨L.toArray⟩ pos ty hit hp2
        have hK := HD.out
        rw [List.drop_eq_nil_of_le (by omega), fieldsT, List.append_nil] at hK
        have HK := Lib.hid hK
        clear hK
        go_wp2
        go_ret
        exact ⟨ret_str HK.out.symm, hbr⟩
  · obtain ⟨x, hx⟩ : ∃ x, wordV op a b c d = (x, 1) := ⟨(wordV op a b c d).1, Prod.ext rfl hv⟩
    have hs : showV op a b c d = [63] := by unfold showV; rw [if_neg (by rw [hv]; omega)]
    rw [hx] at HE
    have HS := Lib.hid hs
    have HT := Lib.hid hT
    clear hs hx hv hL hN hT hP o0 o1 a0 a1 b0 b1 c0 c1 d0 d1 hlet hfl HN HF
    go_enter Tryd.func22, Tryd.ntmps22
    go_wp2_with fail
    refine ((HE _ (HT.out.below ((Below.refl _ _).alloc (Nat.le_refl _) _))).out).mono ?_
    rintro e w1 ⟨rfl, hb⟩
    have hbw : Below w.heap.size w w1 := ((Below.refl _ _).alloc (Nat.le_refl _) _).trans (hb.mono (by simp))
    go_wp2
    go_ret
    exact ⟨ret_str HS.out.symm, hbw⟩

set_option maxHeartbeats 1000000 in
set_option maxRecDepth 100000 in
theorem refShow_any (op a b c d : Int) (a0 : -9223372036854775808 ≤ a) (a1 : a ≤ 9223372036854775807) (b0 : -9223372036854775808 ≤ b) (b1 : b ≤ 9223372036854775807)
    (c0 : -9223372036854775808 ≤ c) (c1 : c ≤ 9223372036854775807) (d0 : -9223372036854775808 ≤ d) (d1 : d ≤ 9223372036854775807) (w : World) (hP : Pow w) :
    Calls Tryd.prog 27 #[.agg #[.int .i64 op, .int .i64 a, .int .i64 b, .int .i64 c, .int .i64 d]] w fun e w' => e = .returned (.string ⟨(showV op a b c d).toArray⟩) ∧ Below w.heap.size w w' := by
  have hfl : ∀ l : Int, -9223372036854775808 ≤ fld a b c d l ∧ fld a b c d l ≤ 9223372036854775807 := by
    intro l
    unfold fld
    (repeat' split) <;> omega
  obtain ⟨L, hL⟩ : ∃ L, formOf op = L := ⟨_, rfl⟩
  have hlet := letters_of op
  have HR := fun W => Lib.hid (row_any op W)
  have HE := fun W => Lib.hid (refEncode_any op a b c d W)
  have hnl := name_len op
  have h3 := form_len op
  rw [hL] at HR hlet h3
  obtain ⟨N, hN⟩ : ∃ N, nameOf op = N := ⟨_, rfl⟩
  rw [hN] at HR hnl
  rcases word_err op a b c d with hv | hv
  · have hs : showV op a b c d = N ++ fieldsT a b c d L := by unfold showV; rw [if_pos hv, hN, hL]
    obtain ⟨x, hx⟩ : ∃ x, wordV op a b c d = (x, 0) := ⟨(wordV op a b c d).1, Prod.ext rfl hv⟩
    rw [hx] at HE
    have HS := Lib.hid hs
    have HP := Lib.hid hP
    have Hlet := Lib.hid hlet
    have Hfl := Lib.hid hfl
    obtain ⟨S, hS⟩ : ∃ S, (⟨L.toArray⟩ : ByteArray) = S := ⟨_, rfl⟩
    rw [hS] at HR
    have hS2 : S.size = L.length := by rw [← hS]; show L.toArray.size = _; rw [List.size_toArray]
    have hS4 : S.size ≤ 4 := by omega
    have HSS := Lib.hid (And.intro hS hS2)
    clear hS hS2
    clear hs hx hv hL hN hP a0 a1 b0 b1 c0 c1 d0 d1 hlet hfl
    go_enter Tryd.func27, Tryd.ntmps27
    go_wp2_with fail
    refine ((HE _).out).mono ?_
    rintro e w1 ⟨rfl, hb⟩
    have hbw : Below w.heap.size w w1 := ((Below.refl _ _).alloc (Nat.le_refl _) _).trans (hb.mono (by simp))
    have z1 : w.heap.size < w1.heap.size := by have := hb.size; simp only [World.size_alloc] at this; omega
    have hA := (hb.block w.heap.size (by simp)).trans (alloc_new w _)
    obtain ⟨d0, d1, d2, d3, d4, _⟩ := ins_at hA
    go_wp2_with fail
    refine ((HR _).out).mono ?_
    rintro e w2 ⟨rfl, hb2⟩
    have z2 := hb2.size
    have hA2 := (hb2.block w.heap.size z1).trans hA
    have hb3 := hbw.trans (hb2.mono hbw.size)
    clear d0 d1 d2 d3 d4
    go_wp2_with fail
    go_loopw [5, 7] (fun sv kv wr => ∃ (pos : Nat) (acc : List UInt8), kv = .int .i64 pos ∧ sv = .string ⟨acc.toArray⟩ ∧ pos ≤ L.length ∧ acc.length ≤ 8 + 23 * pos ∧ wr.heap[w.heap.size]? = some (.cells #[.int .i64 op, .int .i64 a, .int .i64 b, .int .i64 c, .int .i64 d] 65 (0, 0)) ∧ Below w.heap.size w wr ∧ Hid (showV op a b c d = acc ++ fieldsT a b c d (L.drop pos))) (fun _ kv _ => L.length - (intOf kv).toNat)
    case atStart =>
      exact ⟨0, N, rfl, rfl, by omega, by omega, hA2, hb3, HS⟩
    case round =>
      obtain ⟨pos, acc, rfl, rfl, hpos, hacc, hAr, hbr, HD⟩ := hrel
      obtain ⟨d0, d1, d2, d3, d4, _⟩ := ins_at hAr
      have hpS : pos ≤ S.size := by rw [HSS.out.2]; exact hpos
      by_cases hp : pos < L.length
      · have hp2 : pos < S.size := by rw [HSS.out.2]; exact hp
        have hm := Hlet.out _ (List.getElem_mem hp)
        obtain ⟨l, hl⟩ : ∃ l : Int, (L[pos].toNat : Int) = l := ⟨_, rfl⟩
        have h := HD.out
        rw [drop_cons hp, fieldsT, hl] at h
        have hst : showV op a b c d = (acc ++ ([32] ++ Lib.itoa (fld a b c d l))) ++ fieldsT a b c d (L.drop (pos + 1)) := by
          rw [h]
          simp [List.append_assoc]
        have Hst := Lib.hid hst
        have hSl : (S[pos].toNat : Int) = l := by
          rw [← hl]
          have h1 := HSS.out.1
          subst h1
          show ((L.toArray[pos]).toNat : Int) = _
          simp only [List.getElem_toArray]
        have hnb := Hfl.out l
        have hil := Lib.itoa_length_le _ hnb.1 hnb.2
        have HP5 := Lib.hid (HP.out.below hbr)
        have hs1 : (⟨acc.toArray⟩ : ByteArray).size ≤ 1000 := by show acc.toArray.size ≤ 1000; rw [List.size_toArray]; omega
        have hz := hbr.size
        have z9 : w.heap.size < wr.heap.size := (Array.getElem?_eq_some_iff.1 hAr).1
        have hs2 : ∀ n : Int, (Lib.itoa n).length ≤ 21 → (⟨(Lib.itoa n).toArray⟩ : ByteArray).size ≤ 21 := fun n h => by show (Lib.itoa n).toArray.size ≤ 21; rw [List.size_toArray]; exact h
        have hs3 := hs2 _ hil
        have hc : 65 = l ∨ 66 = l ∨ 67 = l ∨ 68 = l := by omega
        clear h hst hl hs2
        rcases hc with he | he | he | he
        · have e1 : fld a b c d l = a := by rw [← he]; rfl
          rw [e1] at hnb hil Hst hs3
          have t65 : ((S[pos].toNat : Int) == 65) = true := by rw [hSl, ← he]; rfl
          clear he e1 hSl
          go_wp2_with fail
          refine (itoa_any a hnb.1 hnb.2 _ HP5.out).mono ?_
          rintro e w6 ⟨rfl, hb9⟩
          go_wp2
          rw [cat_eq, cat_eq]
          have hA6 := (hb9.block w.heap.size (by omega)).trans hAr
          go_roundw
          case rel => exact ⟨pos + 1, acc ++ ([32] ++ Lib.itoa a), by go_num, rfl, by omega, by simp only [List.length_append, List.length_cons, List.length_nil]; omega, hA6, hbr.trans (hb9.mono hbr.size), Hst⟩
          case measure => simp [intOf]; omega
        · have e1 : fld a b c d l = b := by rw [← he]; rfl
          rw [e1] at hnb hil Hst hs3
          have t65 : ((S[pos].toNat : Int) == 65) = false := by rw [hSl, ← he]; rfl
          have t66 : ((S[pos].toNat : Int) == 66) = true := by rw [hSl, ← he]; rfl
          clear he e1 hSl
          go_wp2_with fail
          refine (itoa_any b hnb.1 hnb.2 _ HP5.out).mono ?_
          rintro e w6 ⟨rfl, hb9⟩
          go_wp2
          rw [cat_eq, cat_eq]
          have hA6 := (hb9.block w.heap.size (by omega)).trans hAr
          go_roundw
          case rel => exact ⟨pos + 1, acc ++ ([32] ++ Lib.itoa b), by go_num, rfl, by omega, by simp only [List.length_append, List.length_cons, List.length_nil]; omega, hA6, hbr.trans (hb9.mono hbr.size), Hst⟩
          case measure => simp [intOf]; omega
        · have e1 : fld a b c d l = c := by rw [← he]; rfl
          rw [e1] at hnb hil Hst hs3
          have t65 : ((S[pos].toNat : Int) == 65) = false := by rw [hSl, ← he]; rfl
          have t66 : ((S[pos].toNat : Int) == 66) = false := by rw [hSl, ← he]; rfl
          have t67 : ((S[pos].toNat : Int) == 67) = true := by rw [hSl, ← he]; rfl
          clear he e1 hSl
          go_wp2_with fail
          refine (itoa_any c hnb.1 hnb.2 _ HP5.out).mono ?_
          rintro e w6 ⟨rfl, hb9⟩
          go_wp2
          rw [cat_eq, cat_eq]
          have hA6 := (hb9.block w.heap.size (by omega)).trans hAr
          go_roundw
          case rel => exact ⟨pos + 1, acc ++ ([32] ++ Lib.itoa c), by go_num, rfl, by omega, by simp only [List.length_append, List.length_cons, List.length_nil]; omega, hA6, hbr.trans (hb9.mono hbr.size), Hst⟩
          case measure => simp [intOf]; omega
        · have e1 : fld a b c d l = d := by rw [← he]; rfl
          rw [e1] at hnb hil Hst hs3
          have t65 : ((S[pos].toNat : Int) == 65) = false := by rw [hSl, ← he]; rfl
          have t66 : ((S[pos].toNat : Int) == 66) = false := by rw [hSl, ← he]; rfl
          have t67 : ((S[pos].toNat : Int) == 67) = false := by rw [hSl, ← he]; rfl
          clear he e1 hSl
          go_wp2_with fail
          refine (itoa_any d hnb.1 hnb.2 _ HP5.out).mono ?_
          rintro e w6 ⟨rfl, hb9⟩
          go_wp2
          rw [cat_eq, cat_eq]
          have hA6 := (hb9.block w.heap.size (by omega)).trans hAr
          go_roundw
          case rel => exact ⟨pos + 1, acc ++ ([32] ++ Lib.itoa d), by go_num, rfl, by omega, by simp only [List.length_append, List.length_cons, List.length_nil]; omega, hA6, hbr.trans (hb9.mono hbr.size), Hst⟩
          case measure => simp [intOf]; omega
      · have hp2 : ¬pos < S.size := by rw [HSS.out.2]; exact hp
        have hK := HD.out
        rw [List.drop_eq_nil_of_le (by omega), fieldsT, List.append_nil] at hK
        have HK := Lib.hid hK
        clear hK
        go_wp2
        go_ret
        exact ⟨ret_str HK.out.symm, hbr⟩
  · obtain ⟨x, hx⟩ : ∃ x, wordV op a b c d = (x, 1) := ⟨(wordV op a b c d).1, Prod.ext rfl hv⟩
    have hs : showV op a b c d = [63] := by unfold showV; rw [if_neg (by rw [hv]; omega)]
    rw [hx] at HE
    have HS := Lib.hid hs
    clear hs hx hv hL hN hP a0 a1 b0 b1 c0 c1 d0 d1 hlet hfl HR
    go_enter Tryd.func27, Tryd.ntmps27
    go_wp2_with fail
    refine ((HE _).out).mono ?_
    rintro e w1 ⟨rfl, hb⟩
    have hbw : Below w.heap.size w w1 := ((Below.refl _ _).alloc (Nat.le_refl _) _).trans (hb.mono (by simp))
    go_wp2
    go_ret
    exact ⟨ret_str HS.out.symm, hbw⟩

theorem cellsTab : Tryd.prog.cellsOf 148 = 20 := by kernel_rfl
theorem cellsU64 : Tryd.prog.cellsOf 25 = 1 := by kernel_rfl
theorem gPowType : (Tryd.prog.globals[2]?).map (·.type) = some 148 := by kernel_rfl
end InstrD
end Go.Proofs.YtmebhdffgpnplaaDoor
