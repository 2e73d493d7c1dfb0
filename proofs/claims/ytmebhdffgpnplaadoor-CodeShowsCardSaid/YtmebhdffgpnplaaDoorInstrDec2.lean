/- The contracts of Encode and Decode, whole. -/
import Derived.Test.YtmebhdffgpnplaaDoorInstrDec
namespace Go.Proofs.YtmebhdffgpnplaaDoor
open Go.RowKit
namespace InstrD
open InstrM

set_option maxHeartbeats 400000 in
theorem encode_none (op a b c d : Int) (o0 : -9223372036854775808 ≤ op) (o1 : op ≤ 9223372036854775807) (w : World) (hT : Tabs w) (hne : formOf op = []) :
    Calls Tryd.prog 49 #[.agg #[.int .i64 op, .int .i64 a, .int .i64 b, .int .i64 c, .int .i64 d]] w fun e w' => e = .returned (.tuple #[.int .u32 0, .int .i64 1]) ∧ Below w.heap.size w w' := by
  have HF := fun W h => Lib.hid (form_any op o0 o1 W h)
  rw [hne] at HF
  have HT := Lib.hid hT
  clear hT hne o0 o1
  go_enter Tryd.func49, Tryd.ntmps49
  go_wp2_with fail
  refine ((HF _ (HT.out.below ((Below.refl _ _).alloc (Nat.le_refl _) _))).out).mono ?_
  rintro e w1 ⟨rfl, hb⟩
  have hbw : Below w.heap.size w w1 := ((Below.refl _ _).alloc (Nat.le_refl _) _).trans (hb.mono (by simp))
  go_wp2
  go_ret2
  exact ⟨rfl, hbw⟩
theorem encode_all (op a b c d : Int) (o0 : -9223372036854775808 ≤ op) (o1 : op ≤ 9223372036854775807) (w : World) (hT : Tabs w) :
    Calls Tryd.prog 49 #[.agg #[.int .i64 op, .int .i64 a, .int .i64 b, .int .i64 c, .int .i64 d]] w fun e w' => e = .returned (.tuple #[.int .u32 (wordV op a b c d).1, .int .i64 (wordV op a b c d).2]) ∧ Below w.heap.size w w' := by
  cases hne : (formOf op).isEmpty
  · rw [← encV_eq]
    exact encode_any op a b c d o0 o1 w hT hne
  · have h1 := List.isEmpty_iff.1 hne
    have h2 : wordV op a b c d = (0, 1) := by
      rw [← encV_eq]
      unfold encV
      rw [if_pos h1]
    rw [h2]
    exact encode_none op a b c d o0 o1 w hT h1

theorem and_255 (x : Int) (h0 : 0 ≤ x) (h1 : x ≤ 4294967295) : bits .and .u32 x 255 = x % 256 := by
  have e1 : (BitVec.ofInt 32 x).toNat = x.toNat := by
    rw [BitVec.toNat_ofInt]
    omega
  have e2 : (BitVec.ofInt 32 (255 : Int)).toNat = 2 ^ 8 - 1 := rfl
  show IntKind.u32.wrap ((BitVec.ofInt 32 x &&& BitVec.ofInt 32 255).toNat : Int) = _
  rw [BitVec.toNat_and, e1, e2, Nat.and_two_pow_sub_one_eq_mod, IntKind.wrap_u32]
  omega
theorem drop_step {w : Int} {L : List UInt8} {pos : Nat} {ka kb kc kd : Int} {K : Four} (h : pos < L.length) (H : decF w (L.drop pos) ka kb kc kd = K) {l : Int} (hl : (L[pos].toNat : Int) = l) :
    decF w (L.drop (pos + 1)) (if l = 65 then numW w l else ka) (if l = 66 then numW w l else kb) (if l = 67 then numW w l else kc) (if l = 65 ∨ l = 66 ∨ l = 67 then kd else numW w l) = K := by
  subst hl
  rw [← H, drop_cons h, decF]

set_option maxHeartbeats 4000000 in
set_option maxRecDepth 100000 in
theorem decode_any (w0 : Int) (h0 : 0 ≤ w0) (h1 : w0 ≤ 4294967295) (w : World) (hT : Tabs w) :
    Calls Tryd.prog 21 #[.int .u32 w0] w fun e w' => e = .returned (answer w0 (kF w0) (wOf w0 (kF w0))) ∧ Below w.heap.size w w' := by
  have hq0 : 0 ≤ w0 % 256 := by omega
  have hq1 : w0 % 256 ≤ 255 := by omega
  obtain ⟨L, hL⟩ : ∃ L, formOf (w0 % 256) = L := ⟨_, rfl⟩
  have hlet := letters_of (w0 % 256)
  have HF := fun W h => Lib.hid (form_any (w0 % 256) (by omega) (by omega) W h)
  rw [hL] at HF hlet
  obtain ⟨K, hK⟩ : ∃ K, kF w0 = K := ⟨_, rfl⟩
  have hK2 : decF w0 L 0 0 0 0 = K := by rw [← hK, kF, hL]
  have hE := word_err (w0 % 256) K.a K.b K.c K.d
  have HE := fun W h => Lib.hid (encode_all (w0 % 256) K.a K.b K.c K.d (by omega) (by omega) W h)
  obtain ⟨E, hE2⟩ : ∃ E, wordV (w0 % 256) K.a K.b K.c K.d = E := ⟨_, rfl⟩
  have hans : answer w0 (kF w0) (wOf w0 (kF w0)) = answer w0 K E := by rw [hK]; unfold wOf; rw [hE2]
  rw [hE2] at hE HE
  rw [hans]
  clear hE2 hans
  obtain ⟨x, y⟩ := E
  obtain ⟨r, hr⟩ : ∃ r, answer w0 K (x, y) = r := ⟨_, rfl⟩
  rw [hr]
  obtain ⟨qa, qb, qc, qd⟩ := K
  have S16 := Lib.hid (s16_eq (w0 / 65536))
  have HK := Lib.hid hK2
  have Hr := Lib.hid hr
  have Hlet := Lib.hid hlet
  have HT := Lib.hid hT
  clear hr hL hK hK2 hlet hT
  have h255 := and_255 w0 h0 h1
  go_enter Tryd.func21, Tryd.ntmps21
  go_wp2_with fail
  refine ((HF _ (HT.out.below (((Below.refl _ _).alloc (Nat.le_refl _) _).alloc (by simp) _))).out).mono ?_
  rintro e w1 ⟨rfl, hb⟩
  have hR : w1.heap[w.heap.size]? = some (.cells #[.int .i64 0, .int .i64 0, .int .i64 0, .int .i64 0, .int .i64 0] 65 (0, 0)) :=
    (hb.block _ (by simp only [World.size_alloc]; omega)).trans ((Below.heap_alloc _ _ _ (by simp only [World.size_alloc]; omega)).trans (alloc_new w _))
  have hA : InsAt w1 (w.heap.size + 1) (w0 % 256) 0 0 0 0 :=
    (hb.block _ (by simp only [World.size_alloc]; omega)).trans (alloc_at _ _ _ (by simp only [World.size_alloc]))
  have hbw : Below w.heap.size w w1 := (((Below.refl _ _).alloc (Nat.le_refl _) _).alloc (by simp) _).trans (hb.mono (by simp only [World.size_alloc]; omega))
  have z1 : w.heap.size + 1 < w1.heap.size := by have := hb.size; simp only [World.size_alloc] at this; omega
  go_wp2_with fail
  go_loopw [] (fun wr => ∃ (pos : Nat) (ka kb kc kd : Int), pos ≤ L.length ∧ wr.heap[w.heap.size]? = some (.cells #[.int .i64 0, .int .i64 0, .int .i64 0, .int .i64 0, .int .i64 0] 65 (0, 0)) ∧ InsAt wr (w.heap.size + 1) (w0 % 256) ka kb kc kd ∧ wr.heap[w1.heap.size]? = some (.stringIter ⟨L.toArray⟩ pos) ∧ Below w.heap.size w wr ∧ Hid (decF w0 (L.drop pos) ka kb kc kd = ⟨qa, qb, qc, qd⟩)) (fun wr => L.length - wr.iterPos w1.heap.size)
  case atStart =>
    refine ⟨0, 0, 0, 0, 0, by omega, (Below.heap_alloc _ _ _ (by omega)).trans hR, (Below.heap_alloc _ _ _ (by omega)).trans hA, World.iter_heap w1 ⟨L.toArray⟩ 0, hbw.alloc (by omega) _, HK⟩
  case round =>
    obtain ⟨pos, ka, kb, kc, kd, hpos, hR2, hI, hit, hbr, HD⟩ := hrel
    have hsz : w1.heap.size < wr.heap.size := (Array.getElem?_eq_some_iff.1 hit).1
    by_cases hp : pos < L.length
    · have hp2 : pos < (⟨L.toArray⟩ : ByteArray).size := by show pos < L.toArray.size; rw [List.size_toArray]; exact hp
      obtain ⟨l, hl0, hl1, hst, hnx⟩ : ∃ l : Int, 65 ≤ l ∧ l ≤ 68 ∧ Hid (decF w0 (L.drop (pos + 1)) (if l = 65 then numW w0 l else ka) (if l = 66 then numW w0 l else kb) (if l = 67 then numW w0 l else kc) (if l = 65 ∨ l = 66 ∨ l = 67 then kd else numW w0 l) = ⟨qa, qb, qc, qd⟩) ∧
          ∀ ty, (Instr.next (.pointer (some ⟨w1.heap.size, 0, none⟩)) true ty).run Tryd.prog wr = .ok (.tuple #[.bool true, .int .i64 pos, .int .i32 l]) (wr.iterAt w1.heap.size ⟨L.toArray⟩ (pos + 1)) := by
        have hm := Hlet.out _ (List.getElem_mem hp)
        exact ⟨(L[pos].toNat : Int), by omega, by omega, drop_step hp HD.out rfl, fun ty => Lib.run_next_ascii_at wr w1.heap.size ⟨L.toArray⟩ pos ty hit hp2 (show (L.toArray[pos]).toNat < 128 by simp only [List.getElem_toArray]; omega)⟩
      obtain ⟨sh, hs⟩ : ∃ n, shiftV l = n := ⟨_, rfl⟩
      have SH := fun W => Lib.hid (shift_any l W)
      have hs2 := shiftV_ok l
      rw [hs] at SH hs2
      have hI3 : InsAt (wr.iterAt w1.heap.size ⟨L.toArray⟩ (pos + 1)) (w.heap.size + 1) (w0 % 256) ka kb kc kd := (Lib.iterAt_other wr w1.heap.size (w.heap.size + 1) ⟨L.toArray⟩ (pos + 1) (by omega)).trans hI
      have hR3 := (Lib.iterAt_other wr w1.heap.size w.heap.size ⟨L.toArray⟩ (pos + 1) (by omega)).trans hR2
      have hit3 := Lib.iterAt_heap wr w1.heap.size ⟨L.toArray⟩ pos (pos + 1) hit
      have hb3 : Below w.heap.size w (wr.iterAt w1.heap.size ⟨L.toArray⟩ (pos + 1)) := Lib.below_iterAt hbr (by omega) _ _
      by_cases hD : l = 68
      · subst hD
        rw [show numW w0 68 = s16 (w0 / 65536) from rfl] at hst
        go_wp2_with fail
        refine ((SH _).out).mono ?_
        rintro e w' ⟨rfl, rfl⟩
        go_wp2_with fail
        rw [S16.out]
        refine (put_any (w.heap.size + 1) (w0 % 256) ka kb kc kd 68 _ _ hI3).mono ?_
        rintro e w' ⟨rfl, rfl⟩
        go_wp2
        go_roundw
        case rel => exact ⟨pos + 1, _, _, _, _, by omega, (Below.heap_setCell _ _ _ _ (show w.heap.size ≠ w.heap.size + 1 by omega)).trans hR3, hI3.put 68 _, (Below.heap_setCell _ _ _ _ (show w1.heap.size ≠ w.heap.size + 1 by omega)).trans hit3, hb3.setCell (p := ⟨w.heap.size + 1, putO 68, none⟩) (by simp) _, hst⟩
        case measure =>
          rw [iterPos_of hit, iterPos_of ((Below.heap_setCell _ _ _ _ (show w1.heap.size ≠ w.heap.size + 1 by omega)).trans hit3)]
          omega
      · have hD2 : (l == 68) = false := by simpa using hD
        have hn : wrap64 (bits .and .u32 (w0 / 2 ^ sh.toNat) 255) = numW w0 l := by
          have hp : (1 : Int) ≤ 2 ^ sh.toNat := by
            have := Nat.one_le_two_pow (n := sh.toNat)
            have h2 : ((2 ^ sh.toNat : Nat) : Int) = 2 ^ sh.toNat := by simp
            omega
          have hd0 : 0 ≤ w0 / 2 ^ sh.toNat := Int.ediv_nonneg h0 (by omega)
          have hd1 : w0 / 2 ^ sh.toNat ≤ w0 := Int.ediv_le_self _ h0
          rw [and_255 _ hd0 (by omega)]
          unfold numW
          rw [if_neg hD, hs]
          unfold wrap64
          omega
        have HN := Lib.hid hn
        clear hn
        go_wp2_with fail
        refine ((SH _).out).mono ?_
        rintro e w' ⟨rfl, rfl⟩
        go_wp2_with fail
        rw [HN.out]
        refine (put_any (w.heap.size + 1) (w0 % 256) ka kb kc kd l _ _ hI3).mono ?_
        rintro e w' ⟨rfl, rfl⟩
        go_wp2
        go_roundw
        case rel => exact ⟨pos + 1, _, _, _, _, by omega, (Below.heap_setCell _ _ _ _ (show w.heap.size ≠ w.heap.size + 1 by omega)).trans hR3, hI3.put l _, (Below.heap_setCell _ _ _ _ (show w1.heap.size ≠ w.heap.size + 1 by omega)).trans hit3, hb3.setCell (p := ⟨w.heap.size + 1, putO l, none⟩) (by simp) _, hst⟩
        case measure =>
          rw [iterPos_of hit, iterPos_of ((Below.heap_setCell _ _ _ _ (show w1.heap.size ≠ w.heap.size + 1 by omega)).trans hit3)]
          omega
    · have hp2 : ¬pos < (⟨L.toArray⟩ : ByteArray).size := by show ¬pos < L.toArray.size; rw [List.size_toArray]; exact hp
      have hnx : ∀ ty, (Instr.next (.pointer (some ⟨w1.heap.size, 0, none⟩)) true ty).run Tryd.prog wr = _ := fun ty => Lib.run_next_end_at wr w1.heap.size ⟨L.toArray⟩ pos ty hit hp2
      have hK := HD.out
      rw [List.drop_eq_nil_of_le (by omega), decF] at hK
      injection hK with k1 k2 k3 k4
      subst k1 k2 k3 k4
      obtain ⟨d0, d1, d2, d3, d4, _⟩ := ins_at hI
      have HT2 := Lib.hid (HT.out.below hbr)
      rcases hE with hE | hE
      · obtain rfl : y = 0 := hE
        by_cases hx : x = w0
        · subst hx
          have hr := Hr.out
          rw [answer_yes] at hr
          have Hr2 := Lib.hid hr
          clear hr
          go_wp2_with fail
          refine ((HE _ HT2.out).out).mono ?_
          rintro e w2 ⟨rfl, hb2⟩
          obtain ⟨r0, r1, r2, r3, r4, rf⟩ := ins_at ((hb2.block w.heap.size (by omega)).trans hR2)
          obtain ⟨d0, d1, d2, d3, d4, _⟩ := ins_at ((hb2.block (w.heap.size + 1) (by omega)).trans hI)
          have f0 := rf 0
          have f1 := rf 1
          have f2 := rf 2
          have f3 := rf 3
          have f4 := rf 4
          clear rf
          have hb4 : Below w.heap.size w w2 := hbr.trans (hb2.mono (by omega))
          go_wp2
          exact bodyPost_ret (v := .tuple #[.agg #[.int .i64 (x % 256), .int .i64 ka, .int .i64 kb, .int .i64 kc, .int .i64 kd], .int .i64 0]) (by simp [results, Tryd.results21, go_sem, r0, r1, r2, r3, r4]) rfl ⟨by rw [← Hr2.out], below5 hb4 _ _ _ _ _⟩
        · have hne : (x != w0) = true := by simpa using hx
          have hr := Hr.out
          rw [answer_no1 _ hx] at hr
          have Hr2 := Lib.hid hr
          clear hr hx
          go_wp2_with fail
          refine ((HE _ HT2.out).out).mono ?_
          rintro e w2 ⟨rfl, hb2⟩
          obtain ⟨r0, r1, r2, r3, r4, rf⟩ := ins_at ((hb2.block w.heap.size (by omega)).trans hR2)
          obtain ⟨d0, d1, d2, d3, d4, _⟩ := ins_at ((hb2.block (w.heap.size + 1) (by omega)).trans hI)
          have f0 := rf 0
          have f1 := rf 1
          have f2 := rf 2
          have f3 := rf 3
          have f4 := rf 4
          clear rf
          have hb4 : Below w.heap.size w w2 := hbr.trans (hb2.mono (by omega))
          go_wp2
          exact bodyPost_ret (v := .tuple #[.agg #[.int .i64 0, .int .i64 0, .int .i64 0, .int .i64 0, .int .i64 0], .int .i64 1]) (by simp [results, Tryd.results21, go_sem, r0, r1, r2, r3, r4]) rfl ⟨by rw [← Hr2.out], below5 hb4 _ _ _ _ _⟩
      · obtain rfl : y = 1 := hE
        have hr := Hr.out
        rw [answer_no2] at hr
        have Hr2 := Lib.hid hr
        clear hr
        go_wp2_with fail
        refine ((HE _ HT2.out).out).mono ?_
        rintro e w2 ⟨rfl, hb2⟩
        obtain ⟨r0, r1, r2, r3, r4, rf⟩ := ins_at ((hb2.block w.heap.size (by omega)).trans hR2)
        obtain ⟨d0, d1, d2, d3, d4, _⟩ := ins_at ((hb2.block (w.heap.size + 1) (by omega)).trans hI)
        have f0 := rf 0
        have f1 := rf 1
        have f2 := rf 2
        have f3 := rf 3
        have f4 := rf 4
        clear rf
        have hb4 : Below w.heap.size w w2 := hbr.trans (hb2.mono (by omega))
        go_wp2
        exact bodyPost_ret (v := .tuple #[.agg #[.int .i64 0, .int .i64 0, .int .i64 0, .int .i64 0, .int .i64 0], .int .i64 1]) (by simp [results, Tryd.results21, go_sem, r0, r1, r2, r3, r4]) rfl ⟨by rw [← Hr2.out], below5 hb4 _ _ _ _ _⟩
end InstrD
end Go.Proofs.YtmebhdffgpnplaaDoor
