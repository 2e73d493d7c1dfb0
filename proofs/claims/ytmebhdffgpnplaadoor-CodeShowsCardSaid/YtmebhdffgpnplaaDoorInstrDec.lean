/- The contracts of Decode and of the document's own. -/
import Derived.Test.YtmebhdffgpnplaaDoorInstrEnc
namespace Go.Proofs.YtmebhdffgpnplaaDoor
open Go.RowKit
namespace InstrM

/-- The 16 bits of a D, as a number. -/
def s16 (x : Int) : Int := (x + 32768) % 65536 - 32768
/-- What stands in a word's field. -/
def numW (w l : Int) : Int := if l = 68 then s16 (w / 65536) else w / 2 ^ (shiftV l).toNat % 256
structure Four where
  a : Int
  b : Int
  c : Int
  d : Int
/-- The fields that are read behind some letters. -/
def decF (w : Int) : List UInt8 → Int → Int → Int → Int → Four
  | [], ka, kb, kc, kd => ⟨ka, kb, kc, kd⟩
  | l :: r, ka, kb, kc, kd => decF w r (if (l.toNat : Int) = 65 then numW w l.toNat else ka) (if (l.toNat : Int) = 66 then numW w l.toNat else kb)
        (if (l.toNat : Int) = 67 then numW w l.toNat else kc) (if (l.toNat : Int) = 65 ∨ (l.toNat : Int) = 66 ∨ (l.toNat : Int) = 67 then kd else numW w l.toNat)
def kF (w : Int) : Four := decF w (formOf (w % 256)) 0 0 0 0
def rF (w : Int) : Four := if 68 ∈ formOf (w % 256) then ⟨w / 256 % 256, 0, 0, s16 (w / 65536)⟩ else ⟨w / 256 % 256, w / 65536 % 256, w / 16777216, 0⟩
def wOf (w : Int) (f : Four) : Int × Int := wordV (w % 256) f.a f.b f.c f.d
end InstrM
namespace InstrD
open InstrM
theorem dec_same {w : Int} (h0 : 0 ≤ w) (h1 : w ≤ 4294967295) : (wOf w (kF w) = (w, 0) → rF w = kF w) ∧ (wOf w (rF w) = (w, 0) → rF w = kF w) := by
  unfold wOf kF rF
  rcases form_cases (w % 256) with h | ⟨h, o0, o1⟩
  · constructor <;>
      (intro hx
       rw [wordV, h] at hx
       simp [validB] at hx)
  · rcases h with h | h | h | h | h <;> rw [h]
    all_goals
      simp only [decF, numW, shiftV, show ((65 : UInt8).toNat : Int) = 65 from rfl, show ((66 : UInt8).toNat : Int) = 66 from rfl, show ((67 : UInt8).toNat : Int) = 67 from rfl, show ((68 : UInt8).toNat : Int) = 68 from rfl]
      simp [wordV, h, validB, sumW]
      (try unfold s16)
      (try (constructor <;> (intro hx; split at hx <;> simp only [Prod.mk.injEq] at hx <;> omega)))

theorem s16_eq (x : Int) : wrap64 (IntKind.i16.wrap x) = s16 x := by
  have : IntKind.i16.wrap x = (x + 32768) % 65536 - 32768 := by simp [IntKind.wrap, IntKind.bits, IntKind.signed]; omega
  rw [this]
  unfold s16 wrap64
  omega
theorem rF_yes {w : Int} {L : List UInt8} (hL : formOf (w % 256) = L) (h : hasL L 68 = true) : rF w = ⟨w / 256 % 256, 0, 0, s16 (w / 65536)⟩ := by
  unfold rF
  rw [hL, if_pos ((hasL_iff L 68).1 h)]
theorem rF_no {w : Int} {L : List UInt8} (hL : formOf (w % 256) = L) (h : hasL L 68 = false) : rF w = ⟨w / 256 % 256, w / 65536 % 256, w / 16777216, 0⟩ := by
  unfold rF
  rw [hL, if_neg]
  intro hm
  have := (hasL_iff L 68).2 hm
  rw [show ((68 : UInt8).toNat : Int) = 68 from rfl, h] at this
  cases this
theorem word_err (op a b c d : Int) : (wordV op a b c d).2 = 0 ∨ (wordV op a b c d).2 = 1 := by
  unfold wordV
  split
  · exact .inl rfl
  · exact .inr rfl
/-- What a reader answers: the instruction of the fields if its word is the word that was read, else none. -/
def answer (w : Int) (f : Four) (E : Int × Int) : Value :=
  if E = (w, 0) then .tuple #[.agg #[.int .i64 (w % 256), .int .i64 f.a, .int .i64 f.b, .int .i64 f.c, .int .i64 f.d], .int .i64 0]
  else .tuple #[.agg #[.int .i64 0, .int .i64 0, .int .i64 0, .int .i64 0, .int .i64 0], .int .i64 1]
theorem ins_at {w : World} {B : Nat} {op a b c d : Int} (h : w.heap[B]? = some (.cells #[.int .i64 op, .int .i64 a, .int .i64 b, .int .i64 c, .int .i64 d] 65 (0, 0))) :
    w.cell? ⟨B, 0, none⟩ = some (.int .i64 op) ∧ w.cell? ⟨B, 1, none⟩ = some (.int .i64 a) ∧ w.cell? ⟨B, 2, none⟩ = some (.int .i64 b) ∧ w.cell? ⟨B, 3, none⟩ = some (.int .i64 c) ∧ w.cell? ⟨B, 4, none⟩ = some (.int .i64 d) ∧ ∀ i, w.frozen? ⟨B, i, none⟩ = false :=
  ⟨block_cell h 0, block_cell h 1, block_cell h 2, block_cell h 3, block_cell h 4, fun i => block_free h i⟩

theorem below5 {n : Nat} {a w : World} (h : Below n a w) (v0 v1 v2 v3 v4 : Value) :
    Below n a (((((w.setCell ⟨n, 0, none⟩ v0).setCell ⟨n, 1, none⟩ v1).setCell ⟨n, 2, none⟩ v2).setCell ⟨n, 3, none⟩ v3).setCell ⟨n, 4, none⟩ v4) :=
  ((((h.setCell (p := ⟨n, 0, none⟩) (Nat.le_refl _) _).setCell (p := ⟨n, 1, none⟩) (Nat.le_refl _) _).setCell (p := ⟨n, 2, none⟩) (Nat.le_refl _) _).setCell (p := ⟨n, 3, none⟩) (Nat.le_refl _) _).setCell (p := ⟨n, 4, none⟩) (Nat.le_refl _) _
theorem answer_yes (w : Int) (f : Four) : answer w f (w, 0) = .tuple #[.agg #[.int .i64 (w % 256), .int .i64 f.a, .int .i64 f.b, .int .i64 f.c, .int .i64 f.d], .int .i64 0] := by rw [answer, if_pos rfl]
theorem answer_no1 {w x : Int} (f : Four) (h : ¬x = w) : answer w f (x, 0) = .tuple #[.agg #[.int .i64 0, .int .i64 0, .int .i64 0, .int .i64 0, .int .i64 0], .int .i64 1] := by
  rw [answer, if_neg (fun e => h (congrArg Prod.fst e))]
theorem answer_no2 (w x : Int) (f : Four) : answer w f (x, 1) = .tuple #[.agg #[.int .i64 0, .int .i64 0, .int .i64 0, .int .i64 0, .int .i64 0], .int .i64 1] := by
  rw [answer, if_neg (fun e => by have := congrArg Prod.snd e; simp at this)]

set_option maxHeartbeats 4000000 in
set_option maxRecDepth 100000 in
theorem refDecode_any (w0 : Int) (h0 : 0 ≤ w0) (h1 : w0 ≤ 4294967295) (w : World) :
    Calls Tryd.prog 26 #[.int .u32 w0] w fun e w' => e = .returned (answer w0 (rF w0) (wOf w0 (rF w0))) ∧ Below w.heap.size w w' := by
  have hq0 : 0 ≤ w0 % 256 := by omega
  obtain ⟨L, hL⟩ : ∃ L, formOf (w0 % 256) = L := ⟨_, rfl⟩
  have hl3 := form_len (w0 % 256)
  have HR := fun W => Lib.hid (row_any (w0 % 256) W)
  rw [hL] at HR hl3
  have hsz : (⟨L.toArray⟩ : ByteArray).size ≤ 4 := by show L.toArray.size ≤ 4; rw [List.size_toArray]; omega
  obtain ⟨h, hh⟩ : ∃ h, hasL L 68 = h := ⟨_, rfl⟩
  have HA := fun W => Lib.hid (has_any ⟨L.toArray⟩ 68 W hsz)
  rw [show hasL (⟨L.toArray⟩ : ByteArray).data.toList 68 = h from hh] at HA
  have hE := word_err (w0 % 256) (rF w0).a (rF w0).b (rF w0).c (rF w0).d
  have HE := fun W => Lib.hid (refEncode_any (w0 % 256) (rF w0).a (rF w0).b (rF w0).c (rF w0).d W)
  obtain ⟨E, hE2⟩ : ∃ E, wordV (w0 % 256) (rF w0).a (rF w0).b (rF w0).c (rF w0).d = E := ⟨_, rfl⟩
  have hans : answer w0 (rF w0) (wOf w0 (rF w0)) = answer w0 (rF w0) E := by unfold wOf; rw [hE2]
  rw [hE2] at hE HE
  rw [hans]
  clear hE2 hans
  obtain ⟨x, y⟩ := E
  obtain ⟨r, hr⟩ : ∃ r, answer w0 (rF w0) (x, y) = r := ⟨_, rfl⟩
  rw [hr]
  have S16 := Lib.hid (s16_eq (w0 / 65536))
  cases h
  · rw [rF_no hL hh] at HE hr
    clear hL hh
    go_enter Tryd.func26, Tryd.ntmps26
    go_wp2_with fail
    refine ((HR _).out).mono ?_
    rintro e w1 ⟨rfl, hb⟩
    have hR : w1.heap[w.heap.size]? = some (.cells #[.int .i64 0, .int .i64 0, .int .i64 0, .int .i64 0, .int .i64 0] 65 (0, 0)) :=
      (hb.block _ (by simp only [World.size_alloc]; omega)).trans ((Below.heap_alloc _ _ _ (by simp only [World.size_alloc]; omega)).trans (alloc_new w _))
    have hA : w1.heap[w.heap.size + 1]? = some (.cells #[.int .i64 (w0 % 256), .int .i64 (w0 / 256 % 256), .int .i64 0, .int .i64 0, .int .i64 0] 65 (0, 0)) :=
      (hb.block _ (by simp only [World.size_alloc]; omega)).trans (alloc_at _ _ _ (by simp only [World.size_alloc]))
    have hbw : Below w.heap.size w w1 := (((Below.refl _ _).alloc (Nat.le_refl _) _).alloc (by simp) _).trans (hb.mono (by simp only [World.size_alloc]; omega))
    have z1 : w.heap.size + 1 < w1.heap.size := by have := hb.size; simp only [World.size_alloc] at this; omega
    obtain ⟨d0, d1, d2, d3, d4, df⟩ := ins_at hA
    have f2 := df 2
    have f3 := df 3
    clear df
    go_wp2_with (go_at_call 55; refine ((HA _).out).mono ?_; rintro e w' ⟨rfl, rfl⟩)
    refine ((HE _).out).mono ?_
    rintro e w2 ⟨rfl, hb2⟩
    have hA2 := (hb2.block (w.heap.size + 1) (by simp [World.setCell]; omega)).trans (block_set (block_set hA 2 (.int .i64 (w0 / 65536 % 256))) 3 (.int .i64 (w0 / 16777216)))
    have hR2 := (hb2.block w.heap.size (by simp [World.setCell]; omega)).trans ((Below.heap_setCell _ _ _ _ (show w.heap.size ≠ w.heap.size + 1 by omega)).trans ((Below.heap_setCell _ _ _ _ (show w.heap.size ≠ w.heap.size + 1 by omega)).trans hR))
    have hb3 : Below w.heap.size w w2 := ((hbw.setCell (p := ⟨w.heap.size + 1, 2, none⟩) (by simp) _).setCell (p := ⟨w.heap.size + 1, 3, none⟩) (by simp) _).trans (hb2.mono (by simp [World.setCell]; omega))
    clear d0 d1 d2 d3 d4 f2 f3
    obtain ⟨d0, d1, d2, d3, d4, df⟩ := ins_at hA2
    obtain ⟨r0, r1, r2, r3, r4, rf⟩ := ins_at hR2
    have f0 := rf 0
    have f1 := rf 1
    have f2 := rf 2
    have f3 := rf 3
    have f4 := rf 4
    clear rf df
    rcases hE with hE | hE
    · obtain rfl : y = 0 := hE
      by_cases hx : x = w0
      · subst hx
        rw [answer_yes] at hr
        have Hr := Lib.hid hr
        clear hr
        go_wp2
        exact bodyPost_ret (v := .tuple #[.agg #[.int .i64 (x % 256), .int .i64 (x / 256 % 256), .int .i64 (x / 65536 % 256), .int .i64 (x / 16777216), .int .i64 0], .int .i64 0]) (by simp [results, Tryd.results26, go_sem, r0, r1, r2, r3, r4]) rfl ⟨by rw [← Hr.out], below5 hb3 _ _ _ _ _⟩
      · have hne : (x != w0) = true := by simpa using hx
        rw [answer_no1 _ hx] at hr
        have Hr := Lib.hid hr
        clear hr hx
        go_wp2
        exact bodyPost_ret (v := .tuple #[.agg #[.int .i64 0, .int .i64 0, .int .i64 0, .int .i64 0, .int .i64 0], .int .i64 1]) (by simp [results, Tryd.results26, go_sem, r0, r1, r2, r3, r4]) rfl ⟨by rw [← Hr.out], below5 hb3 _ _ _ _ _⟩
    · obtain rfl : y = 1 := hE
      rw [answer_no2] at hr
      have Hr := Lib.hid hr
      clear hr
      go_wp2
      exact bodyPost_ret (v := .tuple #[.agg #[.int .i64 0, .int .i64 0, .int .i64 0, .int .i64 0, .int .i64 0], .int .i64 1]) (by simp [results, Tryd.results26, go_sem, r0, r1, r2, r3, r4]) rfl ⟨by rw [← Hr.out], below5 hb3 _ _ _ _ _⟩
  · rw [rF_yes hL hh] at HE hr
    clear hL hh
    go_enter Tryd.func26, Tryd.ntmps26
    go_wp2_with fail
    refine ((HR _).out).mono ?_
    rintro e w1 ⟨rfl, hb⟩
    have hR : w1.heap[w.heap.size]? = some (.cells #[.int .i64 0, .int .i64 0, .int .i64 0, .int .i64 0, .int .i64 0] 65 (0, 0)) :=
      (hb.block _ (by simp only [World.size_alloc]; omega)).trans ((Below.heap_alloc _ _ _ (by simp only [World.size_alloc]; omega)).trans (alloc_new w _))
    have hA : w1.heap[w.heap.size + 1]? = some (.cells #[.int .i64 (w0 % 256), .int .i64 (w0 / 256 % 256), .int .i64 0, .int .i64 0, .int .i64 0] 65 (0, 0)) :=
      (hb.block _ (by simp only [World.size_alloc]; omega)).trans (alloc_at _ _ _ (by simp only [World.size_alloc]))
    have hbw : Below w.heap.size w w1 := (((Below.refl _ _).alloc (Nat.le_refl _) _).alloc (by simp) _).trans (hb.mono (by simp only [World.size_alloc]; omega))
    have z1 : w.heap.size + 1 < w1.heap.size := by have := hb.size; simp only [World.size_alloc] at this; omega
    obtain ⟨d0, d1, d2, d3, d4, df⟩ := ins_at hA
    have f4 := df 4
    clear df
    go_wp2_with (go_at_call 55; refine ((HA _).out).mono ?_; rintro e w' ⟨rfl, rfl⟩)
    rw [S16.out]
    refine ((HE _).out).mono ?_
    rintro e w2 ⟨rfl, hb2⟩
    have hA2 := (hb2.block (w.heap.size + 1) (by simp [World.setCell]; omega)).trans (block_set hA 4 (.int .i64 (s16 (w0 / 65536))))
    have hR2 := (hb2.block w.heap.size (by simp [World.setCell]; omega)).trans ((Below.heap_setCell _ _ _ _ (show w.heap.size ≠ w.heap.size + 1 by omega)).trans hR)
    have hb3 : Below w.heap.size w w2 := (hbw.setCell (p := ⟨w.heap.size + 1, 4, none⟩) (by simp) _).trans (hb2.mono (by simp [World.setCell]; omega))
    clear d0 d1 d2 d3 d4 f4
    obtain ⟨d0, d1, d2, d3, d4, df⟩ := ins_at hA2
    obtain ⟨r0, r1, r2, r3, r4, rf⟩ := ins_at hR2
    have f0 := rf 0
    have f1 := rf 1
    have f2 := rf 2
    have f3 := rf 3
    have f4 := rf 4
    clear rf df
    rcases hE with hE | hE
    · obtain rfl : y = 0 := hE
      by_cases hx : x = w0
      · subst hx
        rw [answer_yes] at hr
        have Hr := Lib.hid hr
        clear hr
        go_wp2
        exact bodyPost_ret (v := .tuple #[.agg #[.int .i64 (x % 256), .int .i64 (x / 256 % 256), .int .i64 0, .int .i64 0, .int .i64 (s16 (x / 65536))], .int .i64 0]) (by simp [results, Tryd.results26, go_sem, r0, r1, r2, r3, r4]) rfl ⟨by rw [← Hr.out], below5 hb3 _ _ _ _ _⟩
      · have hne : (x != w0) = true := by simpa using hx
        rw [answer_no1 _ hx] at hr
        have Hr := Lib.hid hr
        clear hr hx
        go_wp2
        exact bodyPost_ret (v := .tuple #[.agg #[.int .i64 0, .int .i64 0, .int .i64 0, .int .i64 0, .int .i64 0], .int .i64 1]) (by simp [results, Tryd.results26, go_sem, r0, r1, r2, r3, r4]) rfl ⟨by rw [← Hr.out], below5 hb3 _ _ _ _ _⟩
    · obtain rfl : y = 1 := hE
      rw [answer_no2] at hr
      have Hr := Lib.hid hr
      clear hr
      go_wp2
      exact bodyPost_ret (v := .tuple #[.agg #[.int .i64 0, .int .i64 0, .int .i64 0, .int .i64 0, .int .i64 0], .int .i64 1]) (by simp [results, Tryd.results26, go_sem, r0, r1, r2, r3, r4]) rfl ⟨by rw [← Hr.out], below5 hb3 _ _ _ _ _⟩
end InstrD
end Go.Proofs.YtmebhdffgpnplaaDoor
