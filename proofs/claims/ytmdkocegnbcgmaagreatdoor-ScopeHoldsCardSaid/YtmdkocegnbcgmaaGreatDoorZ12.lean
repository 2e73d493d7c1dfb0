/- Whether a node has the kids that it wants: the program's. -/
import Derived.Test.YtmdkocegnbcgmaaGreatDoorZ11
import Derived.Test.YtmdkocegnbcgmaaGreatDoorShelf
import Derived.Lib.Replace
import Derived.Lib.OthersKept
import Derived.LoopN
import Derived.Recover
import Derived.WalkSmall
namespace Go.Proofs.YtmdkocegnbcgmaaGreatDoor
open Go.RowKit ObjM
namespace TreeD

def wantS (n : Nat) : ByteArray := ⟨(WANT.getD n []).toArray⟩
theorem wantS_list (n : Nat) : (wantS n).data.toList = WANT.getD n [] := by simp [wantS]
/-- The table of what kinds want, and what else the library's texts lay. -/
structure Tk (w : World) : Prop where
  lt : 0 < w.heap.size
  want : ∀ n, n < 37 → w.cell? ⟨0, n, none⟩ = some (.string (wantS n))
  ml : ∃ m, w.cell? ⟨4, 0, none⟩ = some (.int .i64 m) ∧ 4 < w.heap.size
theorem Tk.below {w w' : World} {B : Nat} (h : Tk w) (hB : w.heap.size ≤ B) (hb : Below B w w') : Tk w' := by
  obtain ⟨m, hm, hl⟩ := h.ml
  have := h.lt
  exact ⟨Nat.lt_of_lt_of_le h.lt hb.size, fun n hn => (hb.cell (p := ⟨_, n, none⟩) (by simp; omega)).trans (h.want n hn), m, (hb.cell (p := ⟨_, 0, none⟩) (by simp; omega)).trans hm, Nat.lt_of_lt_of_le hl hb.size⟩
theorem want_cases (P : Nat → Prop) (h : ∀ n : Fin 37, P n.val) : ∀ n, n < 37 → P n := fun n hn => h ⟨n, hn⟩
theorem rep_all : ∀ n, n < 37 → Lib.replaceAll (wantS n).data.toList (⟨#[42]⟩ : ByteArray).data.toList (⟨#[]⟩ : ByteArray).data.toList = plainOf (WANT.getD n []) := want_cases _ (by decide +kernel)
theorem star_all : ∀ n, n < 37 → decide (0 ≤ Lib.indexByte (wantS n).data.toList 42) = starB (WANT.getD n []) := want_cases _ (by decide +kernel)
theorem want_small : ∀ n, n < 37 → (wantS n).size ≤ 5 := want_cases _ (by decide +kernel)
theorem want_plain : ∀ n, n < 37 → (plainOf (WANT.getD n [])).length ≤ 5 ∧ (starB (WANT.getD n []) = true → (plainOf (WANT.getD n [])).length + 1 = (wantS n).size) ∧ (starB (WANT.getD n []) = false → (plainOf (WANT.getD n [])).length = (wantS n).size) := want_cases _ (by decide +kernel)
theorem want_asc : ∀ n, n < 37 → ∀ c ∈ WANT.getD n [], c.toNat < 128 ∧ (c ≠ 42 → c.toNat ∈ LETS) := want_cases _ (by decide +kernel)
theorem want_rep_ok : ∀ n, n < 37 → (Lib.replaceAll (wantS n).data.toList (⟨#[42]⟩ : ByteArray).data.toList (⟨#[]⟩ : ByteArray).data.toList).length ≤ 5 := want_cases _ (by decide +kernel)
theorem fit_way {n : Nat} (h1 : 1 ≤ n) (h2 : n ≤ 36) (ks : List Int) :
    (fitB (WANT.getD n []) ks = false ∧ ((starB (WANT.getD n []) = true ∧ ks.length + 1 < (plainOf (WANT.getD n [])).length) ∨ (starB (WANT.getD n []) = false ∧ ks.length < (plainOf (WANT.getD n [])).length) ∨ (starB (WANT.getD n []) = false ∧ (plainOf (WANT.getD n [])).length < ks.length))) ∨
    (∃ m : Nat, fitB (WANT.getD n []) ks = allKids (expand m (WANT.getD n [])) ks ∧ (expand m (WANT.getD n [])).length = ks.length ∧ ((starB (WANT.getD n []) = true ∧ ks.length + 1 = (plainOf (WANT.getD n [])).length + m) ∨ (starB (WANT.getD n []) = false ∧ ks.length = (plainOf (WANT.getD n [])).length ∧ m = 0))) := by
  have hexp : ∀ m, starB (WANT.getD n []) = true → (expand m (WANT.getD n [])).length + 1 = (plainOf (WANT.getD n [])).length + m := by
    have hn : n = 1 ∨ n = 3 ∨ n = 20 ∨ n = 21 ∨ n = 22 ∨ n = 24 ∨ n = 32 ∨ n = 34 ∨ n = 35 ∨ n = 2 ∨ n = 4 ∨ n = 5 ∨ n = 6 ∨ n = 7 ∨ n = 8 ∨ n = 9 ∨ n = 10 ∨ n = 11 ∨ n = 12 ∨ n = 13 ∨ n = 14 ∨ n = 15 ∨ n = 16 ∨ n = 17 ∨ n = 18 ∨ n = 19 ∨ n = 23 ∨ n = 25 ∨ n = 26 ∨ n = 27 ∨ n = 28 ∨ n = 29 ∨ n = 30 ∨ n = 31 ∨ n = 33 ∨ n = 36 := by omega
    intro m
    rcases hn with rfl | rfl | rfl | rfl | rfl | rfl | rfl | rfl | rfl | rfl | rfl | rfl | rfl | rfl | rfl | rfl | rfl | rfl | rfl | rfl | rfl | rfl | rfl | rfl | rfl | rfl | rfl | rfl | rfl | rfl | rfl | rfl | rfl | rfl | rfl | rfl
    all_goals
      first
        | (intro h; exact absurd h (by decide))
        | (intro _; simp [WANT, expand, plainOf]; try omega)
  cases hst : starB (WANT.getD n []) with
  | true =>
    by_cases hl : ks.length + 1 < (plainOf (WANT.getD n [])).length
    · exact .inl ⟨by rw [fit_star hst, if_pos hl], .inl ⟨rfl, hl⟩⟩
    · have := hexp (ks.length + 1 - (plainOf (WANT.getD n [])).length) hst
      exact .inr ⟨ks.length + 1 - (plainOf (WANT.getD n [])).length, by rw [fit_star hst, if_neg hl], by omega, .inl ⟨rfl, by omega⟩⟩
  | false =>
    rw [plainOf_plain hst, fit_plain hst]
    rcases Nat.lt_trichotomy ks.length (WANT.getD n []).length with h | h | h
    · exact .inl ⟨allKids_no (by omega), .inr (.inl ⟨rfl, h⟩)⟩
    · refine .inr ⟨0, by rw [expand_plain 0 _ hst], by rw [expand_plain 0 _ hst]; exact h.symm, .inr ⟨rfl, h, rfl⟩⟩
    · exact .inl ⟨allKids_no (by omega), .inr (.inr ⟨rfl, h⟩)⟩
theorem kindAt_get {l : List Nd} {q : Nat} (hq : q < l.length) : kindAt l (q : Int) = l[q].kind := by
  simp [kindAt, ndAt, List.getD, hq]
theorem all_drop {c : UInt8} {p : List UInt8} {ks : List Int} {l : List Nd} {a : Nat} (ha : a < ks.length) :
    allKids (c :: p) ((kindsOf l ks).drop a) = (kidB c.toNat (kindAt l ks[a]) && allKids p ((kindsOf l ks).drop (a + 1))) := by
  have h : a < (kindsOf l ks).length := by simpa [kindsOf] using ha
  rw [List.drop_eq_getElem_cons h]
  simp [kindsOf, allKids_cons]
theorem rep_drop {c : UInt8} {p : List UInt8} {t j : Nat} (h : j < t) : List.replicate (t - j) c ++ p = c :: (List.replicate (t - (j + 1)) c ++ p) := by
  obtain ⟨q, hq⟩ : ∃ q, t - j = q + 1 := ⟨t - j - 1, by omega⟩
  have : t - (j + 1) = q := by omega
  rw [hq, this, List.replicate_succ]
  rfl
theorem exp_star {m : Nat} {s : List UInt8} {p : Nat} (hp : p < s.length) (h : s[p] = 42) : expand m (s.drop p) = expand m (s.drop (p + 1)) := by
  rw [List.drop_eq_getElem_cons hp]
  show (if s[p] = 42 then [] else _) ++ _ = _
  rw [if_pos h]
  rfl
theorem exp_many {m : Nat} {s : List UInt8} {p : Nat} (hp : p + 1 < s.length) (h : s[p] ≠ 42) (h2 : s[p + 1] = 42) : expand m (s.drop p) = List.replicate m s[p] ++ expand m (s.drop (p + 1)) := by
  rw [List.drop_eq_getElem_cons (by omega)]
  show (if s[p] = 42 then [] else if (s.drop (p + 1)).head? = some 42 then List.replicate m s[p] else [s[p]]) ++ _ = _
  rw [if_neg h, if_pos (by rw [List.drop_eq_getElem_cons hp]; simp [h2])]
theorem exp_one {m : Nat} {s : List UInt8} {p : Nat} (hp : p < s.length) (h : s[p] ≠ 42) (h2 : ∀ h : p + 1 < s.length, s[p + 1] ≠ 42) : expand m (s.drop p) = List.replicate 1 s[p] ++ expand m (s.drop (p + 1)) := by
  rw [List.drop_eq_getElem_cons hp]
  show (if s[p] = 42 then [] else if (s.drop (p + 1)).head? = some 42 then List.replicate m s[p] else [s[p]]) ++ _ = _
  rw [if_neg h, if_neg]
  · rfl
  · intro e
    by_cases hq : p + 1 < s.length
    · rw [List.drop_eq_getElem_cons hq] at e
      simp at e
      rw [List.getElem?_eq_getElem hq] at e
      injection e with e
      exact h2 hq e
    · rw [List.drop_eq_nil_of_le (by omega)] at e
      cases e
set_option maxRecDepth 100000 in
set_option maxHeartbeats 16000000 in
theorem kidsFit_any (n : Nat) (h1 : 1 ≤ n) (h2 : n ≤ 36) (x1 : ByteArray) (ks : List Int) (x3 : Int) (kv : Value) (l : List Nd) (lv dv : Value) (C : Nat) (w : World) (hT : Tk w) (hC : Has w C 88 [lv, dv]) (hl : NdsAt w lv l) (hk : KidsAt w kv ks) (hok : ∀ k ∈ ks, 0 ≤ k ∧ k < (l.length : Int)) (hkl : ks.length ≤ 140737488355328) (_hll : l.length ≤ 100000) :
    Calls Tryz.prog 93 #[.pointer (some ⟨C, 0, none⟩), .agg #[.int .i64 (n : Int), .string x1, kv, .int .i64 x3]] w fun e w' => e = .returned (.bool (fitB (WANT.getD n []) (kindsOf l ks))) ∧ Below w.heap.size w w' := by
  have hn37 : n < 37 := by omega
  have hws := want_small n hn37
  have hwp := want_plain n hn37
  have hway := fit_way h1 h2 (kindsOf l ks)
  have hkn : (kindsOf l ks).length = ks.length := by simp [kindsOf]
  rw [hkn] at hway
  have Hasc := Lib.hid (want_asc n hn37)
  have HR := fun (W : World) (hb : Below w.heap.size w W) => Lib.hid (by
    obtain ⟨m, hm, _⟩ := (hT.below (Nat.le_refl _) hb).ml
    exact Tryz.strings_ReplaceAll (wantS n) ⟨#[42]⟩ ⟨#[]⟩ m W (by omega) hm (by decide) (by have : (⟨#[]⟩ : ByteArray).size = 0 := rfl; rw [this]; omega))
  have HC := fun W => Lib.hid (Tryz.strings_Contains_one (wantS n) 42 W)
  rw [rep_all n hn37] at HR
  rw [star_all n hn37] at HC
  obtain ⟨S, hS⟩ : ∃ S, WANT.getD n [] = S := ⟨_, rfl⟩
  obtain ⟨R, hR⟩ : ∃ R, fitB S (kindsOf l ks) = R := ⟨_, rfl⟩
  rw [hS] at HR HC hwp hway Hasc ⊢
  rw [hR] at hway ⊢
  obtain ⟨P, hP⟩ : ∃ P, (plainOf S).length = P := ⟨_, rfl⟩
  obtain ⟨fS, hfS⟩ : ∃ f : ByteArray, (⟨(plainOf S).toArray⟩ : ByteArray) = f := ⟨_, rfl⟩
  have hfz : fS.size = P := by rw [← hfS, ← hP]; simp [ByteArray.size]
  have hsl : (wantS n).size = S.length := by rw [← hS]; simp [wantS, ByteArray.size]
  have HSl : Hid ((wantS n).data.toList = S) := Lib.hid (by rw [wantS_list, hS])
  rw [hfS] at HR
  rw [hP] at hwp hway
  obtain ⟨s, hs⟩ : ∃ s, wantS n = s := ⟨_, rfl⟩
  have t1 := (hT.below (Nat.le_refl _) ((Below.refl w.heap.size w).alloc (Nat.le_refl _) (.cells #[.int .i64 (n : Int), .string x1, kv, .int .i64 x3] 40))).want n hn37
  have tl := (hT.below (Nat.le_refl _) ((Below.refl w.heap.size w).alloc (Nat.le_refl _) (.cells #[.int .i64 (n : Int), .string x1, kv, .int .i64 x3] 40))).lt
  rw [hs] at HR HC hws hwp hsl HSl t1
  obtain ⟨z, hz⟩ : ∃ z, s.size = z := ⟨_, rfl⟩
  rw [hz] at hws hwp hsl
  have HB0 := Lib.hid ((Below.refl w.heap.size w).alloc (Nat.le_refl _) (.cells #[.int .i64 (n : Int), .string x1, kv, .int .i64 x3] 40))
  have hN0 := Has.new w 40 [.int .i64 (n : Int), .string x1, kv, .int .i64 x3]
  have HR0 := HR _ HB0.out
  have HL := Lib.hid (fun (W : World) (hb : Below w.heap.size w W) => hl.below (Nat.le_refl _) hb)
  have HK := Lib.hid (fun (W : World) (hb : Below w.heap.size w W) => hk.below (Nat.le_refl _) hb)
  have HCk := Lib.hid (fun (W : World) (hb : Below w.heap.size w W) => hC.below hb hC.lt)
  have HO := Lib.hid hok
  obtain ⟨st, hst⟩ : ∃ b, starB S = b := ⟨_, rfl⟩
  rw [hst] at HC hwp hway
  obtain ⟨av, cv, rfl⟩ := hk.shape
  obtain ⟨al, cl, rfl⟩ := hl.shape
  have hzi : (s.size : Int) = (z : Int) := by omega
  have hfi : (fS.size : Int) = (P : Int) := by omega
  have Hsl := Lib.hid hsl
  have hn0 : (0 : Int) ≤ (n : Int) := by omega
  have hn1 : (n : Int) < 37 := by omega
  obtain ⟨hP5, hwt, hwf⟩ := hwp
  have HWy := Lib.hid hway
  clear hT HR hl hk hC hok hR hS hs hfS hP hst hkn hway hsl
  go_enter Tryz.func93, Tryz.ntmps93
  go_wp2_with fail
  refine (HR0.out).mono ?_
  rintro e w1 ⟨rfl, hb⟩
  have hN := hN0.below hb hN0.lt
  have HB1 := Lib.hid (HB0.out.trans (hb.mono HB0.out.size))
  have n2 := hN.cell 2
  have nl := hN.lt
  simp at n2
  have HN := Lib.hid hN
  clear hN hb hN0 t1 tl
  go_wp2_with fail
  refine ((HC _).out).mono ?_
  rintro e w2 ⟨rfl, hw⟩
  subst hw
  have hzz : 1 ≤ z + 1 := by omega
  rcases HWy.out with ⟨rfl, hno⟩ | ⟨m, hRm, hle, hyes⟩
  · have hno2 : (st = true ∧ (ks.length : Int) - (P : Int) + 1 < 0) ∨ (st = false ∧ (ks.length : Int) - (P : Int) < 0) ∨ (st = false ∧ ¬ (ks.length : Int) - (P : Int) < 0 ∧ P = z ∧ ((ks.length : Int) - (P : Int) != 0) = true) := by
      rcases hno with ⟨a, b⟩ | ⟨a, b⟩ | ⟨a, b⟩
      · exact .inl ⟨a, by omega⟩
      · exact .inr (.inl ⟨a, by omega⟩)
      · exact .inr (.inr ⟨a, by omega, hwf a, by simp; omega⟩)
    clear hno hwt hwf HWy
    rcases hno2 with ⟨rfl, g1⟩ | ⟨rfl, g1⟩ | ⟨rfl, g1, rfl, g2⟩
    all_goals
      go_wp2
      go_ret
      exact ⟨rfl, HB1.out⟩
  · have hm47 : m ≤ 140737488355333 := by omega
    have hyes2 : (st = true ∧ (ks.length : Int) - (P : Int) + 1 = (m : Int) ∧ ((P : Int) == (z : Int)) = false ∧ True) ∨ (st = false ∧ (ks.length : Int) - (P : Int) = (m : Int) ∧ ((P : Int) == (z : Int)) = true ∧ ((m : Int) != 0) = false) := by
      rcases hyes with ⟨a, b⟩ | ⟨a, b, c⟩
      · exact .inl ⟨a, by omega, by have := hwt a; simp; omega, trivial⟩
      · exact .inr ⟨a, by omega, by rw [hwf a]; simp, by rw [c]; rfl⟩
    have HM := Lib.hid (⟨hRm, hle⟩ : _ ∧ _)
    have hm0 : ¬ (m : Int) < 0 := by omega
    have hit : (World.iter w2 s 0).heap[w2.heap.size]? = some (.stringIter s 0) := World.iter_heap w2 _ 0
    have HW2 : Hid (Below w2.heap.size w2 (World.iter w2 s 0)) := Lib.hid ((Below.refl _ w2).alloc (Nat.le_refl _) _)
    have hKw : w.heap.size ≤ w2.heap.size := HB1.out.size
    clear hyes hwt hwf HWy hRm hle
    rcases hyes2 with ⟨rfl, hmi, hpz, hmz⟩ | ⟨rfl, hmi, hpz, hmz⟩
    all_goals
      go_wp2
      clear hmi hpz hmz n2 nl
      generalize World.iter w2 s 0 = W0 at hit HW2 ⊢
      generalize hKe : w2.heap.size = K at hit hKw HW2 ⊢
      go_loopw [8] (fun at_ wr => ∃ (p a : Nat), at_ = .int .i64 (a : Int) ∧ p ≤ z ∧ wr.heap[K]? = some (.stringIter s p) ∧ a ≤ ks.length ∧ Below K w2 wr ∧ Hid ((expand m (S.drop p)).length + a = ks.length) ∧ Hid (allKids (expand m (S.drop p)) ((kindsOf l ks).drop a) = R)) (fun _ wr => z - wr.iterPos K)
      case atStart => exact ⟨0, 0, rfl, by omega, hit, by omega, HW2.out, Lib.hid HM.out.2, Lib.hid HM.out.1.symm⟩
      case round =>
        obtain ⟨p, a, rfl, hp, hit2, ha, hB, HL2, HR2⟩ := hrel
        have HB := Lib.hid hB
        have hKr : K < wr.heap.size := (Array.getElem?_eq_some_iff.1 hit2).1
        clear hB
        by_cases hp2 : p < z
        · have hps : p < S.length := by rw [← Hsl.out]; exact hp2
          have hpl : p < s.data.toList.length := by rw [HSl.out]; exact hps
          have hpz : p < s.size := by omega
          have hbe : s.data.toList[p]'hpl = S[p] := by simp only [HSl.out]
          have hc1 := Hasc.out S[p] (List.getElem_mem hps)
          have hnx : ∀ ty, (Instr.next (.pointer (some ⟨K, 0, none⟩)) true ty).run Tryz.prog wr = _ := fun ty => Lib.run_next_ascii_at wr K s p ty hit2 hpz (by rw [← hbe] at hc1; exact hc1.1)
          have HW3 := Lib.iterAt_heap wr K s p (p + 1) hit2
          have HB3 := Lib.hid (Lib.below_iterAt HB.out (Nat.le_refl _) s (p + 1))
          generalize hW1 : wr.iterAt K s (p + 1) = W1 at hnx HW3 HB3
          have HSb : Hid (S[p] = s[p]) := Lib.hid hbe.symm
          by_cases h42 : S[p] = 42
          · have hc : ((s[p].toNat : Int)) = 42 := by rw [← HSb.out, h42]; rfl
            rw [hc] at hnx
            have HE := Lib.hid (exp_star (m := m) hps h42)
            clear hc hc1 h42 hbe
            go_wp2
            go_roundw
            case rel => exact ⟨p + 1, a, rfl, by omega, HW3, ha, HB3.out, by rw [← HE.out]; exact HL2, by rw [← HE.out]; exact HR2⟩
            case measure =>
              rw [iterPos_of hit2, iterPos_of HW3]
              omega
          · have hcl := hc1.2 h42
            have hc : ((s[p].toNat : Int) == 42) = false := by
              simp only [beq_eq_false_iff_ne, ne_eq]
              intro e
              apply h42
              rw [HSb.out]
              exact UInt8.toNat_inj.1 (by simpa using (by omega : s[p].toNat = 42))
            rw [HSb.out] at hcl
            have HF := fun k W => Lib.hid (kidFits_any s[p].toNat hcl k W)
            by_cases hnext : ∃ h : p + 1 < S.length, S[p + 1] = 42
            · obtain ⟨hq, h43⟩ := hnext
              have HE := Lib.hid (exp_many (m := m) hq h42 h43)
              rw [HE.out] at HL2 HR2
              have hqz : p + 1 < s.size := by have := Hsl.out; omega
              have hq1 : (p : Int) + 1 < (z : Int) := by omega
              have hb43 : s[p + 1]'hqz = 42 := by
                have : s.data.toList[p + 1]'(by rw [HSl.out]; exact hq) = S[p + 1] := by simp only [HSl.out]
                rw [← h43, ← this]
                rfl
              go_wp2
              clear h43 HE hq1 hb43
              have hLt : m + (expand m (S.drop (p + 1))).length + a = ks.length := by
                have := HL2.out
                rw [List.length_append, List.length_replicate] at this
                exact this
              have HRt := HR2
              clear HR2 HL2
              rw [HSb.out] at HRt
              obtain ⟨E, hE⟩ : ∃ E, expand m (S.drop (p + 1)) = E := ⟨_, rfl⟩
              have HEe := Lib.hid hE
              rw [hE] at hLt HRt
              obtain ⟨cb, hcb⟩ : ∃ cb, s[p] = cb := ⟨_, rfl⟩
              rw [hcb] at HF HRt ⊢
              have hit2k := hit2
              clear hE hc hc1 hcl h42 hbe hnx hit2 HSb hcb
              go_loopw [8, 63] (fun at_ jv wr2 => ∃ (j : Nat), at_ = .int .i64 ((a + j : Nat) : Int) ∧ jv = .int .i64 (j : Int) ∧ j ≤ m ∧ wr2.heap[K]? = some (.stringIter s (p + 1)) ∧ Below K w2 wr2 ∧ Hid (allKids (List.replicate (m - j) cb ++ E) ((kindsOf l ks).drop (a + j)) = R)) (fun _ jv _ => m - (intOf jv).toNat)
              case atStart => exact ⟨0, rfl, rfl, by omega, HW3, HB3.out, HRt⟩
              case round =>
                obtain ⟨j, rfl, rfl, hj, hit5, hB5, HR5⟩ := hrel
                have HB5 := Lib.hid hB5
                clear hB5
                by_cases hjt : j < m
                · have hji : (j : Int) < (m : Int) := by omega
                  have hak : a + j < ks.length := by omega
                  have hbw := HB1.out.trans (HB5.out.mono hKw)
                  obtain ⟨g, o, hg1, hg2, z0⟩ := (HK.out _ hbw).at (a + j) hak
                  have hgl := Nat.lt_of_lt_of_le hg2 (Nat.le_refl _)
                  have hy := HO.out _ (List.getElem_mem hak)
                  have HD := Lib.hid (all_drop (c := cb) (p := List.replicate (m - (j + 1)) cb ++ E) (l := l) hak)
                  rw [rep_drop hjt] at HR5
                  generalize ks[a + j] = y at z0 hy HD
                  obtain ⟨q, rfl⟩ : ∃ q : Nat, y = (q : Int) := ⟨y.toNat, by omega⟩
                  have hql : q < l.length := by omega
                  have hqi : (q : Int) < (l.length : Int) := by omega
                  have hq0 : (0 : Int) ≤ (q : Int) := by omega
                  obtain ⟨b, o2, kv2, hb1, hb2, d0, -⟩ := (HL.out _ hbw).at q hql
                  rw [kindAt_get hql] at HD
                  generalize l[q].kind = kd at d0 HD
                  have hc := HCk.out _ hbw
                  have e0 := hc.cell 0
                  have el := hc.lt
                  have hn := HN.out.below (hKe ▸ HB5.out) HN.out.lt
                  have n2 := hn.cell 2
                  have nl := hn.lt
                  have haj : ((a + j : Nat) : Int) < (ks.length : Int) := by omega
                  have haj0 : (0 : Int) ≤ ((a + j : Nat) : Int) := by omega
                  subst hg1 hb1
                  simp at e0 n2
                  have HFk := fun W => HF kd W
                  obtain ⟨bb, hbb⟩ : ∃ bb, kidB cb.toNat kd = bb := ⟨_, rfl⟩
                  rw [hbb] at HFk HD
                  clear hc hn hbw hbb HF hy
                  go_wp2
                  go_quiet ((go_at_call 104; exact quiet_left ((HFk _).out)))
                  have hit6 : (wr.drewN nq).heap[K]? = some (.stringIter s (p + 1)) := hit5
                  have HB6 : Hid (Below K w2 (wr.drewN nq)) := Lib.hid ⟨HB5.out.os, HB5.out.tape, HB5.out.output, HB5.out.size, fun k hk => HB5.out.block k hk⟩
                  clear hit5 HB5 n2 nl e0 el d0 z0 hg2 hb2 HFk
                  generalize wr.drewN nq = W4 at hit6 HB6 ⊢
                  cases bb
                  · have hRf : R = false := by rw [← HR5.out, HD.out]; rfl
                    clear HD HR5
                    subst hRf
                    go_wp2
                    go_ret
                    exact ⟨rfl, HB1.out.trans (HB6.out.mono hKw)⟩
                  · have HR6 : Hid (allKids (List.replicate (m - (j + 1)) cb ++ E) ((kindsOf l ks).drop (a + (j + 1))) = R) := Lib.hid (by rw [← HR5.out, HD.out]; rfl)
                    clear HD HR5
                    go_wp2
                    go_roundw
                    case rel => exact ⟨j + 1, by go_num, by go_num, by omega, hit6, HB6.out, HR6⟩
                    case measure => simp [intOf]; omega
                · have hjt2 : j = m := by omega
                  have HR6 : Hid (allKids (expand m (S.drop (p + 1))) ((kindsOf l ks).drop (a + m)) = R) := Lib.hid (by
                    have := HR5.out
                    rw [hjt2, Nat.sub_self, List.replicate_zero, List.nil_append, ← HEe.out] at this
                    exact this)
                  have hje : (j : Int) = (m : Int) := by omega
                  have hLe : (expand m (S.drop (p + 1))).length + (a + m) = ks.length := by rw [HEe.out]; omega
                  have HLe := Lib.hid hLe
                  have hm5 := iterPos_of hit5
                  clear HR5 hLe
                  go_wp2
                  go_roundw
                  case rel => exact ⟨p + 1, a + m, by rw [hjt2], by omega, hit5, by have := HLe.out; omega, HB5.out, HLe, HR6⟩
                  case measure =>
                    rw [iterPos_of hit2k, hm5]
                    omega
            · have hnx2 : ∀ h : p + 1 < S.length, S[p + 1] ≠ 42 := fun h e => hnext ⟨h, e⟩
              have HE := Lib.hid (exp_one (m := m) hps h42 hnx2)
              rw [HE.out] at HL2 HR2
              by_cases hq : p + 1 < S.length
              · have hqz : p + 1 < s.size := by have := Hsl.out; omega
                have hq1 : (p : Int) + 1 < (z : Int) := by omega
                have hb43 : ((s[p + 1]'hqz).toNat : Int) ≠ 42 := by
                  have h1 : s.data.toList[p + 1]'(by rw [HSl.out]; exact hq) = S[p + 1] := by simp only [HSl.out]
                  intro e
                  apply hnx2 hq
                  rw [← h1]
                  exact UInt8.toNat_inj.1 (show (s[p + 1]'hqz).toNat = 42 by omega)
                go_wp2
                clear HE
                have hLt : 1 + (expand m (S.drop (p + 1))).length + a = ks.length := by
                  have := HL2.out
                  rw [List.length_append, List.length_replicate] at this
                  exact this
                have HRt := HR2
                clear HR2 HL2
                rw [HSb.out] at HRt
                obtain ⟨E, hE⟩ : ∃ E, expand m (S.drop (p + 1)) = E := ⟨_, rfl⟩
                have HEe := Lib.hid hE
                rw [hE] at hLt HRt
                obtain ⟨cb, hcb⟩ : ∃ cb, s[p] = cb := ⟨_, rfl⟩
                rw [hcb] at HF HRt ⊢
                have hit2k := hit2
                clear hE hc hc1 hcl h42 hbe hnx hit2 HSb hcb
                go_loopw [8, 63] (fun at_ jv wr2 => ∃ (j : Nat), at_ = .int .i64 ((a + j : Nat) : Int) ∧ jv = .int .i64 (j : Int) ∧ j ≤ 1 ∧ wr2.heap[K]? = some (.stringIter s (p + 1)) ∧ Below K w2 wr2 ∧ Hid (allKids (List.replicate (1 - j) cb ++ E) ((kindsOf l ks).drop (a + j)) = R)) (fun _ jv _ => 1 - (intOf jv).toNat)
                case atStart => exact ⟨0, rfl, rfl, by omega, HW3, HB3.out, HRt⟩
                case round =>
                  obtain ⟨j, rfl, rfl, hj, hit5, hB5, HR5⟩ := hrel
                  have HB5 := Lib.hid hB5
                  clear hB5
                  by_cases hjt : j < 1
                  · have hji : (j : Int) < (1 : Int) := by omega
                    have hak : a + j < ks.length := by omega
                    have hbw := HB1.out.trans (HB5.out.mono hKw)
                    obtain ⟨g, o, hg1, hg2, z0⟩ := (HK.out _ hbw).at (a + j) hak
                    have hgl := Nat.lt_of_lt_of_le hg2 (Nat.le_refl _)
                    have hy := HO.out _ (List.getElem_mem hak)
                    have HD := Lib.hid (all_drop (c := cb) (p := List.replicate (1 - (j + 1)) cb ++ E) (l := l) hak)
                    rw [rep_drop hjt] at HR5
                    generalize ks[a + j] = y at z0 hy HD
                    obtain ⟨q, rfl⟩ : ∃ q : Nat, y = (q : Int) := ⟨y.toNat, by omega⟩
                    have hql : q < l.length := by omega
                    have hqi : (q : Int) < (l.length : Int) := by omega
                    have hq0 : (0 : Int) ≤ (q : Int) := by omega
                    obtain ⟨b, o2, kv2, hb1, hb2, d0, -⟩ := (HL.out _ hbw).at q hql
                    rw [kindAt_get hql] at HD
                    generalize l[q].kind = kd at d0 HD
                    have hc := HCk.out _ hbw
                    have e0 := hc.cell 0
                    have el := hc.lt
                    have hn := HN.out.below (hKe ▸ HB5.out) HN.out.lt
                    have n2 := hn.cell 2
                    have nl := hn.lt
                    have haj : ((a + j : Nat) : Int) < (ks.length : Int) := by omega
                    have haj0 : (0 : Int) ≤ ((a + j : Nat) : Int) := by omega
                    subst hg1 hb1
                    simp at e0 n2
                    have HFk := fun W => HF kd W
                    obtain ⟨bb, hbb⟩ : ∃ bb, kidB cb.toNat kd = bb := ⟨_, rfl⟩
                    rw [hbb] at HFk HD
                    clear hc hn hbw hbb HF hy
                    go_wp2
                    go_quiet ((go_at_call 104; exact quiet_left ((HFk _).out)))
                    have hit6 : (wr.drewN nq).heap[K]? = some (.stringIter s (p + 1)) := hit5
                    have HB6 : Hid (Below K w2 (wr.drewN nq)) := Lib.hid ⟨HB5.out.os, HB5.out.tape, HB5.out.output, HB5.out.size, fun k hk => HB5.out.block k hk⟩
                    clear hit5 HB5 n2 nl e0 el d0 z0 hg2 hb2 HFk
                    generalize wr.drewN nq = W4 at hit6 HB6 ⊢
                    cases bb
                    · have hRf : R = false := by rw [← HR5.out, HD.out]; rfl
                      clear HD HR5
                      subst hRf
                      go_wp2
                      go_ret
                      exact ⟨rfl, HB1.out.trans (HB6.out.mono hKw)⟩
                    · have HR6 : Hid (allKids (List.replicate (1 - (j + 1)) cb ++ E) ((kindsOf l ks).drop (a + (j + 1))) = R) := Lib.hid (by rw [← HR5.out, HD.out]; rfl)
                      clear HD HR5
                      go_wp2
                      go_roundw
                      case rel => exact ⟨j + 1, by go_num, by go_num, by omega, hit6, HB6.out, HR6⟩
                      case measure => simp [intOf]; omega
                  · have hjt2 : j = 1 := by omega
                    have HR6 : Hid (allKids (expand m (S.drop (p + 1))) ((kindsOf l ks).drop (a + 1)) = R) := Lib.hid (by
                      have := HR5.out
                      rw [hjt2, Nat.sub_self, List.replicate_zero, List.nil_append, ← HEe.out] at this
                      exact this)
                    have hje : (j : Int) = (1 : Int) := by omega
                    have hLe : (expand m (S.drop (p + 1))).length + (a + 1) = ks.length := by rw [HEe.out]; omega
                    have HLe := Lib.hid hLe
                    have hm5 := iterPos_of hit5
                    clear HR5 hLe
                    go_wp2
                    go_roundw
                    case rel => exact ⟨p + 1, a + 1, by rw [hjt2], by omega, hit5, by have := HLe.out; omega, HB5.out, HLe, HR6⟩
                    case measure =>
                      rw [iterPos_of hit2k, hm5]
                      omega
              · have hq1 : ¬ (p : Int) + 1 < (z : Int) := by have := Hsl.out; omega
                go_wp2
                clear HE
                have hLt : 1 + (expand m (S.drop (p + 1))).length + a = ks.length := by
                  have := HL2.out
                  rw [List.length_append, List.length_replicate] at this
                  exact this
                have HRt := HR2
                clear HR2 HL2
                rw [HSb.out] at HRt
                obtain ⟨E, hE⟩ : ∃ E, expand m (S.drop (p + 1)) = E := ⟨_, rfl⟩
                have HEe := Lib.hid hE
                rw [hE] at hLt HRt
                obtain ⟨cb, hcb⟩ : ∃ cb, s[p] = cb := ⟨_, rfl⟩
                rw [hcb] at HF HRt ⊢
                have hit2k := hit2
                clear hE hc hc1 hcl h42 hbe hnx hit2 HSb hcb
                go_loopw [8, 63] (fun at_ jv wr2 => ∃ (j : Nat), at_ = .int .i64 ((a + j : Nat) : Int) ∧ jv = .int .i64 (j : Int) ∧ j ≤ 1 ∧ wr2.heap[K]? = some (.stringIter s (p + 1)) ∧ Below K w2 wr2 ∧ Hid (allKids (List.replicate (1 - j) cb ++ E) ((kindsOf l ks).drop (a + j)) = R)) (fun _ jv _ => 1 - (intOf jv).toNat)
                case atStart => exact ⟨0, rfl, rfl, by omega, HW3, HB3.out, HRt⟩
                case round =>
                  obtain ⟨j, rfl, rfl, hj, hit5, hB5, HR5⟩ := hrel
                  have HB5 := Lib.hid hB5
                  clear hB5
                  by_cases hjt : j < 1
                  · have hji : (j : Int) < (1 : Int) := by omega
                    have hak : a + j < ks.length := by omega
                    have hbw := HB1.out.trans (HB5.out.mono hKw)
                    obtain ⟨g, o, hg1, hg2, z0⟩ := (HK.out _ hbw).at (a + j) hak
                    have hgl := Nat.lt_of_lt_of_le hg2 (Nat.le_refl _)
                    have hy := HO.out _ (List.getElem_mem hak)
                    have HD := Lib.hid (all_drop (c := cb) (p := List.replicate (1 - (j + 1)) cb ++ E) (l := l) hak)
                    rw [rep_drop hjt] at HR5
                    generalize ks[a + j] = y at z0 hy HD
                    obtain ⟨q, rfl⟩ : ∃ q : Nat, y = (q : Int) := ⟨y.toNat, by omega⟩
                    have hql : q < l.length := by omega
                    have hqi : (q : Int) < (l.length : Int) := by omega
                    have hq0 : (0 : Int) ≤ (q : Int) := by omega
                    obtain ⟨b, o2, kv2, hb1, hb2, d0, -⟩ := (HL.out _ hbw).at q hql
                    rw [kindAt_get hql] at HD
                    generalize l[q].kind = kd at d0 HD
                    have hc := HCk.out _ hbw
                    have e0 := hc.cell 0
                    have el := hc.lt
                    have hn := HN.out.below (hKe ▸ HB5.out) HN.out.lt
                    have n2 := hn.cell 2
                    have nl := hn.lt
                    have haj : ((a + j : Nat) : Int) < (ks.length : Int) := by omega
                    have haj0 : (0 : Int) ≤ ((a + j : Nat) : Int) := by omega
                    subst hg1 hb1
                    simp at e0 n2
                    have HFk := fun W => HF kd W
                    obtain ⟨bb, hbb⟩ : ∃ bb, kidB cb.toNat kd = bb := ⟨_, rfl⟩
                    rw [hbb] at HFk HD
                    clear hc hn hbw hbb HF hy
                    go_wp2
                    go_quiet ((go_at_call 104; exact quiet_left ((HFk _).out)))
                    have hit6 : (wr.drewN nq).heap[K]? = some (.stringIter s (p + 1)) := hit5
                    have HB6 : Hid (Below K w2 (wr.drewN nq)) := Lib.hid ⟨HB5.out.os, HB5.out.tape, HB5.out.output, HB5.out.size, fun k hk => HB5.out.block k hk⟩
                    clear hit5 HB5 n2 nl e0 el d0 z0 hg2 hb2 HFk
                    generalize wr.drewN nq = W4 at hit6 HB6 ⊢
                    cases bb
                    · have hRf : R = false := by rw [← HR5.out, HD.out]; rfl
                      clear HD HR5
                      subst hRf
                      go_wp2
                      go_ret
                      exact ⟨rfl, HB1.out.trans (HB6.out.mono hKw)⟩
                    · have HR6 : Hid (allKids (List.replicate (1 - (j + 1)) cb ++ E) ((kindsOf l ks).drop (a + (j + 1))) = R) := Lib.hid (by rw [← HR5.out, HD.out]; rfl)
                      clear HD HR5
                      go_wp2
                      go_roundw
                      case rel => exact ⟨j + 1, by go_num, by go_num, by omega, hit6, HB6.out, HR6⟩
                      case measure => simp [intOf]; omega
                  · have hjt2 : j = 1 := by omega
                    have HR6 : Hid (allKids (expand m (S.drop (p + 1))) ((kindsOf l ks).drop (a + 1)) = R) := Lib.hid (by
                      have := HR5.out
                      rw [hjt2, Nat.sub_self, List.replicate_zero, List.nil_append, ← HEe.out] at this
                      exact this)
                    have hje : (j : Int) = (1 : Int) := by omega
                    have hLe : (expand m (S.drop (p + 1))).length + (a + 1) = ks.length := by rw [HEe.out]; omega
                    have HLe := Lib.hid hLe
                    have hm5 := iterPos_of hit5
                    clear HR5 hLe
                    go_wp2
                    go_roundw
                    case rel => exact ⟨p + 1, a + 1, by rw [hjt2], by omega, hit5, by have := HLe.out; omega, HB5.out, HLe, HR6⟩
                    case measure =>
                      rw [iterPos_of hit2k, hm5]
                      omega
        · have hpe : p = z := by omega
          subst hpe
          have hnx : ∀ ty, (Instr.next (.pointer (some ⟨K, 0, none⟩)) true ty).run Tryz.prog wr = _ := fun ty => Lib.run_next_end_at wr K s p ty hit2 (by omega)
          have hRf : R = true := by
            have e1 : S.drop p = [] := List.drop_eq_nil_of_le (by rw [← Hsl.out]; exact Nat.le_refl _)
            have h1 := HL2.out
            have h2 := HR2.out
            rw [e1] at h1 h2
            have h3 : a = ks.length := by simpa [expand] using h1
            rw [List.drop_eq_nil_of_le (by simp [kindsOf, h3])] at h2
            exact h2.symm
          clear HL2 HR2
          subst hRf
          go_wp2
          go_ret
          exact ⟨rfl, HB1.out.trans (HB.out.mono hKw)⟩
end TreeD
end Go.Proofs.YtmdkocegnbcgmaaGreatDoor
