/- The statement LexSpans. -/
import Derived.Test.YthlclmjcdpffbaaDoorLex22
namespace Go.Proofs.YthlclmjcdpffbaaDoor
open Go.RowKit ObjM Go.Maps Go.ChangeShapes
namespace LexD

/-- Tokens stand one behind the other, and are what stands there. -/
def GoodS (s : ByteArray) : Nat → List Tok → Prop
  | _, [] => True
  | last, t :: r => ∃ lo hi : Nat, t.lo = (lo : Int) ∧ t.hi = (hi : Int) ∧ last ≤ lo ∧ lo ≤ hi ∧ hi ≤ s.size ∧ (t.kind ≠ 4 → t.text = s.extract lo hi) ∧ GoodS s hi r
theorem GoodS.mono {s : ByteArray} {a b : Nat} {l : List Tok} (h : GoodS s a l) (hb : b ≤ a) : GoodS s b l := by
  cases l with
  | nil => trivial
  | cons t r =>
    obtain ⟨lo, hi, h1, h2, h3, h4⟩ := h
    exact ⟨lo, hi, h1, h2, by omega, h4⟩
theorem ext_at (s : ByteArray) (p k : Nat) : bytes ((s.data.toList.drop p).take k) = s.extract p (p + k) := by
  rw [← bytes_toList (s.extract p (p + k)), ext_toList]
  simp
theorem tok_text {s : ByteArray} {p k : Nat} {t : Tok} (h : tokV p (s.data.toList.drop p) = .ok (t, k)) : t.lo = p ∧ t.hi = (p : Int) + (k : Int) ∧ (t.kind ≠ 4 → t.text = s.extract p (p + k)) := by
  cases e : s.data.toList.drop p with
  | nil => rw [e] at h; cases h
  | cons c r =>
    rw [e, tokV] at h
    split at h
    · injection h with h; injection h with h1 h2
      subst h1 h2
      refine ⟨rfl, rfl, fun _ => ?_⟩
      rw [← ext_at, e]
    · split at h
      · split at h
        · injection h with h; injection h with h1 h2
          subst h1 h2
          refine ⟨rfl, rfl, fun _ => ?_⟩
          rw [← ext_at, e]
        · cases h
      · split at h
        · split at h
          · injection h with h; injection h with h1 h2
            subst h1 h2
            exact ⟨rfl, rfl, fun h => absurd rfl h⟩
          · cases h
        · split at h
          · cases h
          · injection h with h; injection h with h1 h2
            subst h1 h2
            refine ⟨rfl, rfl, fun _ => ?_⟩
            rw [← ext_at, e]
theorem good_scan (s : ByteArray) : ∀ (n p : Nat) (ts : List Tok), s.size - p = n → p ≤ s.size → scanK 0 p (s.data.toList.drop p) = .ok ts → GoodS s p (ts ++ [endTok s]) := by
  intro n
  induction n using Nat.strongRecOn with
  | _ n ih =>
    intro p ts hn hp h
    by_cases hlt : p < s.size
    · cases hb : stepB (s.data.toList.drop p) with
      | some k =>
        have h1 := stepB_pos hb
        have h2 := stepB_le hb
        have h2' : k ≤ s.size - p := by simpa using h2
        rw [scan_blank h1 hb] at h
        exact (ih (s.size - (p + k)) (by omega) (p + k) ts rfl (by omega) h).mono (by omega)
      | none =>
        cases ht : tokV p (s.data.toList.drop p) with
        | error e => rw [scan_err hb ht (by simpa using hlt)] at h; cases h
        | ok x =>
          obtain ⟨t, k⟩ := x
          have h1 := tokV_pos ht
          have h2 := tokV_le ht
          have h2' : k ≤ s.size - p := by simpa using h2
          rw [scan_tok h1 hb ht] at h
          cases hr : scanK 0 (p + k) (s.data.toList.drop (p + k)) with
          | error e => rw [hr] at h; cases h
          | ok us =>
            rw [hr] at h
            injection h with h
            subst h
            obtain ⟨e1, e2, e3⟩ := tok_text ht
            refine ⟨p, p + k, e1, by rw [e2]; omega, Nat.le_refl _, by omega, by omega, e3, ?_⟩
            exact ih (s.size - (p + k)) (by omega) (p + k) us rfl (by omega) hr
    · have hps : p = s.size := by omega
      rw [scan_end (by simp; omega)] at h
      injection h with h
      subst h
      refine ⟨s.size, s.size, rfl, rfl, hp, Nat.le_refl _, Nat.le_refl _, fun _ => ?_, trivial⟩
      rw [← bytes_toList (s.extract s.size s.size), ext_toList]
      simp [endTok, bytes]
theorem good_all {s : ByteArray} {ts : List Tok} (h : scanV s = .ok ts) : GoodS s 0 (scanL s ts) := good_scan s _ 0 ts rfl (by omega) h
theorem good_drop {s : ByteArray} {l : List Tok} {k last : Nat} (hk : k < l.length) (h : GoodS s last (l.drop k)) :
    ∃ lo hi : Nat, l[k].lo = (lo : Int) ∧ l[k].hi = (hi : Int) ∧ last ≤ lo ∧ lo ≤ hi ∧ hi ≤ s.size ∧ (l[k].kind ≠ 4 → l[k].text = s.extract lo hi) ∧ GoodS s hi (l.drop (k + 1)) := by
  rw [List.drop_eq_getElem_cons hk] at h
  exact h
theorem tok_err_ne {p : Nat} {l : List UInt8} {e : Int} (h : tokV p l = .error e) : e ≠ 0 := by
  cases l with
  | nil => injection h with h; omega
  | cons c r =>
    rw [tokV] at h
    split at h
    · cases h
    · split at h
      · split at h
        · cases h
        · injection h with h; omega
      · split at h
        · split at h
          · cases h
          · injection h with h; omega
        · split at h
          · injection h with h; omega
          · cases h
theorem scan_err_ne : ∀ (l : List UInt8) (k p q : Nat) (e : Int), scanK k p l = .error (q, e) → e ≠ 0 := by
  intro l
  induction l with
  | nil => intro k p q e h; rw [scanK_nil] at h; cases h
  | cons c r ih =>
    intro k p q e h
    cases k with
    | succ k => exact ih k (p + 1) q e h
    | zero =>
      rw [scanK] at h
      split at h
      · exact ih _ _ q e h
      · split at h
        · rename_i h2
          injection h with h
          injection h with _ h
          subst h
          exact tok_err_ne h2
        · split at h
          · rename_i h2
            injection h with h
            subst h
            exact ih _ _ q e h2
          · cases h
theorem err_ne {s : ByteArray} {p : Nat} {e : Int} (h : scanV s = .error (p, e)) : e ≠ 0 := scan_err_ne _ _ _ _ _ h
set_option maxRecDepth 100000 in
set_option maxHeartbeats 8000000 in
theorem lexSpans_u (s : ByteArray) (hs : s.size ≤ 9223372036854775807) (w : World) (hT : WTab w) :
    Calls Tryd.prog 8 #[.string s] w fun e w' => e = .returned (.bool true) ∧ Below w.heap.size w w' := by
  have HA := Lib.hid (awake_any w hT)
  have HT := Lib.hid hT
  clear hT
  by_cases h5 : 5000 < s.size
  · have h5i : (5000 : Int) < (s.size : Int) := by omega
    go_enter Tryd.func8, Tryd.ntmps8
    go_wp2_with fail
    refine (HA.out).mono ?_
    rintro e w1 ⟨rfl, hb⟩
    go_wp2
    go_ret
    exact ⟨rfl, hb⟩
  · have h5i : ¬ (5000 : Int) < (s.size : Int) := by omega
    have HS := fun W (h : WTab W) => Lib.hid (scan_any s W h)
    go_enter Tryd.func8, Tryd.ntmps8
    go_wp2_with fail
    refine (HA.out).mono ?_
    rintro e w1 ⟨rfl, hb⟩
    have HB := Lib.hid hb
    clear hb
    go_wp2_with fail
    refine ((HS _ (HT.out.below HB.out)).out).mono ?_
    intro e w2 h1
    cases h1 with
    | long _ h _ => omega
    | err p er _ _ hv hp hb =>
      have HB2 := Lib.hid (HB.out.trans (hb.mono HB.out.size))
      have her : (er != 0) = true := by
        have := err_ne hv
        simpa using this
      have hpi : (p : Int) < (s.size : Int) := by omega
      clear hb hv
      go_wp2
      go_ret
      exact ⟨rfl, HB2.out⟩
    | ok ts tv _ hsz hv hl hrow hb =>
      have HB2 := Lib.hid (HB.out.trans (hb.mono HB.out.size))
      have hlen := scanL_len s ts
      have HTk := Lib.hid (tks_of_own hlen hrow)
      have HG := Lib.hid (good_all hv)
      have HLast : Hid (∀ h : ts.length < (scanL s ts).length, (scanL s ts)[ts.length] = endTok s) := Lib.hid (fun h => by simp [scanL])
      obtain ⟨L, hL⟩ : ∃ L, scanL s ts = L := ⟨_, rfl⟩
      obtain ⟨n, hn⟩ : ∃ n, ts.length = n := ⟨_, rfl⟩
      rw [hL] at HTk HG HLast hlen
      rw [hn] at HLast hlen hl
      obtain ⟨av, cv, hvv⟩ := HTk.out.shape
      subst hvv
      clear hb hrow hv hL hn
      go_wp2
      go_loopw [37, 6] (fun i la wr => ∃ (k last : Nat), i = .int .i64 (k : Int) ∧ la = .int .i64 (last : Int) ∧ k ≤ L.length ∧ Below w.heap.size w wr ∧ Hid (Below w2.heap.size w2 wr) ∧ Hid (GoodS s last (L.drop k))) (fun i _ _ => L.length - (intOf i).toNat)
      case atStart => exact ⟨0, 0, rfl, rfl, by omega, HB2.out, Lib.hid (Below.refl _ _), HG⟩
      case round =>
        obtain ⟨k, last, rfl, rfl, hk, hBr, HBr, HGr⟩ := hrel
        have HB3 := Lib.hid hBr
        have hszr := hBr.size
        clear hBr
        by_cases hlt : k < L.length
        · have hi1 : (k : Int) < (L.length : Int) := by omega
          obtain ⟨b1, rfl, hb1, c0, c1, c2, c3, c4⟩ := (HTk.out.below HBr.out).at k hlt
          obtain ⟨lo, hi, e1, e2, g1, g2, g3, g4, g5⟩ := good_drop hlt HGr.out
          have HG5 := Lib.hid g5
          rw [e1] at c2
          rw [e2] at c3
          generalize L[k] = t at c0 c1 c4 g4
          obtain ⟨t0, t1, t2, t3, t4⟩ := t
          simp only at c0 c1 c4 g4
          have j1 : ¬ (lo : Int) < (last : Int) := by omega
          have j2 : ¬ (hi : Int) < (lo : Int) := by omega
          have j3 : ¬ (s.size : Int) < (hi : Int) := by omega
          have k1 : decide (lo < last) = false := decide_eq_false (by omega)
          have k2 : decide (hi < lo) = false := decide_eq_false (by omega)
          have k3 : decide (s.size < hi) = false := decide_eq_false (by omega)
          have j4 : (lo : Int) ≤ (hi : Int) := by omega
          have j5 : (hi : Int) ≤ (s.size : Int) := by omega
          have HBn : Hid (Below w.heap.size w (wr.alloc (.cells #[.int .i64 t0, .string t1, .int .i64 (lo : Int), .int .i64 (hi : Int), .int .i64 t4] 36))) := Lib.hid (HB3.out.alloc hszr _)
          have HBm : Hid (Below w2.heap.size w2 (wr.alloc (.cells #[.int .i64 t0, .string t1, .int .i64 (lo : Int), .int .i64 (hi : Int), .int .i64 t4] 36))) := Lib.hid (HBr.out.alloc HBr.out.size _)
          clear e1 e2 g5 HG HGr HS
          by_cases hk4 : t0 = 4
          · subst hk4
            clear g4
            go_wp2
            have hN := Has.new wr 36 [.int .i64 4, .string t1, .int .i64 (lo : Int), .int .i64 (hi : Int), .int .i64 t4]
            change Code.wp _ _ _ _ (World.alloc wr _)
            generalize World.alloc wr (.cells #[.int .i64 4, .string t1, .int .i64 (lo : Int), .int .i64 (hi : Int), .int .i64 t4] 36) = w5 at hN HBn HBm ⊢
            generalize wr.heap.size = N at hN ⊢
            have d0 := hN.cell 0
            have d1 := hN.cell 1
            have d2 := hN.cell 2
            have d3 := hN.cell 3
            have dl := hN.lt
            simp at d0 d1 d2 d3
            clear hN c0 c1 c2 c3 c4 hb1
            go_quiet (fail)
            have HBn2 := Lib.hid (TraceD.below_drewN HBn.out nq)
            have HBm2 := Lib.hid (TraceD.below_drewN HBm.out nq)
            have y3 : (w5.drewN nq).cell? ⟨N, 3, none⟩ = some (.int .i64 (hi : Int)) := by simpa using d3
            generalize World.drewN w5 nq = w6 at HBn2 HBm2 y3 ⊢
            clear d0 d1 d2 d3 dl HBn HBm
            go_wp2
            go_roundw
            case rel => exact ⟨k + 1, hi, by go_num, rfl, by omega, HBn2.out, HBm2, HG5⟩
            case measure => simp [intOf]; omega
          · have hk4b : (t0 != 4) = true := by simpa using hk4
            have hT := g4 hk4
            subst hT
            clear g4
            go_wp2
            have hN := Has.new wr 36 [.int .i64 t0, .string (s.extract lo hi), .int .i64 (lo : Int), .int .i64 (hi : Int), .int .i64 t4]
            change Code.wp _ _ _ _ (World.alloc wr _)
            generalize World.alloc wr (.cells #[.int .i64 t0, .string (s.extract lo hi), .int .i64 (lo : Int), .int .i64 (hi : Int), .int .i64 t4] 36) = w5 at hN HBn HBm ⊢
            generalize wr.heap.size = N at hN ⊢
            have d0 := hN.cell 0
            have d1 := hN.cell 1
            have d2 := hN.cell 2
            have d3 := hN.cell 3
            have dl := hN.lt
            simp at d0 d1 d2 d3
            clear hN c0 c1 c2 c3 c4 hb1
            go_quiet (fail)
            have HBn2 := Lib.hid (TraceD.below_drewN HBn.out nq)
            have HBm2 := Lib.hid (TraceD.below_drewN HBm.out nq)
            have y3 : (w5.drewN nq).cell? ⟨N, 3, none⟩ = some (.int .i64 (hi : Int)) := by simpa using d3
            generalize World.drewN w5 nq = w6 at HBn2 HBm2 y3 ⊢
            clear d0 d1 d2 d3 dl HBn HBm
            go_wp2
            go_roundw
            case rel => exact ⟨k + 1, hi, by go_num, rfl, by omega, HBn2.out, HBm2, HG5⟩
            case measure => simp [intOf]; omega
        · have hkl : k = L.length := by omega
          obtain ⟨b1, rfl, hb1, c0, c1, c2, c3, c4⟩ := (HTk.out.below HBr.out).at n (by omega)
          have he := HLast.out (by omega)
          rw [he] at c0 c1 c2 c3 c4
          simp only [endTok] at c0 c1 c2 c3 c4
          have HQ2 := fun W => eqTok W 0 (s.size : Int) (s.size : Int) 0 ⟨#[]⟩
          subst hkl
          clear he HGr HG HS HLast
          simp only [hlen]
          go_wp2
          go_ret
          exact ⟨rfl, HB3.out⟩
end LexD
end Go.Proofs.YthlclmjcdpffbaaDoor
