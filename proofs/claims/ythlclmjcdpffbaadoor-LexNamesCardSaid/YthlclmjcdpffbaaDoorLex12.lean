/- All tokens. -/
import Derived.Test.YthlclmjcdpffbaaDoorLex11
namespace Go.Proofs.YthlclmjcdpffbaaDoor
open Go.RowKit ObjM Go.Maps
namespace LexD

theorem stepB_le {l : List UInt8} {k : Nat} (h : stepB l = some k) : k ≤ l.length := by
  cases l with
  | nil => cases h
  | cons c r =>
    rw [stepB] at h
    split at h
    · injection h with h; subst h; simp
    · split at h
      · injection h with h
        rw [← h]
        exact (List.takeWhile_prefix _).length_le
      · cases h
theorem bodyK_le {l : List UInt8} {x : List UInt8} {n : Nat} : ∀ {k : Nat}, bodyK k l = some (x, n) → n ≤ l.length := by
  induction l generalizing x n with
  | nil => intro k h; cases k <;> cases h
  | cons c r ih =>
    intro k h
    cases k with
    | succ k =>
      rw [bodyK] at h
      cases h1 : bodyK k r with
      | none => rw [h1] at h; cases h
      | some y =>
        rw [h1] at h
        injection h with h; injection h with _ h
        have := ih (x := y.1) (n := y.2) h1
        simp; omega
    | zero =>
      rw [bodyK] at h
      split at h
      · injection h with h; injection h with _ h; simp; omega
      · split at h
        · cases h
        · cases h1 : bodyK (_ - 1) r with
          | none => rw [h1] at h; cases h
          | some y =>
            rw [h1] at h
            injection h with h; injection h with _ h
            have := ih (x := y.1) (n := y.2) h1
            simp; omega
theorem signN_le (l : List UInt8) : signN l ≤ l.length := by
  cases l with
  | nil => simp [signN]
  | cons c r =>
    simp only [signN]
    split
    · rename_i h
      have h2 : ((c :: r).take 2).length = 2 := by
        have hall : ∀ x ∈ SG, x.length = 2 := by decide
        exact hall _ h
      simp at h2
      simp; omega
    · split
      · simp
      · simp
theorem tokV_le {p k : Nat} {l : List UInt8} {t : Tok} (h : tokV p l = .ok (t, k)) : k ≤ l.length := by
  cases l with
  | nil => cases h
  | cons c r =>
    rw [tokV] at h
    split at h
    · injection h with h; injection h with _ h
      rw [← h]; exact runN_le _
    · split at h
      · split at h
        · injection h with h; injection h with _ h
          rw [← h]; exact runN_le _
        · cases h
      · split at h
        · split at h
          · rename_i x n e
            injection h with h; injection h with _ h
            have := bodyK_le e
            simp; omega
          · cases h
        · split at h
          · cases h
          · injection h with h; injection h with _ h
            rw [← h]; exact signN_le _
/-- The token at the end. -/
def endTok (s : ByteArray) : Tok := ⟨0, ⟨#[]⟩, s.size, s.size, 0⟩
inductive AllIs (w : World) (B : Nat) (s : ByteArray) : Ending → World → Prop
  | ok (ts : List Tok) (tv : Value) (w' : World) : scanV s = .ok ts → ts.length ≤ s.size → w'.ownsRow B 36 5 tv (ts.length + 1) (rowT (ts ++ [endTok s])) → Below B w w' → AllIs w B s (.returned tv) w'
  | err (p : Nat) (er : Int) (w' : World) : scanV s = .error (p, er) → p < s.size → Below B w w' → AllIs w B s (.panicked (panW p er)) w'
def atOf (w : World) (P : Nat) : Nat := (intOf ((w.cell? ⟨P, 1, none⟩).getD undef)).toNat
theorem Moved.atOf {w w1 : World} {B P m : Nat} {s : ByteArray} {p : Nat} {ts : List Tok} (h : Moved w B P m s (p : Int) ts w1) : LexD.atOf w1 P = p := by
  unfold LexD.atOf
  rw [h.cell1]
  simp [intOf]
set_option maxRecDepth 100000 in
set_option maxHeartbeats 4000000 in
theorem all_any (B P m : Nat) (s : ByteArray) (hs : s.size ≤ 100000) (w : World) (hBw : B ≤ w.heap.size) (tv : Value) (h : ScAt w B P m s 0 [] tv) :
    Calls Tryd.prog 22 #[.pointer (some ⟨P, 0, none⟩)] w (AllIs w B s) := by
  have hmf : ∀ (fn : Fn) (first cap : Array Value) (w : World), (Instr.makeFunc fn first cap).run Tryd.prog w = .ok (.func fn first cap) w := fun _ _ _ _ => rfl
  have HM0 : Hid (Moved w B P m s ((0 : Nat) : Int) [] (w.alloc (.cells (RD P).toArray 22))) := Lib.hid ((Moved.refl h).below hBw ((Below.refl _ w).alloc (Nat.le_refl _) _))
  have HR0 : Hid (Has (w.alloc (.cells (RD P).toArray 22)) w.heap.size 22 (RD P)) := Lib.hid (Has.new w 22 (RD P))
  have HS0 : Hid (scanV s = andTok [] (scanK 0 0 (s.data.toList.drop 0))) := Lib.hid (by rw [andTok_nil]; rfl)
  simp only [RD] at HM0 HR0
  clear h
  go_enter Tryd.func22, Tryd.ntmps22
  go_wp2
  clear hmf
  go_loopw [] (fun wr => ∃ (p : Nat) (ts : List Tok), p ≤ s.size ∧ ts.length ≤ p ∧ Hid (Moved w B P m s (p : Int) ts wr) ∧ Hid (Has wr w.heap.size 22 (RD P)) ∧ Hid (scanV s = andTok ts (scanK 0 p (s.data.toList.drop p)))) (fun wr => s.size - atOf wr P)
  case atStart => exact ⟨0, [], by omega, by simp, HM0, HR0, HS0⟩
  case round =>
    obtain ⟨p, ts, hp, hts, HM, HR, HS⟩ := hrel
    have a0 := HM.out.cell0
    have a1 := HM.out.cell1
    have aP := HM.out.lt
    have hat := HM.out.atOf
    by_cases hlt : p < s.size
    · have hi1 : (p : Int) < (s.size : Int) := by omega
      go_wp2
      go_quiet (fail)
      have HM1 := Lib.hid (HM.out.drewN nq)
      have HR1 := Lib.hid (HR.out.keeps (Keeps.drewN [] _ nq) (by simp))
      have HAt := Lib.hid hat
      generalize World.drewN _ nq = w2 at HM1 HR1 ⊢
      clear a0 a1 aP hat HM HR
      have HO : Hid (Calls Tryd.prog 40 #[.pointer (some ⟨P, 0, none⟩), .slice (some ⟨w.heap.size, 0, none⟩) 5 5] w2 (OneIs w2 B P m s p ts)) := Lib.hid (by
        obtain ⟨tv2, hsc⟩ := HM1.out.sc
        exact one_any B P m w.heap.size s p ts hs (by omega) hlt w2 (Nat.le_trans hBw HM1.out.size) tv2 hsc HR1.out)
      go_wp2_with fail
      refine (HO.out).mono ?_
      intro e w3 hone
      cases hone with
      | blank k _ hk hm =>
        have h1 := stepB_pos hk
        have h2 := stepB_le hk
        simp only [List.length_drop, Array.length_toList] at h2
        have h3 : k ≤ s.size - p := h2
        have HM3 := Lib.hid (HM1.out.after hm)
        have HR3 := Lib.hid (hm.has HR1.out)
        have HS3 : Hid (scanV s = andTok ts (scanK 0 (p + k) (s.data.toList.drop (p + k)))) := Lib.hid (by rw [HS.out, scan_blank h1 hk])
        have hat3 := HM3.out.atOf
        have HA3 := Lib.hid hat3
        clear h2 hk hm hat3
        go_wp2
        go_roundw
        case rel => exact ⟨p + k, ts, by omega, by omega, HM3, HR3, HS3⟩
        case measure => rw [HA3.out, HAt.out]; omega
      | tok t k _ hk ht hm =>
        have h1 := tokV_pos ht
        have h2 := tokV_le ht
        simp only [List.length_drop, Array.length_toList] at h2
        have h3 : k ≤ s.size - p := h2
        have HM3 := Lib.hid (HM1.out.after hm)
        have HR3 := Lib.hid (hm.has HR1.out)
        have HS3 : Hid (scanV s = andTok (ts ++ [t]) (scanK 0 (p + k) (s.data.toList.drop (p + k)))) := Lib.hid (by rw [HS.out, scan_tok h1 hk ht, andTok_snoc])
        have hat3 := HM3.out.atOf
        have HA3 := Lib.hid hat3
        clear h2 hk ht hm hat3
        go_wp2
        go_roundw
        case rel => exact ⟨p + k, ts ++ [t], by omega, by simp; omega, HM3, HR3, HS3⟩
        case measure => rw [HA3.out, HAt.out]; omega
      | err er _ hk ht hm =>
        have HE : Hid (scanV s = .error (p, er)) := Lib.hid (by rw [HS.out, scan_err hk ht (by simpa using hlt)]; rfl)
        have HB3 := Lib.hid (HM1.out.below_of hm)
        clear hk ht hm
        go_wp2
        exact ⟨rfl, .err p er _ HE.out hlt HB3.out⟩
      | no _ hk ht hm =>
        have HE : Hid (scanV s = .error (p, 50)) := Lib.hid (by rw [HS.out, scan_err hk ht (by simpa using hlt)]; rfl)
        have HM3 := Lib.hid (HM1.out.after hm)
        have a0 := HM3.out.cell0
        have a1 := HM3.out.cell1
        have aP := HM3.out.lt
        clear hk ht hm
        go_wp2
        exact ⟨rfl, .err p 50 _ HE.out hlt (by
          obtain ⟨_, _, _, h3⟩ := HM3.out
          exact h3)⟩
    · have hps : p = s.size := by omega
      have HE : Hid (scanV s = .ok ts) := Lib.hid (by
        rw [HS.out, scan_end (by simp; omega)]
        simp [andTok])
      have HMe := Lib.hid HM.out
      subst hps
      clear HM HS HR
      go_wp2
      go_quiet (fail)
      have HM1 := Lib.hid (HMe.out.drewN nq)
      generalize World.drewN _ nq = w2 at HM1 ⊢
      clear a0 a1 aP HMe
      have a1 := HM1.out.cell1
      have aP := HM1.out.lt
      have HPt := Lib.hid (put_moved HM1.out hBw (by omega) 0 (s.size : Int) 0 ⟨#[]⟩)
      go_wp2_with fail
      refine (HPt.out).mono ?_
      rintro e w3 ⟨rfl, hm⟩
      obtain ⟨tv3, hsc, hkt, hbl⟩ := hm
      have hl := hsc.obj.lt
      have hc3 := hsc.obj.cell 3
      simp at hc3
      have HR3 := Lib.hid hsc.row
      have HB3 := Lib.hid hbl
      clear hsc hkt hbl
      go_wp2
      go_ret
      refine .ok ts tv3 _ HE.out hts ?_ HB3.out
      have := HR3.out
      rw [List.length_append] at this
      exact this
end LexD
end Go.Proofs.YthlclmjcdpffbaaDoor
