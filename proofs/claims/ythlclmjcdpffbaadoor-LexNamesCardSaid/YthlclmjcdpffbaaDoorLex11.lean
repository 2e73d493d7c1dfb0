/- The readers, one after another. -/
import Derived.Test.YthlclmjcdpffbaaDoorLex10
import Derived.LoopN
namespace Go.Proofs.YthlclmjcdpffbaaDoor
open Go.RowKit ObjM Go.Maps
namespace LexD

theorem Moved.has {w w1 : World} {B P m : Nat} {s : ByteArray} {at_ : Int} {ts : List Tok} (h : Moved w B P m s at_ ts w1) {R : Nat} {cs : List Value} (hR : Has w R 22 cs) : Has w1 R 22 cs := by
  obtain ⟨tv, h1, h2, h3⟩ := h
  exact hR.keepsT h2 (by decide)
def RD (P : Nat) : List Value := [.func (.func 35) #[.pointer (some ⟨P, 0, none⟩)] #[], .func (.func 36) #[.pointer (some ⟨P, 0, none⟩)] #[], .func (.func 37) #[.pointer (some ⟨P, 0, none⟩)] #[], .func (.func 38) #[.pointer (some ⟨P, 0, none⟩)] #[], .func (.func 39) #[.pointer (some ⟨P, 0, none⟩)] #[]]
inductive OneIs (w : World) (B P m : Nat) (s : ByteArray) (p : Nat) (ts : List Tok) : Ending → World → Prop
  | blank (k : Nat) (w' : World) : stepB (s.data.toList.drop p) = some k → Moved w B P m s ((p + k : Nat) : Int) ts w' → OneIs w B P m s p ts (.returned (.bool true)) w'
  | tok (t : Tok) (k : Nat) (w' : World) : stepB (s.data.toList.drop p) = none → tokV p (s.data.toList.drop p) = .ok (t, k) → Moved w B P m s ((p + k : Nat) : Int) (ts ++ [t]) w' → OneIs w B P m s p ts (.returned (.bool true)) w'
  | err (er : Int) (w' : World) : stepB (s.data.toList.drop p) = none → tokV p (s.data.toList.drop p) = .error er → Below B w w' → OneIs w B P m s p ts (.panicked (panW p er)) w'
  | no (w' : World) : stepB (s.data.toList.drop p) = none → tokV p (s.data.toList.drop p) = .error 50 → Moved w B P m s (p : Int) ts w' → OneIs w B P m s p ts (.returned (.bool false)) w'
theorem sign_no {p : Nat} {s : ByteArray} (hp : p < s.size) (h0 : letB s[p].toNat = false) (h1 : digB s[p].toNat = false) (h2 : ¬ s[p] = 34) (h3 : signN (s.data.toList.drop p) = 0) : tokV p (s.data.toList.drop p) = .error 50 := by
  have e := drop_at hp
  rw [e] at h3
  have hk := tok_sign (p := p) (c := s[p]) (r := s.data.toList.drop (p + 1)) h0 h1 h2
  rw [h3, if_pos rfl] at hk
  rw [e]
  exact hk
theorem Moved.below_of {w w1 w2 : World} {B P m : Nat} {s : ByteArray} {at_ : Int} {ts : List Tok} (h : Moved w B P m s at_ ts w1) (hb : Below B w1 w2) : Below B w w2 := by
  obtain ⟨_, _, _, h3⟩ := h
  exact h3.trans hb
theorem Moved.sc {w w1 : World} {B P m : Nat} {s : ByteArray} {at_ : Int} {ts : List Tok} (h : Moved w B P m s at_ ts w1) : ∃ tv, ScAt w1 B P m s at_ ts tv := by
  obtain ⟨tv, h1, _⟩ := h
  exact ⟨tv, h1⟩
set_option maxRecDepth 100000 in
set_option maxHeartbeats 4000000 in
theorem one_any (B P m R : Nat) (s : ByteArray) (p : Nat) (ts : List Tok) (hs : s.size ≤ 100000) (hts : ts.length ≤ 1000000) (hp : p < s.size) (w : World) (hBw : B ≤ w.heap.size) (tv : Value) (h : ScAt w B P m s p ts tv) (hR : Has w R 22 (RD P)) :
    Calls Tryd.prog 40 #[.pointer (some ⟨P, 0, none⟩), .slice (some ⟨R, 0, none⟩) 5 5] w (OneIs w B P m s p ts) := by
  have HB := Lib.hid (blank_any B P m s p ts hs hp w tv h)
  have HN := fun (W : World) (hW : Moved w B P m s p ts W) => Lib.hid (by
    obtain ⟨tv, hsc⟩ := hW.sc
    exact name_any B P m s p ts hs hts hp W (Nat.le_trans hBw hW.size) tv hsc)
  have HD := fun (W : World) (hW : Moved w B P m s p ts W) h1 => Lib.hid (by
    obtain ⟨tv, hsc⟩ := hW.sc
    exact digits_any B P m s p ts hs hts hp h1 W (Nat.le_trans hBw hW.size) tv hsc)
  have HQ := fun (W : World) (hW : Moved w B P m s p ts W) h1 h2 => Lib.hid (by
    obtain ⟨tv, hsc⟩ := hW.sc
    exact quoted_any B P m s p ts hs hts hp h1 h2 W (Nat.le_trans hBw hW.size) tv hsc)
  have HS := fun (W : World) (hW : Moved w B P m s p ts W) h1 h2 h3 => Lib.hid (by
    obtain ⟨tv, hsc⟩ := hW.sc
    exact sign_any B P m s p ts hs hts hp h1 h2 h3 W (Nat.le_trans hBw hW.size) tv hsc)
  have HNo := Lib.hid (sign_no hp)
  have HRR := Lib.hid hR
  have r0 := hR.cell 0
  have rl := hR.lt
  simp [RD] at r0
  clear h hR
  go_enter Tryd.func40, Tryd.ntmps40
  go_wp2
  refine wp_loop_rounds 6 ?_
  rw [rounds_succ]
  go_wp2_with fail
  refine (HB.out).mono ?_
  rintro e w1 (⟨k, hk, rfl, hm⟩ | ⟨hk, rfl, hm⟩)
  · go_wp2
    go_ret
    exact .blank k _ hk hm
  have HK := Lib.hid hk
  have HM := Lib.hid hm
  have r1 := (hm.has HRR.out).cell 1
  have rl := (hm.has HRR.out).lt
  simp [RD] at r1
  clear hk hm
  go_wp2
  rw [rounds_succ]
  go_wp2_with fail
  refine ((HN _ HM.out).out).mono ?_
  rintro e w2 (⟨t, k, hc, ht, rfl, hm⟩ | ⟨er, hc, ht, rfl, hm⟩ | ⟨hc, rfl, hm⟩)
  · go_wp2
    go_ret
    exact .tok t k _ HK.out ht (HM.out.after hm)
  · go_wp2
    exact ⟨rfl, .err er _ HK.out ht (HM.out.below_of hm)⟩
  have HL := Lib.hid hc
  have HM2 := Lib.hid (HM.out.after hm)
  have r2 := (HM2.out.has HRR.out).cell 2
  have rl := (HM2.out.has HRR.out).lt
  simp [RD] at r2
  clear hc hm
  go_wp2
  rw [rounds_succ]
  go_wp2_with fail
  refine ((HD _ HM2.out HL.out).out).mono ?_
  rintro e w3 (⟨t, k, hc, ht, rfl, hm⟩ | ⟨er, hc, ht, rfl, hm⟩ | ⟨hc, rfl, hm⟩)
  · go_wp2
    go_ret
    exact .tok t k _ HK.out ht (HM2.out.after hm)
  · go_wp2
    exact ⟨rfl, .err er _ HK.out ht (HM2.out.below_of hm)⟩
  have HDg := Lib.hid hc
  have HM3 := Lib.hid (HM2.out.after hm)
  have r3 := (HM3.out.has HRR.out).cell 3
  have rl := (HM3.out.has HRR.out).lt
  simp [RD] at r3
  clear hc hm
  go_wp2
  rw [rounds_succ]
  go_wp2_with fail
  refine ((HQ _ HM3.out HL.out HDg.out).out).mono ?_
  rintro e w4 (⟨t, k, hc, ht, rfl, hm⟩ | ⟨er, hc, ht, rfl, hm⟩ | ⟨hc, rfl, hm⟩)
  · go_wp2
    go_ret
    exact .tok t k _ HK.out ht (HM3.out.after hm)
  · go_wp2
    exact ⟨rfl, .err er _ HK.out ht (HM3.out.below_of hm)⟩
  have HQt := Lib.hid hc
  have HM4 := Lib.hid (HM3.out.after hm)
  have r4 := (HM4.out.has HRR.out).cell 4
  have rl := (HM4.out.has HRR.out).lt
  simp [RD] at r4
  clear hc hm
  go_wp2
  rw [rounds_succ]
  go_wp2_with fail
  refine ((HS _ HM4.out HL.out HDg.out (of_decide_eq_false HQt.out)).out).mono ?_
  rintro e w5 (⟨t, k, hc, ht, rfl, hm⟩ | ⟨er, hc, ht, rfl, hm⟩ | ⟨hc, rfl, hm⟩)
  · go_wp2
    go_ret
    exact .tok t k _ HK.out ht (HM4.out.after hm)
  · go_wp2
    exact ⟨rfl, .err er _ HK.out ht (HM4.out.below_of hm)⟩
  have HE := HNo.out HL.out HDg.out (of_decide_eq_false HQt.out) (by simpa using of_decide_eq_false hc)
  have HM5 := Lib.hid (HM4.out.after hm)
  clear hc hm
  go_wp2
  rw [rounds_succ]
  go_wp2
  go_ret
  exact .no _ HK.out HE HM5.out
end LexD
end Go.Proofs.YthlclmjcdpffbaaDoor
