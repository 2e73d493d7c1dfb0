/- The reader of numbers. -/
import Derived.Test.YthlclmjcdpffbaaDoorLex6
namespace Go.Proofs.YthlclmjcdpffbaaDoor
open Go.RowKit ObjM Go.Maps
namespace LexD

set_option maxHeartbeats 1000000 in
theorem lexNumber_any (s : ByteArray) (w : World) (hs : s.size ≤ 9223372036854775807) :
    Calls Tryd.prog 54 #[.string s] w fun e w' => e = .returned (.tuple #[.int .i64 (NumM.numV s.data.toList).1, .bool (NumM.numV s.data.toList).2]) ∧ Below w.heap.size w w' := by
  have HN := fun W => Lib.hid (NumD.number_any s W hs)
  obtain ⟨a, ha⟩ : ∃ a, (NumM.numV s.data.toList).1 = a := ⟨_, rfl⟩
  obtain ⟨b, hb⟩ : ∃ b, (NumM.numV s.data.toList).2 = b := ⟨_, rfl⟩
  rw [ha, hb] at HN ⊢
  clear ha hb
  go_enter Tryd.func54, Tryd.ntmps54
  go_wp2_with fail
  refine ((HN _).out).mono ?_
  rintro e w1 ⟨rfl, hb1⟩
  go_wp2
  go_ret2
  exact ⟨rfl, hb1⟩
set_option maxRecDepth 100000 in
set_option maxHeartbeats 4000000 in
theorem digits_any (B P m : Nat) (s : ByteArray) (p : Nat) (ts : List Tok) (hs : s.size ≤ 100000) (hts : ts.length ≤ 1000000) (hp : p < s.size) (hlb : letB s[p].toNat = false) (w : World) (hBw : B ≤ w.heap.size) (tv : Value) (h : ScAt w B P m s p ts tv) :
    Calls Tryd.prog 37 #[.pointer (some ⟨P, 0, none⟩)] w (Took (digB s[p].toNat) w B P m s p ts) := by
  obtain ⟨R, hR, hRl, hRs, hR0, hRp⟩ := rest_of hp
  have HL := fun W => Lib.hid (digit_any (s[p].toNat : Int) W)
  have HR := fun W => Lib.hid (run_any R (by omega) W)
  have hrs := runN_list R
  have hk := tok_num (p := p) (c := s[p]) (r := s.data.toList.drop (p + 1)) hlb
  rw [← drop_at hp] at hk
  have HX := Lib.hid (ext_bytes s p (runN R.data.toList))
  rw [hR, hRl] at HX
  have HM := Lib.hid (Moved.refl h)
  have a0 := HM.out.cell0
  have a1 := HM.out.cell1
  have aP := HM.out.lt
  have hi0 : (p : Int) < (s.size : Int) := by omega
  have hi1 : (p : Int) ≤ (s.size : Int) := by omega
  obtain ⟨b, hb⟩ : ∃ b, digB (s[p].toNat : Int) = b := ⟨_, rfl⟩
  rw [hb] at HL hk ⊢
  rw [hRl] at HR hrs
  obtain ⟨k, hkk⟩ : ∃ k, runN (s.data.toList.drop p) = k := ⟨_, rfl⟩
  rw [hkk] at HR hrs HX hk
  clear h hkk hb hlb
  cases b
  · clear hk
    go_enter Tryd.func37, Tryd.ntmps37
    go_wp2
    go_quiet ((go_at_call 46; exact quiet_left ((HL _).out)))
    have HM1 := Lib.hid (HM.out.drewN nq)
    generalize World.drewN _ nq = w1 at HM1 ⊢
    go_wp2
    go_ret
    exact Took.no HM1.out
  · have HK := Lib.hid (hk rfl)
    clear hk
    obtain ⟨T, hT⟩ : ∃ T, R.extract 0 k = T := ⟨_, rfl⟩
    have hTs : T.size = k := by rw [← hT]; simp; omega
    have HTl : Hid (T.data.toList = (s.data.toList.drop p).take k) := Lib.hid (by rw [← hT]; rw [ext_toList, hRl]; simp)
    rw [hT] at HR HX
    rw [← HX.out, ← HTl.out] at HK
    have HN := fun W => Lib.hid (lexNumber_any T W (by omega))
    obtain ⟨n, hn⟩ : ∃ a, (NumM.numV T.data.toList).1 = a := ⟨_, rfl⟩
    obtain ⟨ok, hok⟩ : ∃ b, (NumM.numV T.data.toList).2 = b := ⟨_, rfl⟩
    rw [hn, hok] at HN HK
    clear hT HTl HX hn hok
    go_enter Tryd.func37, Tryd.ntmps37
    go_wp2
    go_quiet ((go_at_call 46; exact quiet_left ((HL _).out)))
    have HM1 := Lib.hid (HM.out.drewN nq)
    generalize World.drewN _ nq = w1 at HM1 ⊢
    clear a0 a1 aP HM
    have a0 := HM1.out.cell0
    have a1 := HM1.out.cell1
    have aP := HM1.out.lt
    go_wp2
    go_quiet ((go_at_call 26; exact quiet_left ((HR _).out)))
    have HM2 := Lib.hid (HM1.out.drewN nq)
    generalize World.drewN _ nq = w2 at HM2 ⊢
    clear a0 a1 aP HM1
    go_wp2_with fail
    refine ((HN _).out).mono ?_
    rintro e w3 ⟨rfl, hb3⟩
    have HM3 := Lib.hid (HM2.out.below hBw hb3)
    clear hb3 HM2
    have a0 := HM3.out.cell0
    have a1 := HM3.out.cell1
    have aP := HM3.out.lt
    have HPt := Lib.hid (put_moved HM3.out hBw hts 3 ((p : Int) + (k : Int)) n T)
    cases ok
    · go_wp2
      exact ⟨rfl, Took.err HK.out (by
        obtain ⟨_, _, _, h3⟩ := HM3.out
        exact h3)⟩
    · go_wp2_with fail
      refine (HPt.out).mono ?_
      rintro e w4 ⟨rfl, hm⟩
      have HM4 := Lib.hid hm
      clear hm
      go_wp2
      go_ret
      exact Took.yes HK.out HM4.out
end LexD
end Go.Proofs.YthlclmjcdpffbaaDoor
