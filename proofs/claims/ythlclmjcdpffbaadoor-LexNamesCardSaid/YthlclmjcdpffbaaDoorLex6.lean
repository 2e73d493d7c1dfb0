/- The readers of names and of numbers. -/
import Derived.Test.YthlclmjcdpffbaaDoorLex5
import Derived.Test.YthlclmjcdpffbaaDoorNumRead
namespace Go.Proofs.YthlclmjcdpffbaaDoor
open Go.RowKit ObjM Go.Maps
namespace LexD

def panW (at_ e : Int) : List PanicEntry := [{ v := .iface 38 (.agg #[.int .i64 at_, .int .i64 e]), recovered := false }]
/-- What a reader comes to that takes a token wherever c. -/
def Took (c : Bool) (w : World) (B P m : Nat) (s : ByteArray) (p : Nat) (ts : List Tok) (e : Ending) (w' : World) : Prop :=
  (∃ (t : Tok) (k : Nat), c = true ∧ tokV p (s.data.toList.drop p) = .ok (t, k) ∧ e = .returned (.bool true) ∧ Moved w B P m s ((p + k : Nat) : Int) (ts ++ [t]) w') ∨
  (∃ er : Int, c = true ∧ tokV p (s.data.toList.drop p) = .error er ∧ e = .panicked (panW p er) ∧ Below B w w') ∨
  (c = false ∧ e = .returned (.bool false) ∧ Moved w B P m s (p : Int) ts w')
theorem Took.no {w w' : World} {B P m : Nat} {s : ByteArray} {p : Nat} {ts : List Tok} (h : Moved w B P m s (p : Int) ts w') : Took false w B P m s p ts (.returned (.bool false)) w' := .inr (.inr ⟨rfl, rfl, h⟩)
theorem Took.yes {w w' : World} {B P m : Nat} {s : ByteArray} {p k : Nat} {ts : List Tok} {t : Tok} (h0 : tokV p (s.data.toList.drop p) = .ok (t, k)) (h : Moved w B P m s ((p : Int) + (k : Int)) (ts ++ [t]) w') : Took true w B P m s p ts (.returned (.bool true)) w' :=
  .inl ⟨t, k, rfl, h0, rfl, by rw [Int.natCast_add]; exact h⟩
theorem Took.err {w w' : World} {B P m : Nat} {s : ByteArray} {p : Nat} {ts : List Tok} {er : Int} (h0 : tokV p (s.data.toList.drop p) = .error er) (h : Below B w w') : Took true w B P m s p ts (.panicked (panW p er)) w' := .inr (.inl ⟨er, rfl, h0, rfl, h⟩)
theorem runN_list (R : ByteArray) : runN R.data.toList ≤ R.size := by
  have := runN_le R.data.toList
  simpa using this
theorem tok_name {p : Nat} {c : UInt8} {r : List UInt8} (h : letB c.toNat = true) : tokV p (c :: r) = .ok (⟨if wordB 18 ((c :: r).take (runN (c :: r))) = true then 2 else 1, bytes ((c :: r).take (runN (c :: r))), p, p + runN (c :: r), 0⟩, runN (c :: r)) := by
  rw [tokV, if_pos h]
theorem tok_num {p : Nat} {c : UInt8} {r : List UInt8} (h0 : letB c.toNat = false) (h : digB c.toNat = true) : tokV p (c :: r) = if (NumM.numV ((c :: r).take (runN (c :: r)))).2 = true then .ok (⟨3, bytes ((c :: r).take (runN (c :: r))), p, p + runN (c :: r), (NumM.numV ((c :: r).take (runN (c :: r)))).1⟩, runN (c :: r)) else .error 51 := by
  rw [tokV, if_neg (by simp [h0]), if_pos h]
  split
  · rename_i e
    rw [e]
    rfl
  · rename_i e
    rw [e]
    rfl
set_option maxRecDepth 100000 in
set_option maxHeartbeats 4000000 in
theorem name_any (B P m : Nat) (s : ByteArray) (p : Nat) (ts : List Tok) (hs : s.size ≤ 100000) (hts : ts.length ≤ 1000000) (hp : p < s.size) (w : World) (hBw : B ≤ w.heap.size) (tv : Value) (h : ScAt w B P m s p ts tv) :
    Calls Tryd.prog 36 #[.pointer (some ⟨P, 0, none⟩)] w (Took (letB s[p].toNat) w B P m s p ts) := by
  obtain ⟨R, hR, hRl, hRs, hR0, hRp⟩ := rest_of hp
  have HL := fun W => Lib.hid (letter_any (s[p].toNat : Int) W)
  have HR := fun W => Lib.hid (run_any R (by omega) W)
  have hrs := runN_list R
  have hk := tok_name (p := p) (c := s[p]) (r := s.data.toList.drop (p + 1))
  rw [← drop_at hp] at hk
  have HX := Lib.hid (ext_bytes s p (runN R.data.toList))
  rw [hR, hRl] at HX
  have HM := Lib.hid (Moved.refl h)
  have a0 := HM.out.cell0
  have a1 := HM.out.cell1
  have aP := HM.out.lt
  have hi0 : (p : Int) < (s.size : Int) := by omega
  have hi1 : (p : Int) ≤ (s.size : Int) := by omega
  obtain ⟨b, hb⟩ : ∃ b, letB (s[p].toNat : Int) = b := ⟨_, rfl⟩
  rw [hb] at HL hk ⊢
  rw [hRl] at HR hrs
  obtain ⟨k, hkk⟩ : ∃ k, runN (s.data.toList.drop p) = k := ⟨_, rfl⟩
  rw [hkk] at HR hrs HX hk
  clear h hkk hb
  cases b
  · clear hk
    go_enter Tryd.func36, Tryd.ntmps36
    go_wp2
    go_quiet ((go_at_call 25; exact quiet_left ((HL _).out)))
    have HM1 := Lib.hid (HM.out.drewN nq)
    generalize World.drewN _ nq = w1 at HM1 ⊢
    go_wp2
    go_ret
    exact Took.no HM1.out
  · have HK := Lib.hid (hk rfl)
    clear hk
    obtain ⟨T, hT⟩ : ∃ T, R.extract 0 k = T := ⟨_, rfl⟩
    have hTs : T.size = k := by rw [← hT]; simp; omega
    have HTl : Hid (key8 T = (s.data.toList.drop p).take k) := Lib.hid (by rw [← hT]; unfold key8; rw [ext_toList, hRl]; simp)
    rw [hT] at HR HX
    rw [← HX.out, ← HTl.out] at HK
    clear hT HTl HX
    go_enter Tryd.func36, Tryd.ntmps36
    go_wp2
    go_quiet ((go_at_call 25; exact quiet_left ((HL _).out)))
    have HM1 := Lib.hid (HM.out.drewN nq)
    generalize World.drewN _ nq = w1 at HM1 ⊢
    clear a0 a1 aP HM
    have a0 := HM1.out.cell0
    have a1 := HM1.out.cell1
    have aP := HM1.out.lt
    go_wp2
    go_quiet ((go_at_call 26; exact quiet_left ((HR _).out)))
    have HM2 := Lib.hid (HM1.out.drewN nq)
    generalize World.drewN _ nq = w2 at HM2 ⊢
    clear a0 a1 aP HM1
    have a0 := HM2.out.cell0
    have a1 := HM2.out.cell1
    have a2 := HM2.out.cell2
    have aP := HM2.out.lt
    obtain ⟨c, hlook⟩ := look_word HM2.out.words T (by omega)
    obtain ⟨wb, hwb⟩ : ∃ b, wordB 18 (key8 T) = b := ⟨_, rfl⟩
    rw [hwb] at hlook HK
    clear hwb
    have HPt := fun (kind : Int) => Lib.hid (put_moved HM2.out hBw hts kind ((p : Int) + (k : Int)) 0 T)
    cases wb
    · go_wp2_with fail
      refine ((HPt 1).out).mono ?_
      rintro e w3 ⟨rfl, hm⟩
      have HM3 := Lib.hid hm
      clear hm
      go_wp2
      go_ret
      exact Took.yes HK.out HM3.out
    · go_wp2_with fail
      refine ((HPt 2).out).mono ?_
      rintro e w3 ⟨rfl, hm⟩
      have HM3 := Lib.hid hm
      clear hm
      go_wp2
      go_ret
      exact Took.yes HK.out HM3.out
end LexD
end Go.Proofs.YthlclmjcdpffbaaDoor
