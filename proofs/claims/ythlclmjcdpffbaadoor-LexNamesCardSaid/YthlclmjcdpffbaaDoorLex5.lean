/- The reader of blanks. -/
import Derived.Test.YthlclmjcdpffbaaDoorLex4
import Derived.Test.YthlclmjcdpffbaaDoorShelf
namespace Go.Proofs.YthlclmjcdpffbaaDoor
open Go.RowKit ObjM Go.Maps
namespace LexD

/-- The rest of a text. -/
theorem rest_of {s : ByteArray} {p : Nat} (hp : p < s.size) : ∃ R : ByteArray, s.extract p s.size = R ∧ R.data.toList = s.data.toList.drop p ∧ R.size = s.size - p ∧ ∃ h0 : 0 < R.size, R[0] = s[p] := by
  refine ⟨_, rfl, ext_drop s p, by simp, by simp; omega, ?_⟩
  have h1 : (s.extract p s.size).data.toList[0]? = some s[p] := by
    rw [ext_drop, drop_at hp]
    rfl
  have h2 : (s.extract p s.size).data.toList[0]? = some ((s.extract p s.size)[0]'(by simp; omega)) := by
    rw [List.getElem?_eq_getElem (by simp; omega)]
    rfl
  rw [h2] at h1
  simpa using h1
set_option maxRecDepth 100000 in
set_option maxHeartbeats 4000000 in
theorem blank_any (B P m : Nat) (s : ByteArray) (p : Nat) (ts : List Tok) (hs : s.size ≤ 100000) (hp : p < s.size) (w : World) (tv : Value) (h : ScAt w B P m s p ts tv) :
    Calls Tryd.prog 35 #[.pointer (some ⟨P, 0, none⟩)] w (BlankIs w B P m s p ts) := by
  obtain ⟨R, hR, hRl, hRs, hR0, hRp⟩ := rest_of hp
  have HHP := fun W => Lib.hid (Tryd.strings_HasPrefix R ⟨#[45, 45]⟩ W)
  have HIN := fun W => Lib.hid (Tryd.strings_IndexByte R 10 W)
  have HIB := fun W => Lib.hid (Tryd.strings_IndexByte ⟨#[32, 9, 10, 13]⟩ (R[0].toNat : Int) W)
  have HM := Lib.hid (Moved.refl h)
  have a0 := HM.out.cell0
  have a1 := HM.out.cell1
  have aP := HM.out.lt
  have hi0 : (p : Int) < (s.size : Int) := by omega
  have hi1 : (p : Int) ≤ (s.size : Int) := by omega
  obtain ⟨b, hb⟩ : ∃ b, Lib.hasPrefix R.data.toList (⟨#[45, 45]⟩ : ByteArray).data.toList = b := ⟨_, rfl⟩
  rw [hb] at HHP
  have hLl : (s.data.toList.drop p).length = R.size := by rw [← hRl]; simp
  have hcons := drop_at hp
  rw [hRl] at hb
  rw [hRp, show (s[p].toNat : Int).toNat.toUInt8 = s[p] by simp] at HIB
  rw [hRl] at HIN
  unfold BlankIs
  clear h
  cases b
  · have HS : Hid (stepB (s.data.toList.drop p) = if blankB s[p] = true then some 1 else none) := Lib.hid (by
      rw [hcons] at hb ⊢
      have hb' : Lib.hasPrefix (s[p] :: s.data.toList.drop (p + 1)) [45, 45] = false := hb
      rw [stepB, hb']
      simp)
    have hib : (Lib.indexByte [32, 9, 10, 13] s[p] < 0) ↔ blankB s[p] = false := by
      have := idx_blank ⟨s[p].toNat, s[p].toNat_lt⟩
      simpa using this
    obtain ⟨v, hv⟩ : ∃ v, Lib.indexByte [32, 9, 10, 13] s[p] = v := ⟨_, rfl⟩
    obtain ⟨bb, hbb⟩ : ∃ bb, blankB s[p] = bb := ⟨_, rfl⟩
    have HIB2 : ∀ W, Hid (Calls Tryd.prog 53 #[.string ⟨#[32, 9, 10, 13]⟩, .int .u8 (R[0].toNat : Int)] W fun e w' => e = .returned (.int .i64 v) ∧ w' = W) := fun W => by
      rw [← hv, hRp]
      exact HIB W
    rw [hv, hbb] at hib
    rw [hbb] at HS
    have hR0i : (0 : Int) < (R.size : Int) := by omega
    clear hv hbb HIN hcons hRp hb HIB
    go_enter Tryd.func35, Tryd.ntmps35
    go_wp2
    go_quiet (fail)
    have HM1 := Lib.hid (HM.out.drewN nq)
    generalize World.drewN _ nq = w1 at HM1 ⊢
    clear a0 a1 aP HM
    have a0 := HM1.out.cell0
    have a1 := HM1.out.cell1
    have aP := HM1.out.lt
    have af := HM1.out.frozen 1
    go_wp2_with fail
    refine ((HHP _).out).mono ?_
    rintro e w2 ⟨rfl, hw⟩
    subst hw
    go_wp2_with fail
    refine ((HIB2 _).out).mono ?_
    rintro e w3 ⟨rfl, hw⟩
    subst hw
    cases bb
    · have hv0 : v < 0 := hib.2 rfl
      clear hib
      go_wp2
      go_ret
      exact .inr ⟨HS.out, rfl, HM1.out⟩
    · have hv0 : ¬ v < 0 := fun h => by have := hib.1 h; cases this
      clear hib
      go_wp2
      go_ret
      exact .inl ⟨1, HS.out, rfl, HM1.out.setAt _⟩
  · have HS : Hid (stepB (s.data.toList.drop p) = some (noteN (s.data.toList.drop p))) := Lib.hid (by
      rw [hcons] at hb ⊢
      have hc : s[p] = 45 := by
        cases e : s.data.toList.drop (p + 1) with
        | nil => rw [e] at hb; simp [Lib.hasPrefix] at hb
        | cons d q => rw [e] at hb; simp [Lib.hasPrefix] at hb; exact hb.1.symm
      have hb' : Lib.hasPrefix (s[p] :: s.data.toList.drop (p + 1)) [45, 45] = true := hb
      rw [stepB, hb', hc]
      rfl)
    have hN := idx_note (s.data.toList.drop p)
    rw [hLl] at hN
    obtain ⟨nn, hnn⟩ : ∃ n, noteN (s.data.toList.drop p) = n := ⟨_, rfl⟩
    obtain ⟨v, hv⟩ : ∃ v, Lib.indexByte (s.data.toList.drop p) (10 : Int).toNat.toUInt8 = v := ⟨_, rfl⟩
    have hv2 : Lib.indexByte (s.data.toList.drop p) 10 = v := hv
    rw [hv] at HIN
    rw [hv2, hnn] at hN
    rw [hnn] at HS
    have hnle : nn ≤ R.size := by
      rw [← hnn, ← hLl]
      exact (List.takeWhile_prefix _).length_le
    clear hv hv2 hnn HIB hcons hRp hb
    go_enter Tryd.func35, Tryd.ntmps35
    go_wp2
    go_quiet (fail)
    have HM1 := Lib.hid (HM.out.drewN nq)
    generalize World.drewN _ nq = w1 at HM1 ⊢
    clear a0 a1 aP HM
    have a0 := HM1.out.cell0
    have a1 := HM1.out.cell1
    have aP := HM1.out.lt
    have af := HM1.out.frozen 1
    go_wp2_with fail
    refine ((HHP _).out).mono ?_
    rintro e w2 ⟨rfl, hw⟩
    subst hw
    go_wp2_with fail
    refine ((HIN _).out).mono ?_
    rintro e w3 ⟨rfl, hw⟩
    subst hw
    rcases hN with ⟨rfl, hN⟩ | rfl
    · subst hN
      go_wp2
      go_ret
      exact .inl ⟨s.size - p, by rw [← hRs]; exact HS.out, rfl, by rw [Int.natCast_add]; exact HM1.out.setAt _⟩
    · go_wp2
      go_ret
      exact .inl ⟨nn, HS.out, rfl, by rw [Int.natCast_add]; exact HM1.out.setAt _⟩
end LexD
end Go.Proofs.YthlclmjcdpffbaaDoor
