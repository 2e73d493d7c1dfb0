/- Whether nodes are alike. -/
import Derived.Test.YtakdmlaecidjaaaGreatDoorTree2
import Derived.Test.YtakdmlaecidjaaaGreatDoorShelf
namespace Go.Proofs.YtakdmlaecidjaaaGreatDoor
open Go.RowKit ObjM
namespace TreeD

def ndEq (a b : Nd) : Bool := (a.kind == b.kind) && (a.text.toList == b.text.toList) && (a.kids == b.kids)
def sameV : List Nd → List Nd → Bool
  | [], [] => true
  | x :: a, y :: b => ndEq x y && sameV a b
  | _, _ => false
theorem sameV_len : ∀ {a b : List Nd}, a.length ≠ b.length → sameV a b = false
  | [], [], h => absurd rfl h
  | [], _ :: _, _ => rfl
  | _ :: _, [], _ => rfl
  | x :: a, y :: b, h => by
    show (ndEq x y && sameV a b) = false
    rw [sameV_len (a := a) (b := b) (by simpa using h)]
    simp
theorem sameV_self : ∀ (a : List Nd), sameV a a = true
  | [] => rfl
  | x :: a => by
    show (ndEq x x && sameV a a) = true
    rw [sameV_self a]
    simp [ndEq]
theorem sameV_drop {a b : List Nd} {k : Nat} (ha : k < a.length) (hb : k < b.length) : sameV (a.drop k) (b.drop k) = (ndEq a[k] b[k] && sameV (a.drop (k + 1)) (b.drop (k + 1))) := by
  rw [List.drop_eq_getElem_cons ha, List.drop_eq_getElem_cons hb]
  rfl
theorem kids_equal (a b : List Int) (va vb : Value) (w : World) (ha : KidsAt w va a) (hb : KidsAt w vb b) (hla : a.length ≤ 9223372036854775807) (hlb : b.length ≤ 9223372036854775807) :
    Calls Tryz.prog 18 #[va, vb] w fun e w' => e = .returned (.bool (a == b)) ∧ ∃ q, w' = w.drewN q := by
  obtain ⟨av, ca, rfl, h1⟩ := ha
  obtain ⟨bv, cb, rfl, h2⟩ := hb
  by_cases hl : a.length = b.length
  · by_cases hz : a = []
    · subst hz
      have hb0 : b = [] := List.length_eq_zero_iff.1 hl.symm
      subst hb0
      exact (Tryz.slices_Equal_int_empty av bv ca 0 cb w (by decide)).mono fun e w' ⟨he, hw⟩ => ⟨he, 0, hw⟩
    · have hz2 : ¬ b = [] := fun e => hz (List.length_eq_zero_iff.1 (by rw [hl, e]; rfl))
      rcases h1 with h1 | ⟨g1, o1, rfl, -, c1⟩
      · exact absurd h1 hz
      · rcases h2 with h2 | ⟨g2, o2, rfl, -, c2⟩
        · exact absurd h2 hz2
        · have := Tryz.slices_Equal_int g1 o1 a.length ca g2 o2 b.length cb a b w (Nat.le_refl _) (Nat.le_refl _) hla hlb
            (fun j hj => by rw [c1 j a[j] (List.getElem?_eq_getElem hj)]; simp [List.getD, hj])
            (fun j hj => by rw [c2 j b[j] (List.getElem?_eq_getElem hj)]; simp [List.getD, hj])
          rw [List.take_length, List.take_length] at this
          exact this
  · have he : (a == b) = false := by
      simp only [beq_eq_false_iff_ne, ne_eq]
      intro e
      exact hl (by rw [e])
    rw [he]
    exact (Tryz.slices_Equal_int_lens av bv a.length ca b.length cb w hl).mono fun e w' ⟨h, hw⟩ => ⟨h, 0, hw⟩
def NdVal (n : Nd) (kv : Value) : Value := .agg #[.int .i64 n.kind, .string n.text, kv, .int .i64 n.pos]
set_option maxRecDepth 100000 in
set_option maxHeartbeats 4000000 in
theorem same1_any (a b : Nd) (ka kb : Value) (w : World) (ha : KidsAt w ka a.kids) (hb : KidsAt w kb b.kids) (hla : a.kids.length ≤ 9223372036854775807) (hlb : b.kids.length ≤ 9223372036854775807) :
    Calls Tryz.prog 17 #[NdVal a ka, NdVal b kb] w fun e w' => e = .returned (.bool (ndEq a b)) ∧ Below w.heap.size w w' := by
  obtain ⟨a0, a1, a2, a3⟩ := a
  obtain ⟨b0, b1, b2, b3⟩ := b
  simp only [NdVal, ndEq] at *
  have HBl : Hid (Below w.heap.size w ((w.alloc (.cells #[.int .i64 a0, .string a1, ka, .int .i64 a3] 35)).alloc (.cells #[.int .i64 b0, .string b1, kb, .int .i64 b3] 35))) := Lib.hid (by
    repeat (first | exact Below.refl _ _ | refine Below.alloc ?_ (by simp; try omega) _))
  have HE := fun (W : World) (h : Below w.heap.size w W) => Lib.hid (kids_equal a2 b2 ka kb W (ha.below (Nat.le_refl _) h) (hb.below (Nat.le_refl _) h) hla hlb)
  obtain ⟨ak, ck, rfl⟩ := ha.shape
  obtain ⟨bk, dk, rfl⟩ := hb.shape
  obtain ⟨k1, hk1⟩ : ∃ k, (a0 == b0) = k := ⟨_, rfl⟩
  obtain ⟨k2, hk2⟩ : ∃ k, (a1.toList == b1.toList) = k := ⟨_, rfl⟩
  obtain ⟨k3, hk3⟩ : ∃ k, (a2 == b2) = k := ⟨_, rfl⟩
  rw [hk3] at HE
  rw [hk1, hk2, hk3]
  clear ha hb hk3
  cases k1
  · clear HE
    go_enter Tryz.func17, Tryz.ntmps17
    go_wp2
    go_ret
    exact ⟨rfl, HBl.out⟩
  · cases k2
    · clear HE
      go_enter Tryz.func17, Tryz.ntmps17
      go_wp2
      go_ret
      exact ⟨rfl, HBl.out⟩
    · have HE2 := HE _ HBl.out
      go_enter Tryz.func17, Tryz.ntmps17
      go_wp2_with fail
      refine (HE2.out).mono ?_
      rintro e w1 ⟨rfl, q, rfl⟩
      have HB2 : Hid (Below w.heap.size w (World.drewN ((w.alloc (.cells #[.int .i64 a0, .string a1, .slice ak a2.length ck, .int .i64 a3] 35)).alloc (.cells #[.int .i64 b0, .string b1, .slice bk b2.length dk, .int .i64 b3] 35)) q)) := Lib.hid ⟨HBl.out.os, HBl.out.tape, HBl.out.output, HBl.out.size, fun k hk => HBl.out.block k hk⟩
      cases k3
      all_goals
        go_wp2
        go_ret
        exact ⟨rfl, HB2.out⟩
set_option maxRecDepth 100000 in
set_option maxHeartbeats 8000000 in
theorem equalFunc_any (a b : List Nd) (va vb : Value) (w : World) (ha : NdsAt w va a) (hb : NdsAt w vb b) (oka : ∀ n ∈ a, NdOk n) (okb : ∀ n ∈ b, NdOk n) (hla : a.length ≤ 100000) (_hlb : b.length ≤ 100000) :
    Calls Tryz.prog 16 #[va, vb, .func (.func 17) #[] #[]] w fun e w' => e = .returned (.bool (sameV a b)) ∧ Below w.heap.size w w' := by
  obtain ⟨av, ca, rfl⟩ := ha.shape
  obtain ⟨bv, cb, rfl⟩ := hb.shape
  have HA := Lib.hid (fun (W : World) (hb : Below w.heap.size w W) => ha.below (Nat.le_refl _) hb)
  have HB := Lib.hid (fun (W : World) (h : Below w.heap.size w W) => hb.below (Nat.le_refl _) h)
  have HKa := Lib.hid oka
  have HKb := Lib.hid okb
  clear ha hb oka okb
  by_cases hl : a.length = b.length
  · have hne : ((a.length : Int) != (b.length : Int)) = false := by simp; omega
    have HL := Lib.hid hl
    have hbl : b.length ≤ a.length := by omega
    have HD0 : Hid (sameV (a.drop 0) (b.drop 0) = sameV a b) := Lib.hid rfl
    obtain ⟨R, hR⟩ : ∃ R, sameV a b = R := ⟨_, rfl⟩
    rw [hR] at HD0 ⊢
    clear hR
    obtain ⟨m, hm⟩ : ∃ m, b.length = m := ⟨_, rfl⟩
    have hma : a.length = m := by omega
    have HM := Lib.hid (⟨hma, hm⟩ : _ ∧ _)
    have hm9 : m ≤ 100000 := by omega
    go_enter Tryz.func16, Tryz.ntmps16
    rw [hm] at hne ⊢
    rw [hma] at hne ⊢
    clear hl hm hma hla hbl
    go_wp2
    go_loopw [17] (fun i wr => ∃ k : Nat, i = .int .i64 (k : Int) ∧ k ≤ m ∧ Below w.heap.size w wr ∧ Hid (sameV (a.drop k) (b.drop k) = R)) (fun i _ => m - (intOf i).toNat)
    case atStart => exact ⟨0, rfl, by omega, Below.refl _ _, HD0⟩
    case round =>
      obtain ⟨k, rfl, hk, hBl, HD⟩ := hrel
      have HBl := Lib.hid hBl
      have hszr := hBl.size
      clear hBl
      by_cases hlt : k < m
      · have hi1 : (k : Int) < (m : Int) := by omega
        have hka : k < a.length := by rw [HM.out.1]; exact hlt
        have hkb : k < b.length := by rw [HM.out.2]; exact hlt
        have HD2 := Lib.hid (sameV_drop hka hkb)
        obtain ⟨ba, oa, ka, rfl, hba, c0, c1, c2, c3, c4⟩ := (HA.out _ HBl.out).at k hka
        obtain ⟨bb, ob, kb, rfl, hbb, d0, d1, d2, d3, d4⟩ := (HB.out _ HBl.out).at k hkb
        have n1 := HKa.out _ (List.getElem_mem hka)
        have n2 := HKb.out _ (List.getElem_mem hkb)
        generalize a[k] = x at HD2 c0 c1 c2 c3 c4 n1
        generalize b[k] = y at HD2 d0 d1 d2 d3 d4 n2
        have HBn : Hid (Below wr.heap.size wr ((wr.alloc (.cells #[.int .i64 x.kind, .string x.text, ka, .int .i64 x.pos] 35)).alloc (.cells #[.int .i64 y.kind, .string y.text, kb, .int .i64 y.pos] 35))) := Lib.hid (by
          repeat (first | exact Below.refl _ _ | refine Below.alloc ?_ (by simp; try omega) _))
        have HS := Lib.hid (same1_any x y ka kb ((wr.alloc (.cells #[.int .i64 x.kind, .string x.text, ka, .int .i64 x.pos] 35)).alloc (.cells #[.int .i64 y.kind, .string y.text, kb, .int .i64 y.pos] 35)) (c4.below (Nat.le_refl _) HBn.out) (d4.below (Nat.le_refl _) HBn.out) (by have := n1.2.1; omega) (by have := n2.2.1; omega))
        have HB2 := Lib.hid (HBl.out.trans (HBn.out.mono hszr))
        obtain ⟨ak, ck, rfl⟩ := c4.shape
        obtain ⟨bk, dk, rfl⟩ := d4.shape
        simp only [NdVal] at HS
        obtain ⟨r, hr⟩ : ∃ r, ndEq x y = r := ⟨_, rfl⟩
        rw [hr] at HS HD2
        clear c4 d4 n1 n2 hr hka hkb HA HB
        go_wp2_with fail
        refine (HS.out).mono ?_
        rintro e w3 ⟨rfl, hb3⟩
        have HB3 := Lib.hid (HB2.out.trans (hb3.mono HB2.out.size))
        clear hb3
        cases r
        · have HF : Hid (R = false) := Lib.hid (by rw [← HD.out, HD2.out]; rfl)
          obtain rfl := HF.out
          go_wp2
          go_ret
          exact ⟨rfl, HB3.out⟩
        · have HD3 : Hid (sameV (a.drop (k + 1)) (b.drop (k + 1)) = R) := Lib.hid (by rw [← HD.out, HD2.out]; rfl)
          go_wp2
          go_roundw
          case rel => exact ⟨k + 1, by go_num, by omega, HB3.out, HD3⟩
          case measure => simp [intOf]; omega
      · have hkm : k = m := by omega
        have HF : Hid (R = true) := Lib.hid (by
          rw [← HD.out, List.drop_eq_nil_of_le (by rw [HM.out.1]; omega), List.drop_eq_nil_of_le (by rw [HM.out.2]; omega)]
          rfl)
        obtain rfl := HF.out
        subst hkm
        go_wp2
        go_ret
        exact ⟨rfl, HBl.out⟩
  · have hne : ((a.length : Int) != (b.length : Int)) = true := by simp; omega
    rw [sameV_len hl]
    go_enter Tryz.func16, Tryz.ntmps16
    go_wp2
    go_ret
    exact ⟨rfl, Below.refl _ _⟩
set_option maxRecDepth 100000 in
theorem same_any (a b : List Nd) (va vb : Value) (w : World) (ha : NdsAt w va a) (hb : NdsAt w vb b) (oka : ∀ n ∈ a, NdOk n) (okb : ∀ n ∈ b, NdOk n) (hla : a.length ≤ 100000) (hlb : b.length ≤ 100000) :
    Calls Tryz.prog 10 #[va, vb] w fun e w' => e = .returned (.bool (sameV a b)) ∧ Below w.heap.size w w' := by
  have HE := Lib.hid (equalFunc_any a b va vb w ha hb oka okb hla hlb)
  obtain ⟨av, ca, rfl⟩ := ha.shape
  obtain ⟨bv, cb, rfl⟩ := hb.shape
  clear ha hb
  generalize sameV a b = R at HE ⊢
  go_enter Tryz.func10, Tryz.ntmps10
  go_wp2_with fail
  refine (HE.out).mono ?_
  rintro e w1 ⟨rfl, hb⟩
  go_wp2
  go_ret
  exact ⟨rfl, hb⟩
end TreeD
end Go.Proofs.YtakdmlaecidjaaaGreatDoor
