/- TypesUnions: walked. -/
import Derived.Test.YtmcnoagihnkkcaaDoorTyAw9
import Derived.Test.YtmcnoagihnkkcaaDoorTyRUnion
import Derived.Test.YtmcnoagihnkkcaaDoorTyLike
import Derived.Deep.RegionHeld3
namespace Go.Proofs.YtmcnoagihnkkcaaDoor
open Go.RowKit ObjM
namespace TyD
open LexD (nameB WTab)

theorem bits_low (x : Int) {c : Nat} (hc : c < 128) : bits BinOp.and IntKind.i64 x (c : Int) = (((x % 128).toNat &&& c : Nat) : Int) := by
  have h : bits BinOp.and IntKind.i64 x (c : Int) = IntKind.i64.wrap ((BitVec.ofInt 64 x &&& BitVec.ofInt 64 (c : Int)).toNat : Nat) := rfl
  have e1 : BitVec.ofInt 64 (c : Int) = BitVec.ofNat 64 c := rfl
  have e2 : (BitVec.ofNat 64 c).toNat = c := by rw [BitVec.toNat_ofNat]; exact Nat.mod_eq_of_lt (by omega)
  have e3 : (BitVec.ofInt 64 x).toNat = (x % 18446744073709551616).toNat := by
    rw [BitVec.toNat_ofInt]
    rfl
  rw [h, e1, BitVec.toNat_and, e2, e3]
  have h1 : (x % 18446744073709551616).toNat &&& c ≤ c := Nat.and_le_right
  have h2 := Nat.and_mod_two_pow (a := (x % 18446744073709551616).toNat) (b := c) (n := 7)
  have h3 : (x % 18446744073709551616).toNat % 2 ^ 7 = (x % 128).toNat := by omega
  rw [h3, Nat.mod_eq_of_lt (show c < 2 ^ 7 by omega), Nat.mod_eq_of_lt (show (x % 18446744073709551616).toNat &&& c < 2 ^ 7 by omega)] at h2
  rw [← h2, IntKind.wrap_i64]
  omega
theorem kof_lt (k : Int) : kindOf k < 128 := kindOf_lt k
theorem unionz_fin : ∀ v : Fin 128, checkV (unionP (bitsOf v.val)) = true ∧ (v.val &&& 95 = 0 ∨ v.val &&& 95 = 95 ∨ kindsC (unionP (bitsOf v.val)) = v.val &&& 95) := by decide +kernel
theorem bitP_low (x : Int) : unionP (bitP x) = unionP (bitsOf (x % 128).toNat) := by
  unfold unionP
  have e : [1, 2, 3, 4, 5, 6].filter (bitP x) = [1, 2, 3, 4, 5, 6].filter (bitsOf (x % 128).toNat) := List.filter_congr fun k _ => by
    unfold bitP bitsOf
    rw [bits_low x (kof_lt _)]
    by_cases h : (x % 128).toNat &&& kindOf (k : Int) = 0
    · rw [h]
      rfl
    · rw [decide_eq_true h]
      simp
      omega
  rw [e]
theorem unionz_ok (p : Nat → Bool) : TyOk (unionP p) := by
  have hl : ∀ t ∈ ([1, 2, 3, 4, 5, 6].filter p).map (fun k => Ty.mk ((k : Nat) : Int) [] []), TyOk t := by
    intro t ht
    obtain ⟨k, hk, rfl⟩ := List.mem_map.1 ht
    have := (List.mem_filter.1 hk).1
    exact leafz_ok (k := k) (by simp at this; omega)
  have hn : (([1, 2, 3, 4, 5, 6].filter p).map (fun k => Ty.mk ((k : Nat) : Int) [] [])).length ≤ 6 := by
    rw [List.length_map]
    exact List.length_filter_le p [1, 2, 3, 4, 5, 6]
  unfold unionP
  generalize ([1, 2, 3, 4, 5, 6].filter p).map (fun k => Ty.mk ((k : Nat) : Int) [] []) = l at hl hn
  dsimp only
  split
  · exact .mk _ _ _ (by omega) (by simp) (by simp) (by simp) (by simp)
  · rename_i t
    exact hl t (by simp)
  · split
    · exact .mk _ _ _ (by omega) (by simp) (by simp) (by simp) (by simp)
    · exact .mk _ _ _ (by omega) (by simp) (by simp) (by omega) hl
set_option maxRecDepth 100000 in
set_option maxHeartbeats 16000000 in
theorem unions_u (hJ : JoinC) (x : Int) (w : World) (hT : WTab w) (hK : KTab w) (hN : NTab w) : Calls Tryd.prog 5 #[.int .i64 x] w (BoolB w true) := by
  have HAw := Lib.hid (fun (W : World) (h : Below w.heap.size w W) => awake9_any hJ W (hT.below h) (hK.below h) (hN.below h))
  obtain ⟨hv, hs⟩ := unionz_fin ⟨(x % 128).toNat, by omega⟩
  simp only at hv hs
  have HU := Lib.hid (fun (W : World) (h : Below w.heap.size w W) => union_any x W (hK.below h))
  have HR := Lib.hid (fun (W : World) => refUnion_any x W)
  rw [unionG_eq, bitP_low] at HU
  rw [unionR_eq, bitP_low] at HR
  have hok := unionz_ok (bitsOf (x % 128).toNat)
  have h95 : bits BinOp.and IntKind.i64 x 95 = (((x % 128).toNat &&& 95 : Nat) : Int) := bits_low x (c := 95) (by omega)
  generalize unionP (bitsOf (x % 128).toNat) = u at HU HR hv hs hok
  generalize (x % 128).toNat &&& 95 = s at h95 hs
  have HSm := Lib.hid (fun (vn va un ua : Value) (W : World) (h1 : TyAt W vn va u) (h2 : TyAt W un ua u) => refSame_any u u vn va un ua W hok hok h1 h2)
  rw [(sameV_iff u u).2 ⟨hv, rfl⟩] at HSm
  have HKi := Lib.hid (fun (vn va : Value) (W : World) (h : Below w.heap.size w W) (ht : TyAt W vn va u) => kinds_any u vn va W hok ht (hT.below h) (hK.below h))
  have HB0 := Lib.hid (Below.refl w.heap.size w)
  generalize kindsC u = ks at HKi hs
  have HSx := Lib.hid hs
  have HX := Lib.hid h95
  clear hv hs hok hT hK hN hJ h95
  go_enter Tryd.func5, Tryd.ntmps5
  go_wp2_with fail
  refine (HAw.out _ HB0.out).mono ?_
  rintro e w1 ⟨rfl, hb1⟩
  have HB1 := Lib.hid hb1
  clear hb1
  go_wp2_with fail
  refine (HU.out _ HB1.out).mono ?_
  rintro e w2 ⟨vn, va, rfl, hfr, hb2⟩
  have hu2 := hfr w2 (Nat.le_refl _) (fun _ _ _ => rfl)
  obtain ⟨xn, yn, xa, ya, rfl, rfl⟩ := hu2.shape
  have hB2 := HB1.out.trans (hb2.mono HB1.out.size)
  have hx := Has.new w2 25 [.int .i64 u.kind, .slice xn u.names.length yn, .slice xa u.args.length ya]
  have hb3 : Below w2.heap.size w2 (w2.alloc (.cells #[.int .i64 u.kind, .slice xn u.names.length yn, .slice xa u.args.length ya] 25)) := (Below.refl _ w2).alloc (Nat.le_refl _) _
  go_wp2
  generalize World.alloc w2 (.cells #[.int .i64 u.kind, .slice xn u.names.length yn, .slice xa u.args.length ya] 25) = w3 at hx hb3 ⊢
  have HS : Hid (∀ W, Below w3.heap.size w3 W → (W.cell? ⟨w2.heap.size, 0, none⟩ = some (.int .i64 u.kind) ∧ W.cell? ⟨w2.heap.size, 1, none⟩ = some (.slice xn u.names.length yn) ∧ W.cell? ⟨w2.heap.size, 2, none⟩ = some (.slice xa u.args.length ya)) ∧ w2.heap.size < W.heap.size ∧ TyAt W (.slice xn u.names.length yn) (.slice xa u.args.length ya) u ∧ Below w.heap.size w W) := Lib.hid (fun W hW => by
    have g := hx.below hW hx.lt
    have hbW : Below w2.heap.size w2 W := hb3.trans (hW.mono hb3.size)
    exact ⟨⟨g.cell 0, g.cell 1, g.cell 2⟩, g.lt, hu2.frame (Nat.le_refl _) hbW, hB2.trans (hbW.mono hB2.size)⟩)
  clear hfr hb2 hu2 hB2 hx hb3
  obtain ⟨⟨x0, x1, x2⟩, lx, -⟩ := HS.out w3 (Below.refl _ _)
  go_region_held3 (fun W => W.cell? ⟨w2.heap.size, 0, none⟩ = some (.int .i64 u.kind) ∧ W.cell? ⟨w2.heap.size, 1, none⟩ = some (.slice xn u.names.length yn) ∧ W.cell? ⟨w2.heap.size, 2, none⟩ = some (.slice xa u.args.length ya))
    (exact (HS.out _ (by repeat (first | exact Below.refl _ _ | assumption | refine Below.drew ?_))).1)
    (first
      | (go_at_call 20
         refine (HR.out _).mono ?_
         rintro e w5 ⟨un, ua, rfl, hfr, hb5⟩
         have hv5 := hfr w5 (Nat.le_refl _) (fun _ _ _ => rfl)
         obtain ⟨zn, an, za, aa, rfl, rfl⟩ := hv5.shape
         have hb6 : Below w3.heap.size w3 w5 := below_in (by repeat (first | exact Below.refl _ _ | refine Below.drew ?_)) hb5)
      | (go_at_call 11
         refine (HSm.out _ _ _ _ _ (HS.out _ hb6).2.2.1 hv5).mono ?_
         rintro e w7 ⟨rfl, hb7⟩
         have hb8 : Below w3.heap.size w3 w7 := below_in hb6 hb7))
  have HB7 := Lib.hid hb8
  clear x0 x1 x2 lx hfr hb5 hv5 hb6 hb7 hb8
  obtain ⟨⟨x0, x1, x2⟩, lx, ht7, hv7⟩ := HS.out w7 HB7.out
  have HT7 := Lib.hid ht7
  have HV7 := Lib.hid hv7
  have h95 := HX.out
  clear ht7 hv7
  by_cases s0 : s = 0
  · subst s0
    go_wp2
    go_ret
    exact ⟨rfl, HV7.out⟩
  by_cases s95 : s = 95
  · subst s95
    go_wp2
    go_ret
    exact ⟨rfl, HV7.out⟩
  obtain rfl : ks = s := by
    rcases HSx.out with h | h | h
    · exact absurd h s0
    · exact absurd h s95
    · exact h
  have b0 : ((ks : Int) == 0) = false := by simp; omega
  have b95 : ((ks : Int) == 95) = false := by simp; omega
  clear s0 s95 HSx
  go_wp2_with fail
  refine (HKi.out _ _ _ HV7.out HT7.out).mono ?_
  rintro e w8 ⟨rfl, hb8⟩
  have HV8 := Lib.hid (HV7.out.trans (hb8.mono HV7.out.size))
  clear hb8
  go_wp2
  go_ret
  exact ⟨rfl, HV8.out⟩
end TyD
end Go.Proofs.YtmcnoagihnkkcaaDoor
