/- The walk of ValueShows. -/
import Derived.Test.YtajcglhmononnaaDoorValAwake
import Derived.Test.YtajcglhmononnaaDoorValSmall
import Derived.Test.YtajcglhmononnaaDoorValShow
import Derived.Test.YtajcglhmononnaaDoorRows
namespace Go.Proofs.YtajcglhmononnaaDoor
open Go.RowKit ObjM
namespace ValD
open NumM LabelM LabelD NumD

set_option maxRecDepth 100000 in
set_option maxHeartbeats 4000000 in
theorem valueShows_any (a : V) (hs : a.s.size ≤ 9223372036854775807) (hn : -9223372036854775808 ≤ a.n ∧ a.n ≤ 9223372036854775807) (w : World) (hT : ShowT w) :
    Calls Tryd.prog 3 #[a.agg] w fun e w' => e = .returned (.bool true) ∧ Below w.heap.size w w' := by
  have HA := fun W => Lib.hid (awake_any W)
  have HS := fun W n hA => Lib.hid (small1_any a hs W n hA)
  have HTy := fun (W : World) (hb : Below w.heap.size w W) => Lib.hid (type_any a W (hT.below hb).names)
  have HRTy := fun W => Lib.hid (refType_any a W)
  have HSh := fun (W : World) (hb : Below w.heap.size w W) => Lib.hid (vshow_any a hn W (hT.below hb))
  have HRSh := fun (W : World) (hb : Below w.heap.size w W) => Lib.hid (refvShow_any a hn W (hT.below hb))
  clear hT hn
  obtain ⟨z, hz⟩ : ∃ z, showS a = z := ⟨_, rfl⟩
  obtain ⟨kz, hkz⟩ : ∃ z, kindS a.k = z := ⟨_, rfl⟩
  simp only [hz, hkz] at HTy HRTy HSh HRSh
  clear hz hkz
  have hkk : (kz.toList == kz.toList) = true := by simp
  have hzz : (z.toList == z.toList) = true := by simp
  obtain ⟨ak, an, sa, al⟩ := a
  simp only [V.agg, V.cells] at HS HTy HRTy HSh HRSh ⊢
  obtain ⟨sb, hsb⟩ : ∃ sb, decide (sa.size ≤ 1000) = sb := ⟨_, rfl⟩
  simp only [hsb] at HS
  clear hsb hs
  cases sb
  all_goals
    have hun : undef = Value.tuple #[] := rfl
    go_enter Tryd.func3, Tryd.ntmps3
    go_wp2_with fail
    with_reducible refine ((HA _).out).mono ?_
    rintro e w1 ⟨rfl, hb1⟩
    have hX := (Has.new w 25 [.int .i64 ak, .int .i64 an, .string sa, .int .u64 (al : Int)]).below hb1 (by simp)
    have hB0 := alloc1.trans (hb1.mono (by simp))
    clear hb1
    have HF : Hid (∀ W', Below w1.heap.size w1 W' → (W'.cell? ⟨w.heap.size, 0, none⟩ = some (.int .i64 ak) ∧ W'.cell? ⟨w.heap.size, 1, none⟩ = some (.int .i64 an) ∧ W'.cell? ⟨w.heap.size, 2, none⟩ = some (.string sa) ∧ W'.cell? ⟨w.heap.size, 3, none⟩ = some (.int .u64 (al : Int))) ∧ w1.heap.size ≤ W'.heap.size) := Lib.hid (fun W' hb => by
      have p := hX.below hb hX.lt
      exact ⟨⟨p.cell 0, p.cell 1, p.cell 2, p.cell 3⟩, hb.size⟩)
    obtain ⟨⟨c0, c1, c2, c3⟩, -⟩ := HF.out w1 (Below.refl _ _)
    have hlt := hX.lt
    have HB0 := Lib.hid hB0
    have HTy1 := fun (W : World) (hb : Below w1.heap.size w1 W) => HTy W (HB0.out.trans (hb.mono HB0.out.size))
    have HSh1 := fun (W : World) (hb : Below w1.heap.size w1 W) => HSh W (HB0.out.trans (hb.mono HB0.out.size))
    have HRSh1 := fun (W : World) (hb : Below w1.heap.size w1 W) => HRSh W (HB0.out.trans (hb.mono HB0.out.size))
    clear hX hB0 HTy HSh HRSh HA
    go_wp2
    first
    | (go_region_with
      (first
        | (go_at_call 5
           with_reducible refine ((HS _ _ ((Has.new w1 _ [.int .i64 ak, .int .i64 an, .string sa, .int .u64 (al : Int)]).drew)).out).mono ?_
           rintro e w2 ⟨rfl, hb2⟩
           have hB2 : Below w1.heap.size w1 w2 := (alloc1.drew).trans (hb2.mono (by simp))
           clear hb2
           obtain ⟨⟨d0, d1, d2, d3⟩, hz2⟩ := HF.out w2 hB2)
        | (go_at_call 6
           with_reducible refine ((HTy1 _ hB2).out).mono ?_
           rintro e w3 ⟨rfl, hb3⟩
           have hB3 : Below w1.heap.size w1 w3 := hB2.trans (hb3.mono hB2.size)
           clear hb3
           obtain ⟨⟨g0, g1, g2, g3⟩, hz3⟩ := HF.out w3 hB3)
        | (go_at_call 7
           with_reducible refine ((HRTy _).out).mono ?_
           rintro e w4 ⟨rfl, hb4⟩
           have hB4 : Below w1.heap.size w1 w4 := hB3.trans (hb4.mono hB3.size)
           clear hb4
           obtain ⟨⟨k0, k1, k2, k3⟩, hz4⟩ := HF.out w4 hB4)
        | (go_at_call 8
           with_reducible refine ((HSh1 _ hB4).out).mono ?_
           rintro e w5 ⟨rfl, hb5⟩
           have hB5 : Below w1.heap.size w1 w5 := hB4.trans (hb5.mono hB4.size)
           clear hb5
           obtain ⟨⟨m0, m1, m2, m3⟩, hz5⟩ := HF.out w5 hB5)
        | (go_at_call 9
           with_reducible refine ((HRSh1 _ hB5).out).mono ?_
           rintro e w6 ⟨rfl, hb6⟩
           have hB6 : Below w1.heap.size w1 w6 := hB5.trans (hb6.mono hB5.size)
           clear hb6)))
    | fail
    all_goals
      go_wp2
      go_ret
      first
        | exact ⟨by first | rfl | (simp; done) | (simp [Act.put]; done), HB0.out.trans (hB6.mono (HB0.out.size))⟩
        | exact ⟨by first | rfl | (simp; done) | (simp [Act.put]; done), HB0.out.trans (hB2.mono (HB0.out.size))⟩
theorem valueShows_u {r : Reach} {b0 : Nat} (v : Value) (w : World) (h : Value.okWide Tryd.prog w r b0 25 v) (hT : ShowT w) :
    Calls Tryd.prog 3 #[v] w fun e w' => e = .returned (.bool true) ∧ Below w.heap.size w w' := by
  obtain ⟨a, rfl, -, hs, hr⟩ := open_val h
  exact valueShows_any a hs hr.2 w hT

theorem gNames : Tryd.prog.globalNamed "ravelin/value.names" = some 0 := by kernel_rfl
theorem tNames : (Tryd.prog.globals[0]?).map (·.type) = some 33 := by kernel_rfl
def namesVs : List Value := [.string ⟨#[110, 105, 108]⟩, .string ⟨#[98, 111, 111, 108]⟩, .string ⟨#[105, 110, 116]⟩, .string ⟨#[115, 116, 114, 105, 110, 103]⟩, .string ⟨#[116, 97, 98, 108, 101]⟩, .string ⟨#[102, 117, 110, 99, 116, 105, 111, 110]⟩, .string ⟨#[116, 104, 114, 101, 97, 100]⟩]
theorem locNames : (List.range namesVs.length).map (Tables.locate (H := Unit) Tryd.prog 4 33 Rows.laid_ravelin_value_names) = namesVs.map some := by kernel_rfl
theorem cellsTab : Tryd.prog.cellsOf 59 = 20 := by kernel_rfl
theorem cellsU64 : Tryd.prog.cellsOf 22 = 1 := by kernel_rfl
theorem gPowType : (Tryd.prog.globals[1]?).map (·.type) = some 59 := by kernel_rfl
theorem tabs_of {W : World} (h : laidMetH Tryd.prog Rows.valueShowsRow.laid W) : ShowT W := by
  have h1 : laidMet Tryd.prog [("math/bits.deBruijn32tab", Rows.laid_math_bits_deBruijn32tab), ("math/bits.deBruijn64tab", Rows.laid_math_bits_deBruijn64tab), ("internal/strconv.uint64pow10", Rows.laid_internal_strconv_uint64pow10), ("ravelin/value.names", Rows.laid_ravelin_value_names)] W := h
  have c := Tables.cells_of_head 4 (vs := namesVs) gNames tNames h1.tail.tail.tail locNames
  refine ⟨⟨World.block_lt_of_cell? W _ (c 0 _ rfl), c 0 _ rfl, c 1 _ rfl, c 2 _ rfl, c 3 _ rfl, c 4 _ rfl, c 5 _ rfl, c 6 _ rfl⟩, ?_⟩
  exact Lib.tabIs_of_head (rest := [("ravelin/value.names", Rows.laid_ravelin_value_names)]) gPow gPowType Tryd.underlying59 Tryd.underlying22 cellsU64 cellsTab h1.tail.tail
end ValD
end Go.Proofs.YtajcglhmononnaaDoor
