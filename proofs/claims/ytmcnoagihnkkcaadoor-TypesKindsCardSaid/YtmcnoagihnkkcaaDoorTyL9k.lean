/- TypesKinds: walked. -/
import Derived.Test.YtmcnoagihnkkcaaDoorTyAw9
import Derived.Test.YtmcnoagihnkkcaaDoorTyStamps
import Derived.Test.YtmcnoagihnkkcaaDoorTyVag
import Derived.Test.YtmcnoagihnkkcaaDoorTyFew
import Derived.Deep.RegionHeld3
namespace Go.Proofs.YtmcnoagihnkkcaaDoor
open Go.RowKit ObjM
namespace TyD
open LexD (nameB WTab)

theorem rowS9_at : ∀ (l : List (ByteArray × Nat)) (i : Nat) (x : ByteArray × Nat), l[i]? = some x → (rowS9 l)[i * 2]? = some (.string x.1) ∧ (rowS9 l)[i * 2 + 1]? = some (.int .i64 (x.2 : Int))
  | [], i, e, h => by simp at h
  | a :: r, 0, e, h => by
    simp at h
    subst h
    simp [rowS9]
  | a :: r, i + 1, e, h => by
    have ih := rowS9_at r i e (by simpa using h)
    have e1 : (i + 1) * 2 = i * 2 + 1 + 1 := by omega
    rw [e1]
    simp [rowS9] at ih ⊢
    exact ih
theorem stamp_at {W : World} {base : Nat} {v : Value} {l : List (ByteArray × Nat)} (h : W.ownsRow base 34 2 v l.length (rowS9 l)) {i : Nat} {x : ByteArray × Nat} (hi : l[i]? = some x) :
    ∃ g c, v = .slice (some ⟨g, 0, none⟩) l.length c ∧ W.cell? ⟨g, i * 2, none⟩ = some (.string x.1) ∧ W.cell? ⟨g, i * 2 + 1, none⟩ = some (.int .i64 (x.2 : Int)) ∧ g < W.heap.size := by
  rcases own_shape h with ⟨_, hn, _⟩ | ⟨g, cap, cs, rfl, hb, hh, hnc, hcm, _, _⟩
  · rw [List.length_eq_zero_iff.1 hn] at hi
    simp at hi
  · obtain ⟨q0, q1⟩ := rowS9_at l i x hi
    obtain ⟨h0, e0⟩ := List.getElem?_eq_some_iff.1 q0
    obtain ⟨h1, e1⟩ := List.getElem?_eq_some_iff.1 q1
    exact ⟨g, cap, rfl, by rw [own_cell h _ h0, e0], by rw [own_cell h _ h1, e1], hh.lt⟩
theorem stamp_shape {W : World} {base : Nat} {v : Value} {l : List (ByteArray × Nat)} (h : W.ownsRow base 34 2 v l.length (rowS9 l)) : ∃ a c, v = .slice a l.length c := by
  rcases own_shape h with ⟨h9, h8, _⟩ | ⟨g, cap, cs, h9, _⟩
  · exact ⟨none, 0, by rw [h9, h8]⟩
  · exact ⟨_, _, h9⟩
theorem stamps_len (t : Ty) : (stampsV t).length ≤ 10000 := by
  unfold stampsV
  split
  · rename_i h
    have h2 := (check_iff t).1 h.2
    obtain ⟨k, ns, ts⟩ := t
    have h3 := stamp_len 49 ts
    have h4 : sizeF 50 (Ty.mk k ns ts) = 1 + ts.foldl (fun n a => n + sizeF 49 a) 0 := size_args _
    rw [List.length_zip, List.length_map]
    simp only [Ty.args]
    omega
  · simp
set_option maxRecDepth 100000 in
set_option maxHeartbeats 16000000 in
theorem kinds_u (hJ : JoinC) (t : Ty) (vn va : Value) (w : World) (hok : TyOk t) (h : TyAt w vn va t) (hT : WTab w) (hK : KTab w) (hN : NTab w) :
    Calls Tryd.prog 4 #[.agg #[.int .i64 t.kind, vn, va]] w (BoolB w true) := by
  have qN : ∀ (s : ByteArray) (k : Int) (W : World), (binOp .neq 34 (.agg #[.string s, .int .i64 k]) (.agg #[.string s, .int .i64 k])).run Tryd.prog W = .ok (.bool false) W := by
    intro s k W
    have he : Sem.run Tryd.prog (Op.equalIn 10000 34 (.agg #[.string s, .int .i64 k]) (.agg #[.string s, .int .i64 k])) W = .ok true W := by simp [go_sem]
    simp only [go_sem, he, Result.andThen]
    rfl
  have HTy := Lib.hid (fun (W : World) (hb : Below w.heap.size w W) => h.frame (Nat.le_refl _) hb)
  have HAw := Lib.hid (fun (W : World) (hb : Below w.heap.size w W) => awake9_any hJ W (hT.below hb) (hK.below hb) (hN.below hb))
  have HFe := Lib.hid (fun (W : World) (hb : Below w.heap.size w W) => few_any t _ _ W hok (HTy.out _ hb))
  have HSt := Lib.hid (fun (W : World) (hb : Below w.heap.size w W) => stamps_any t _ _ W hok (HTy.out _ hb) (hT.below hb) (hK.below hb))
  have HSr := Lib.hid (fun (W : World) (hb : Below w.heap.size w W) => refStamps_any t _ _ W hok (HTy.out _ hb))
  have HKi := Lib.hid (fun (W : World) (hb : Below w.heap.size w W) => kinds_any t _ _ W hok (HTy.out _ hb) (hT.below hb) (hK.below hb))
  have HKr := Lib.hid (fun (W : World) (hb : Below w.heap.size w W) => refKinds_any t _ _ W hok (HTy.out _ hb))
  have HVi := Lib.hid (fun (W : World) (hb : Below w.heap.size w W) => vague_any t _ _ W hok (HTy.out _ hb) (hT.below hb))
  have HVr := Lib.hid (fun (W : World) (hb : Below w.heap.size w W) => refVague_any t _ _ W hok (HTy.out _ hb))
  have hsl := stamps_len t
  obtain ⟨an, cn, aa, ca, rfl, rfl⟩ := h.shape
  generalize stampsV t = L at HSt HSr hsl
  generalize kindsC t = kc at HKi HKr
  generalize vagueV t = vg at HVi HVr
  generalize fewV t = fw at HFe
  have hx := Has.new w 25 [.int .i64 t.kind, .slice an t.names.length cn, .slice aa t.args.length ca]
  have hbw : Below w.heap.size w (w.alloc (.cells #[.int .i64 t.kind, .slice an t.names.length cn, .slice aa t.args.length ca] 25)) := (Below.refl _ w).alloc (Nat.le_refl _) _
  have HX : Hid (∀ W, Below (w.heap.size + 1) (w.alloc (.cells #[.int .i64 t.kind, .slice an t.names.length cn, .slice aa t.args.length ca] 25)) W → (W.cell? ⟨w.heap.size, 0, none⟩ = some (.int .i64 t.kind) ∧ W.cell? ⟨w.heap.size, 1, none⟩ = some (.slice an t.names.length cn) ∧ W.cell? ⟨w.heap.size, 2, none⟩ = some (.slice aa t.args.length ca)) ∧ w.heap.size < W.heap.size ∧ Below w.heap.size w W ∧ w.heap.size + 1 ≤ W.heap.size) := Lib.hid (fun W hW => by
    have g := hx.below hW (by omega)
    exact ⟨⟨g.cell 0, g.cell 1, g.cell 2⟩, g.lt, hbw.trans (hW.mono (by omega)), g.lt⟩)
  have HB0 := Lib.hid (Below.refl (w.heap.size + 1) (w.alloc (.cells #[.int .i64 t.kind, .slice an t.names.length cn, .slice aa t.args.length ca] 25)))
  clear h hok hT hK hN hJ hx hbw
  go_enter Tryd.func4, Tryd.ntmps4
  go_wp2_with fail
  change Calls _ _ _ (World.alloc w _) _
  generalize (w.alloc (.cells #[.int .i64 t.kind, .slice an t.names.length cn, .slice aa t.args.length ca] 25)) = W1 at HX HB0 ⊢
  refine (HAw.out _ (HX.out _ HB0.out).2.2.1).mono ?_
  rintro e w1 ⟨rfl, hb⟩
  have HB1 := Lib.hid (HB0.out.trans (hb.mono (HX.out _ HB0.out).2.2.2))
  obtain ⟨⟨x0, x1, x2⟩, lx, -⟩ := HX.out _ HB1.out
  clear hb
  go_wp2_with fail
  refine (HFe.out _ (HX.out _ HB1.out).2.2.1).mono ?_
  rintro e w2 ⟨rfl, hb⟩
  have HB2 := Lib.hid (HB1.out.trans (hb.mono (HX.out _ HB1.out).2.2.2))
  clear x0 x1 x2 lx
  obtain ⟨⟨x0, x1, x2⟩, lx, hv, -⟩ := HX.out _ HB2.out
  have HV2 := Lib.hid hv
  clear hb hv
  cases fw
  · go_wp2
    go_ret
    exact ⟨rfl, HV2.out⟩
  have HS : Hid (∀ W, Below (w.heap.size + 1) W1 W → W.cell? ⟨w.heap.size, 0, none⟩ = some (.int .i64 t.kind) ∧ W.cell? ⟨w.heap.size, 1, none⟩ = some (.slice an t.names.length cn) ∧ W.cell? ⟨w.heap.size, 2, none⟩ = some (.slice aa t.args.length ca)) := Lib.hid (fun W hW => (HX.out W hW).1)
  have HNx : Hid (∀ W W', Below (w.heap.size + 1) W1 W → Below W.heap.size W W' → Below (w.heap.size + 1) W1 W') := Lib.hid (fun W W' h1 h2 => h1.trans (h2.mono (HX.out _ h1).2.2.2))
  have hbr := HB2.out
  go_wp2
  go_region_held3 (fun W => W.cell? ⟨w.heap.size, 0, none⟩ = some (.int .i64 t.kind) ∧ W.cell? ⟨w.heap.size, 1, none⟩ = some (.slice an t.names.length cn) ∧ W.cell? ⟨w.heap.size, 2, none⟩ = some (.slice aa t.args.length ca))
    (exact HS.out _ (by repeat (first | exact HB2.out | assumption | refine Below.drew ?_)))
    (first
      | (go_at_call 13
         refine (HSt.out _ (HX.out _ (by repeat (first | exact HB2.out | assumption | refine Below.drew ?_))).2.2.1).mono ?_
         rintro e w3 ⟨v3, rfl, ho3, hb3⟩
         obtain ⟨a3, c3, rfl⟩ := stamp_shape ho3
         have hq3 : Below (w.heap.size + 1) W1 w3 := HNx.out _ _ (by repeat (first | exact HB2.out | refine Below.drew ?_)) hb3)
      | (go_at_call 14
         refine (HSr.out _ (HX.out _ (by repeat (first | exact hq3 | refine Below.drew ?_))).2.2.1).mono ?_
         rintro e w4 ⟨v4, rfl, ho4, hb4⟩
         obtain ⟨a4, c4, rfl⟩ := stamp_shape ho4
         have ho5 := own_keeps ho3 (Keeps.below' hb4 []) (fun g _ hm => by simp at hm)
         have hq4 : Below (w.heap.size + 1) W1 w4 := HNx.out _ _ hq3 hb4))
  have HO3 := Lib.hid ho5
  have HO4 := Lib.hid ho4
  have HB4 := Lib.hid hq4
  clear ho3 ho4 ho5 hb3 hb4 hq3 hq4 hbr x0 x1 x2 lx
  obtain ⟨⟨x0, x1, x2⟩, lx, -⟩ := HX.out _ HB4.out
  go_wp2
  go_region_held3 (fun W => W.cell? ⟨w.heap.size, 0, none⟩ = some (.int .i64 t.kind) ∧ W.cell? ⟨w.heap.size, 1, none⟩ = some (.slice an t.names.length cn) ∧ W.cell? ⟨w.heap.size, 2, none⟩ = some (.slice aa t.args.length ca))
    (exact HS.out _ (by repeat (first | exact HB4.out | assumption | refine Below.drew ?_)))
    (first
      | (go_at_call 15
         refine (HKi.out _ (HX.out _ (by repeat (first | exact HB4.out | refine Below.drew ?_))).2.2.1).mono ?_
         rintro e w5 ⟨rfl, hb5⟩
         have hq5 : Below (w.heap.size + 1) W1 w5 := HNx.out _ _ (by repeat (first | exact HB4.out | refine Below.drew ?_)) hb5
         have hk5 : Below w4.heap.size w4 w5 := below_in (by repeat (first | exact Below.refl _ _ | refine Below.drew ?_)) hb5)
      | (go_at_call 16
         refine (HKr.out _ (HX.out _ hq5).2.2.1).mono ?_
         rintro e w6 ⟨rfl, hb6⟩
         have hq6 : Below (w.heap.size + 1) W1 w6 := HNx.out _ _ hq5 hb6
         have hk6 : Below w4.heap.size w4 w6 := below_in hk5 hb6)
      | (go_at_call 17
         refine (HVi.out _ (HX.out _ hq6).2.2.1).mono ?_
         rintro e w7 ⟨rfl, hb7⟩
         have hq7 : Below (w.heap.size + 1) W1 w7 := HNx.out _ _ hq6 hb7
         have hk7 : Below w4.heap.size w4 w7 := below_in hk6 hb7)
      | (go_at_call 18
         refine (HVr.out _ (HX.out _ hq7).2.2.1).mono ?_
         rintro e w8 ⟨rfl, hb8⟩
         have hq8 : Below (w.heap.size + 1) W1 w8 := HNx.out _ _ hq7 hb8
         have hk8 : Below w4.heap.size w4 w8 := below_in hk7 hb8))
  have HB8 := Lib.hid (HX.out _ hq8).2.2.1
  have HP3 := Lib.hid (own_keeps HO3.out (Keeps.below' hk8 []) (fun g _ hm => by simp at hm))
  have HP4 := Lib.hid (own_keeps HO4.out (Keeps.below' hk8 []) (fun g _ hm => by simp at hm))
  clear x0 x1 x2 lx hb5 hb6 hb7 hb8 hq5 hq6 hq7 hq8 hk5 hk6 hk7 hk8
  obtain ⟨m, hm⟩ : ∃ m, L.length = m := ⟨_, rfl⟩
  have HM := Lib.hid hm
  rw [hm] at hsl
  rw [hm]
  clear hm
  have HR8 := Lib.hid (Below.refl w8.heap.size w8)
  go_wp2
  go_loopw [36] (fun i wr => ∃ k : Nat, i = .int .i64 (k : Int) ∧ k ≤ m ∧ Hid (Below w8.heap.size w8 wr)) (fun i _ => m - (intOf i).toNat)
  case atStart => exact ⟨0, rfl, by omega, HR8⟩
  case round =>
    obtain ⟨k, rfl, hk, HB⟩ := hrel
    by_cases hlt : k < m
    · have hi1 : (k : Int) < (m : Int) := by omega
      have hkl : k < L.length := by rw [HM.out]; exact hlt
      have hp3 := own_keeps HP3.out (Keeps.below' HB.out []) (fun g _ hm => by simp at hm)
      have hp4 := own_keeps HP4.out (Keeps.below' HB.out []) (fun g _ hm => by simp at hm)
      obtain ⟨g3, d3, e3, x0, x1, lx⟩ := stamp_at hp3 (List.getElem?_eq_getElem hkl)
      obtain ⟨g4, d4, e4, y0, y1, ly⟩ := stamp_at hp4 (List.getElem?_eq_getElem hkl)
      injection e3 with e3 _ e3'
      injection e4 with e4 _ e4'
      subst e3 e4 e3' e4'
      generalize L[k] = s at x0 x1 y0 y1
      obtain ⟨s, kk⟩ := s
      simp only at x0 x1 y0 y1
      clear hp3 hp4 hkl
      have qS := qN s (kk : Int)
      go_wp2
      go_quiet (fail)
      have HBn : Hid (Below w8.heap.size w8 (wr.drewN nq)) := Lib.hid ⟨HB.out.os, HB.out.tape, HB.out.output, HB.out.size, fun k hk => HB.out.block k hk⟩
      go_wp2
      go_roundw
      case rel => exact ⟨k + 1, by go_num, by omega, HBn⟩
      case measure => simp [intOf]; omega
    · have HE := Lib.hid (HB8.out.trans (HB.out.mono HB8.out.size))
      go_wp2
      go_ret
      exact ⟨rfl, HE.out⟩
end TyD
end Go.Proofs.YtmcnoagihnkkcaaDoor
