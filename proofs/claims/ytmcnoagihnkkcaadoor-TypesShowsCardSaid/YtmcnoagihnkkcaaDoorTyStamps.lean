/- Stamps: both. -/
import Derived.Test.YtmcnoagihnkkcaaDoorTyText
import Derived.Test.YtmcnoagihnkkcaaDoorTyRef
import Derived.Test.YtmcnoagihnkkcaaDoorTyMeet
namespace Go.Proofs.YtmcnoagihnkkcaaDoor
open Go.RowKit ObjM
namespace TyD
open LexD (nameB WTab)

def stampsV (t : Ty) : List (ByteArray × Nat) := if t.kind = 8 ∧ checkV t = true then t.names.zip (t.args.map kindsC) else []
def rowS9 (l : List (ByteArray × Nat)) : List Value := l.flatMap fun x => [Value.string x.1, Value.int .i64 (x.2 : Int)]
def StampIs (w : World) (l : List (ByteArray × Nat)) (e : Ending) (w' : World) : Prop := ∃ v, e = .returned v ∧ w'.ownsRow w.heap.size 34 2 v l.length (rowS9 l) ∧ Below w.heap.size w w'
theorem infoStamp : (Tryd.prog.info? 34).map (fun i => (i.zero, i.size, i.bytes)) = some (some (.agg #[.string ⟨#[]⟩, .int .i64 0]), 2, 24) := by kernel_rfl
theorem stamp_len (r : Nat) : ∀ l : List Ty, l.length ≤ l.foldl (fun n a => n + sizeF r a) 0
  | [] => by simp
  | a :: l => by
    have h1 := stamp_len r l
    have h2 := sizeF_pos r a
    rw [List.foldl_cons, foldl_add (sizeF r), List.length_cons]
    omega
theorem okArgz {t : Ty} (h : TyOk t) : ∀ x ∈ t.args, TyOk x := by
  obtain ⟨k, ns, ls⟩ := t
  exact h.parts.2.2.2.2
theorem rowS9_snoc (l : List (ByteArray × Nat)) (x : ByteArray × Nat) : rowS9 (l ++ [x]) = rowS9 l ++ [Value.string x.1, Value.int .i64 (x.2 : Int)] := by simp [rowS9]
theorem stamp_push {W : World} {base : Nat} {v : Value} {xs : List (ByteArray × Nat)} (h : W.ownsRow base 34 2 v xs.length (rowS9 xs)) (s : ByteArray) (k : Nat) (hn : xs.length ≤ 1000000000000) (hb : base ≤ W.heap.size) :
    ∃ v' w', (Builtin.append_ #[30, 30] 30 #[v, .slice (some ⟨W.heap.size, 0, none⟩) 1 1]).run Tryd.prog (W.alloc (.cells #[.string s, .int .i64 (k : Int)] 34)) = .ok v' w' ∧
      w'.ownsRow base 34 2 v' (xs ++ [(s, k)]).length (rowS9 (xs ++ [(s, k)])) ∧ Below base W w' := by
  obtain ⟨i0, hi0, hz0, hz1, hz2⟩ := info_parts infoStamp
  obtain ⟨v', w', hrun, ho, hg, -, hat⟩ := run_append_own_at (P := Tryd.prog) (w := W.alloc (.cells #[.string s, .int .i64 (k : Int)] 34)) base 30 30 34 i0 (.agg #[.string ⟨#[]⟩, .int .i64 0]) 2 24 Tryd.underlying30 hi0 hz0 hz1 hz2 rfl (by decide) v xs.length (rowS9 xs) (h.alloc _) ⟨W.heap.size, 0, none⟩ 1 1 [.string s, .int .i64 (k : Int)] rfl
    (fun j u hk => by rw [addr_at, Nat.zero_add, (Has.new W 34 [.string s, .int .i64 (k : Int)]).cell]; exact hk) (by intro u hu; simp at hu; rcases hu with rfl | rfl <;> rfl) (by unfold maxLen; omega) (by omega) (by simp; omega)
  refine ⟨v', w', hrun, by rw [rowS9_snoc, List.length_append]; exact ho, ?_⟩
  exact ((Below.refl base W).alloc hb _).trans ((Keeps.grown hg).toBelow base (by simp; omega) (fun x hx => (own_lt h x (Option.mem_toList.1 hx)).1))
set_option maxRecDepth 100000 in
set_option maxHeartbeats 16000000 in
theorem stamps_any (t : Ty) (vn va : Value) (w : World) (hok : TyOk t) (h : TyAt w vn va t) (hT : WTab w) (hK : KTab w) :
    Calls Tryd.prog 13 #[.agg #[.int .i64 t.kind, vn, va]] w (StampIs w (stampsV t)) := by
  have hbw : Below w.heap.size w (w.alloc (.cells #[.int .i64 t.kind, vn, va] 25)) := (Below.refl _ w).alloc (Nat.le_refl _) _
  have hx := Has.new w 25 [.int .i64 t.kind, vn, va]
  have HCk := Lib.hid (fun (W : World) (hb : Below w.heap.size w W) => check_any t vn va W (h.frame (Nat.le_refl _) hb) hok (hT.below hb))
  have HPt : Hid (t.kind = 8 → checkV t = true → t.names.length = t.args.length ∧ t.args.length ≤ 10000) := Lib.hid (fun h8 hc => by
    have o := Ok.top hc
    have h2 := (check_iff t).1 hc
    refine ⟨(o.shape h8).1, ?_⟩
    obtain ⟨k, ns, ts⟩ := t
    have h3 := stamp_len 49 ts
    have h4 : sizeF 50 (Ty.mk k ns ts) = 1 + ts.foldl (fun n a => n + sizeF 49 a) 0 := size_args _
    simp only [Ty.args]
    omega)
  have HTs := Lib.hid (fun (W : World) (hb : Below w.heap.size w W) => (show TysAt W va t.args by obtain ⟨k, ns, ts⟩ := t; exact (h.frame (Nat.le_refl _) hb).parts.2))
  have HNs := Lib.hid (fun (W : World) (hb : Below w.heap.size w W) => (show StrsAt W vn t.names by obtain ⟨k, ns, ts⟩ := t; exact (h.frame (Nat.le_refl _) hb).parts.1))
  have HKi := Lib.hid (fun (x : Ty) (vn va : Value) (W : World) (hx : x ∈ t.args) (hb : Below w.heap.size w W) (h1 : TyAt W vn va x) => kinds_any x vn va W (okArgz hok x hx) h1 (hT.below hb) (hK.below hb))
  have HR : Hid (stampsV t = if t.kind = 8 ∧ checkV t = true then t.names.zip (t.args.map kindsC) else []) := Lib.hid rfl
  obtain ⟨R, hR⟩ : ∃ R, stampsV t = R := ⟨_, rfl⟩
  rw [hR] at HR ⊢
  obtain ⟨an, cn, aa, ca, rfl, rfl⟩ := h.shape
  generalize checkV t = q at HCk HPt HR
  obtain ⟨kd, hkd⟩ : ∃ k, t.kind = k := ⟨_, rfl⟩
  rw [hkd] at hbw hx HCk HPt HR ⊢
  have HX : Hid (∀ W, Below (w.heap.size + 1) (w.alloc (.cells #[.int .i64 kd, .slice an t.names.length cn, .slice aa t.args.length ca] 25)) W → (W.cell? ⟨w.heap.size, 0, none⟩ = some (.int .i64 kd) ∧ W.cell? ⟨w.heap.size, 1, none⟩ = some (.slice an t.names.length cn) ∧ W.cell? ⟨w.heap.size, 2, none⟩ = some (.slice aa t.args.length ca) ∧ w.heap.size < W.heap.size) ∧ Below w.heap.size w W ∧ w.heap.size + 1 ≤ W.heap.size) := Lib.hid (fun W hW => by
    have g := hx.below hW (by omega)
    exact ⟨⟨g.cell 0, g.cell 1, g.cell 2, g.lt⟩, hbw.trans (hW.mono (by omega)), g.lt⟩)
  have HB0 := Lib.hid (Below.refl (w.heap.size + 1) (w.alloc (.cells #[.int .i64 kd, .slice an t.names.length cn, .slice aa t.args.length ca] 25)))
  clear hbw hx h hok hR hkd hT hK
  by_cases k8 : kd = 8
  · subst k8
    go_enter Tryd.func13, Tryd.ntmps13
    go_wp2_with fail
    change Calls _ _ _ (World.alloc w _) _
    generalize (w.alloc (.cells #[.int .i64 8, .slice an t.names.length cn, .slice aa t.args.length ca] 25)) = W1 at HX HB0 ⊢
    refine (HCk.out _ (HX.out _ HB0.out).2.1).mono ?_
    rintro e w1 ⟨rfl, hb1⟩
    have HB1 := Lib.hid (HB0.out.trans (hb1.mono (HX.out _ HB0.out).2.2))
    clear hb1
    obtain ⟨⟨x0, x1, x2, lx⟩, hv, hs⟩ := HX.out _ HB1.out
    have HV1 := Lib.hid hv
    have HS1 := Lib.hid hs
    clear hv hs
    cases q
    · have HF : Hid (R = []) := Lib.hid (by rw [HR.out, if_neg (by simp)])
      obtain rfl := HF.out
      clear HR
      go_wp2
      go_ret
      exact ⟨_, rfl, World.ownsRow_nil _ _ _ _, HV1.out⟩
    · have HF : Hid (R = t.names.zip (t.args.map kindsC)) := Lib.hid (by rw [HR.out, if_pos (by simp)])
      obtain rfl := HF.out
      obtain ⟨hnl, hml⟩ := HPt.out (by simp) (by simp)
      obtain ⟨m, hm⟩ : ∃ m, t.args.length = m := ⟨_, rfl⟩
      have HM := Lib.hid (⟨hm, hnl.trans hm⟩ : t.args.length = m ∧ t.names.length = m)
      rw [hnl, hm] at x1
      rw [hm] at x2 hml
      clear HR HPt hnl hm
      go_wp2
      go_loopw [3, 17] (fun l0 i wr => ∃ (k : Nat) (l : Value), l0 = l ∧ i = .int .i64 (k : Int) ∧ k ≤ m ∧ Hid (wr.ownsRow (w.heap.size + 1) 34 2 l ((t.names.zip (t.args.map kindsC)).take k).length (rowS9 ((t.names.zip (t.args.map kindsC)).take k))) ∧ Hid (Below (w.heap.size + 1) W1 wr)) (fun _ i _ => m - (intOf i).toNat)
      case atStart => exact ⟨0, _, rfl, rfl, by omega, Lib.hid (World.ownsRow_nil _ _ _ _), HB1⟩
      case round =>
        obtain ⟨k, l, hl, rfl, hk, HO, HB⟩ := hrel
        have HLk : Hid (((t.names.zip (t.args.map kindsC)).take k).length = k) := Lib.hid (by rw [List.length_take, List.length_zip, List.length_map, HM.out.1, HM.out.2]; omega)
        obtain ⟨la, lc, hls⟩ : ∃ a c, l = .slice a k c := by
          rcases own_shape HO.out with ⟨h9, h8, _⟩ | ⟨g, cap, cs, h9, _⟩
          · exact ⟨none, 0, by rw [h9, ← HLk.out, h8]⟩
          · exact ⟨_, _, by rw [h9, HLk.out]⟩
        subst hls
        subst hl
        clear x0 x1 x2 lx
        obtain ⟨⟨x0, x1, x2, lx⟩, hv, hs⟩ := HX.out _ HB.out
        have HVr := Lib.hid hv
        have HSr := Lib.hid hs
        clear hv hs
        rw [HM.out.2] at x1
        rw [HM.out.1] at x2
        by_cases hlt : k < m
        · have hi1 : (k : Int) < (m : Int) := by omega
          have hkl : k < t.args.length := by rw [HM.out.1]; exact hlt
          have hkn : k < t.names.length := by rw [HM.out.2]; exact hlt
          obtain ⟨gn, on, rfl, hgn, n0⟩ := (HNs.out wr HVr.out).at k hkn
          obtain ⟨b, o, vx, ax, rfl, hb, g0, g1, g2, g3⟩ := (HTs.out _ HVr.out).at k hkl
          have HC := Lib.hid (HKi.out t.args[k] vx ax wr (List.getElem_mem hkl) HVr.out g3)
          obtain ⟨an2, cn2, ab2, cb2, rfl, rfl⟩ := g3.shape
          have HTk : Hid ((t.names.zip (t.args.map kindsC)).take (k + 1) = (t.names.zip (t.args.map kindsC)).take k ++ [(t.names[k], kindsC t.args[k])]) := Lib.hid (by
            have hz : k < (t.names.zip (t.args.map kindsC)).length := by rw [List.length_zip, List.length_map]; omega
            rw [List.take_add_one, List.getElem?_eq_getElem hz]
            simp)
          generalize t.args[k] = x at g0 g1 g2 g3 HC HTk
          generalize t.names[k] = nm at n0 HTk
          generalize kindsC x = kx at HC HTk
          clear g3 hgn hb
          go_wp2_with fail
          refine (HC.out).mono ?_
          rintro e w4 ⟨rfl, hb4⟩
          have ho4 := own_keeps HO.out (Keeps.below' hb4 []) (fun g _ hm => by simp at hm)
          obtain ⟨v', w5, hrun, ho5, hB5⟩ := stamp_push ho4 nm kx (by have := HLk.out; omega) (by have := hb4.size; have := HSr.out; omega)
          have HRun := Lib.hid hrun
          have HO5 : Hid (w5.ownsRow (w.heap.size + 1) 34 2 v' ((t.names.zip (t.args.map kindsC)).take (k + 1)).length (rowS9 ((t.names.zip (t.args.map kindsC)).take (k + 1)))) := Lib.hid (by rw [HTk.out]; exact ho5)
          have HB5 := Lib.hid ((HB.out.trans (hb4.mono HSr.out)).trans hB5)
          clear hb4 ho4 hrun ho5 hB5
          go_wp2_with (at_builtin; refine wpList_append_run (by rfl) (.tmp 22) (.tmp 31) 30 rfl _ _ _ _ rfl rfl HRun.out ?_)
          go_roundw
          case rel => exact ⟨k + 1, _, rfl, by go_num, by omega, HO5, HB5⟩
          case measure => simp [intOf]; omega
        · have hO : wr.ownsRow w.heap.size 34 2 (.slice la k lc) (t.names.zip (t.args.map kindsC)).length (rowS9 (t.names.zip (t.args.map kindsC))) := by
            have h := HO.out
            rw [List.take_of_length_le (by rw [List.length_zip, List.length_map, HM.out.1, HM.out.2]; omega)] at h
            exact own_base h (by omega)
          have HOe := Lib.hid hO
          clear hO
          go_wp2
          go_ret
          exact ⟨_, rfl, HOe.out, HVr.out⟩
  · have HF : Hid (R = []) := Lib.hid (by rw [HR.out, if_neg (fun h => k8 h.1)])
    obtain rfl := HF.out
    have hk8 : (kd == 8) = false := by simpa using k8
    have hk9 : (kd != 8) = true := by simpa using k8
    have HE := Lib.hid (HX.out _ HB0.out).2.1
    clear HR k8
    go_enter Tryd.func13, Tryd.ntmps13
    go_wp2
    go_ret
    exact ⟨_, rfl, World.ownsRow_nil _ _ _ _, HE.out⟩
set_option maxRecDepth 100000 in
set_option maxHeartbeats 16000000 in
theorem refStamps_any (t : Ty) (vn va : Value) (w : World) (hok : TyOk t) (h : TyAt w vn va t) :
    Calls Tryd.prog 14 #[.agg #[.int .i64 t.kind, vn, va]] w (StampIs w (stampsV t)) := by
  have hbw : Below w.heap.size w (w.alloc (.cells #[.int .i64 t.kind, vn, va] 25)) := (Below.refl _ w).alloc (Nat.le_refl _) _
  have hx := Has.new w 25 [.int .i64 t.kind, vn, va]
  have HCk := Lib.hid (fun (W : World) (hb : Below w.heap.size w W) => refCheck_any t vn va W (h.frame (Nat.le_refl _) hb) hok)
  have HPt : Hid (t.kind = 8 → checkV t = true → t.names.length = t.args.length ∧ t.args.length ≤ 10000) := Lib.hid (fun h8 hc => by
    have o := Ok.top hc
    have h2 := (check_iff t).1 hc
    refine ⟨(o.shape h8).1, ?_⟩
    obtain ⟨k, ns, ts⟩ := t
    have h3 := stamp_len 49 ts
    have h4 : sizeF 50 (Ty.mk k ns ts) = 1 + ts.foldl (fun n a => n + sizeF 49 a) 0 := size_args _
    simp only [Ty.args]
    omega)
  have HTs := Lib.hid (fun (W : World) (hb : Below w.heap.size w W) => (show TysAt W va t.args by obtain ⟨k, ns, ts⟩ := t; exact (h.frame (Nat.le_refl _) hb).parts.2))
  have HNs := Lib.hid (fun (W : World) (hb : Below w.heap.size w W) => (show StrsAt W vn t.names by obtain ⟨k, ns, ts⟩ := t; exact (h.frame (Nat.le_refl _) hb).parts.1))
  have HKi := Lib.hid (fun (x : Ty) (vn va : Value) (W : World) (hx : x ∈ t.args) (hb : Below w.heap.size w W) (h1 : TyAt W vn va x) => refKinds_any x vn va W (okArgz hok x hx) h1)
  have HR : Hid (stampsV t = if t.kind = 8 ∧ checkV t = true then t.names.zip (t.args.map kindsC) else []) := Lib.hid rfl
  obtain ⟨R, hR⟩ : ∃ R, stampsV t = R := ⟨_, rfl⟩
  rw [hR] at HR ⊢
  obtain ⟨an, cn, aa, ca, rfl, rfl⟩ := h.shape
  generalize checkV t = q at HCk HPt HR
  obtain ⟨kd, hkd⟩ : ∃ k, t.kind = k := ⟨_, rfl⟩
  rw [hkd] at hbw hx HCk HPt HR ⊢
  have HX : Hid (∀ W, Below (w.heap.size + 1) (w.alloc (.cells #[.int .i64 kd, .slice an t.names.length cn, .slice aa t.args.length ca] 25)) W → (W.cell? ⟨w.heap.size, 0, none⟩ = some (.int .i64 kd) ∧ W.cell? ⟨w.heap.size, 1, none⟩ = some (.slice an t.names.length cn) ∧ W.cell? ⟨w.heap.size, 2, none⟩ = some (.slice aa t.args.length ca) ∧ w.heap.size < W.heap.size) ∧ Below w.heap.size w W ∧ w.heap.size + 1 ≤ W.heap.size) := Lib.hid (fun W hW => by
    have g := hx.below hW (by omega)
    exact ⟨⟨g.cell 0, g.cell 1, g.cell 2, g.lt⟩, hbw.trans (hW.mono (by omega)), g.lt⟩)
  have HB0 := Lib.hid (Below.refl (w.heap.size + 1) (w.alloc (.cells #[.int .i64 kd, .slice an t.names.length cn, .slice aa t.args.length ca] 25)))
  clear hbw hx h hok hR hkd
  by_cases k8 : kd = 8
  · subst k8
    go_enter Tryd.func14, Tryd.ntmps14
    go_wp2_with fail
    change Calls _ _ _ (World.alloc w _) _
    generalize (w.alloc (.cells #[.int .i64 8, .slice an t.names.length cn, .slice aa t.args.length ca] 25)) = W1 at HX HB0 ⊢
    refine (HCk.out _ (HX.out _ HB0.out).2.1).mono ?_
    rintro e w1 ⟨rfl, hb1⟩
    have HB1 := Lib.hid (HB0.out.trans (hb1.mono (HX.out _ HB0.out).2.2))
    clear hb1
    obtain ⟨⟨x0, x1, x2, lx⟩, hv, hs⟩ := HX.out _ HB1.out
    have HV1 := Lib.hid hv
    have HS1 := Lib.hid hs
    clear hv hs
    cases q
    · have HF : Hid (R = []) := Lib.hid (by rw [HR.out, if_neg (by simp)])
      obtain rfl := HF.out
      clear HR
      go_wp2
      go_ret
      exact ⟨_, rfl, World.ownsRow_nil _ _ _ _, HV1.out⟩
    · have HF : Hid (R = t.names.zip (t.args.map kindsC)) := Lib.hid (by rw [HR.out, if_pos (by simp)])
      obtain rfl := HF.out
      obtain ⟨hnl, hml⟩ := HPt.out (by simp) (by simp)
      obtain ⟨m, hm⟩ : ∃ m, t.args.length = m := ⟨_, rfl⟩
      have HM := Lib.hid (⟨hm, hnl.trans hm⟩ : t.args.length = m ∧ t.names.length = m)
      rw [hnl, hm] at x1
      rw [hm] at x2 hml
      clear HR HPt hnl hm
      go_wp2
      go_loopw [3, 16] (fun l0 i wr => ∃ (k : Nat) (l : Value), l0 = l ∧ i = .int .i64 (k : Int) ∧ k ≤ m ∧ Hid (wr.ownsRow (w.heap.size + 1) 34 2 l ((t.names.zip (t.args.map kindsC)).take k).length (rowS9 ((t.names.zip (t.args.map kindsC)).take k))) ∧ Hid (Below (w.heap.size + 1) W1 wr)) (fun _ i _ => m - (intOf i).toNat)
      case atStart => exact ⟨0, _, rfl, rfl, by omega, Lib.hid (World.ownsRow_nil _ _ _ _), HB1⟩
      case round =>
        obtain ⟨k, l, hl, rfl, hk, HO, HB⟩ := hrel
        have HLk : Hid (((t.names.zip (t.args.map kindsC)).take k).length = k) := Lib.hid (by rw [List.length_take, List.length_zip, List.length_map, HM.out.1, HM.out.2]; omega)
        obtain ⟨la, lc, hls⟩ : ∃ a c, l = .slice a k c := by
          rcases own_shape HO.out with ⟨h9, h8, _⟩ | ⟨g, cap, cs, h9, _⟩
          · exact ⟨none, 0, by rw [h9, ← HLk.out, h8]⟩
          · exact ⟨_, _, by rw [h9, HLk.out]⟩
        subst hls
        subst hl
        clear x0 x1 x2 lx
        obtain ⟨⟨x0, x1, x2, lx⟩, hv, hs⟩ := HX.out _ HB.out
        have HVr := Lib.hid hv
        have HSr := Lib.hid hs
        clear hv hs
        rw [HM.out.2] at x1
        rw [HM.out.1] at x2
        by_cases hlt : k < m
        · have hi1 : (k : Int) < (m : Int) := by omega
          have hkl : k < t.args.length := by rw [HM.out.1]; exact hlt
          have hkn : k < t.names.length := by rw [HM.out.2]; exact hlt
          obtain ⟨gn, on, rfl, hgn, n0⟩ := (HNs.out wr HVr.out).at k hkn
          obtain ⟨b, o, vx, ax, rfl, hb, g0, g1, g2, g3⟩ := (HTs.out _ HVr.out).at k hkl
          have HC := Lib.hid (HKi.out t.args[k] vx ax wr (List.getElem_mem hkl) HVr.out g3)
          obtain ⟨an2, cn2, ab2, cb2, rfl, rfl⟩ := g3.shape
          have HTk : Hid ((t.names.zip (t.args.map kindsC)).take (k + 1) = (t.names.zip (t.args.map kindsC)).take k ++ [(t.names[k], kindsC t.args[k])]) := Lib.hid (by
            have hz : k < (t.names.zip (t.args.map kindsC)).length := by rw [List.length_zip, List.length_map]; omega
            rw [List.take_add_one, List.getElem?_eq_getElem hz]
            simp)
          generalize t.args[k] = x at g0 g1 g2 g3 HC HTk
          generalize t.names[k] = nm at n0 HTk
          generalize kindsC x = kx at HC HTk
          clear g3 hgn hb
          go_wp2_with fail
          refine (HC.out).mono ?_
          rintro e w4 ⟨rfl, hb4⟩
          have ho4 := own_keeps HO.out (Keeps.below' hb4 []) (fun g _ hm => by simp at hm)
          obtain ⟨v', w5, hrun, ho5, hB5⟩ := stamp_push ho4 nm kx (by have := HLk.out; omega) (by have := hb4.size; have := HSr.out; omega)
          have HRun := Lib.hid hrun
          have HO5 : Hid (w5.ownsRow (w.heap.size + 1) 34 2 v' ((t.names.zip (t.args.map kindsC)).take (k + 1)).length (rowS9 ((t.names.zip (t.args.map kindsC)).take (k + 1)))) := Lib.hid (by rw [HTk.out]; exact ho5)
          have HB5 := Lib.hid ((HB.out.trans (hb4.mono HSr.out)).trans hB5)
          clear hb4 ho4 hrun ho5 hB5
          go_wp2_with (at_builtin; refine wpList_append_run (by rfl) (.tmp 21) (.tmp 30) 30 rfl _ _ _ _ rfl rfl HRun.out ?_)
          go_roundw
          case rel => exact ⟨k + 1, _, rfl, by go_num, by omega, HO5, HB5⟩
          case measure => simp [intOf]; omega
        · have hO : wr.ownsRow w.heap.size 34 2 (.slice la k lc) (t.names.zip (t.args.map kindsC)).length (rowS9 (t.names.zip (t.args.map kindsC))) := by
            have h := HO.out
            rw [List.take_of_length_le (by rw [List.length_zip, List.length_map, HM.out.1, HM.out.2]; omega)] at h
            exact own_base h (by omega)
          have HOe := Lib.hid hO
          clear hO
          go_wp2
          go_ret
          exact ⟨_, rfl, HOe.out, HVr.out⟩
  · have HF : Hid (R = []) := Lib.hid (by rw [HR.out, if_neg (fun h => k8 h.1)])
    obtain rfl := HF.out
    have hk8 : (kd == 8) = false := by simpa using k8
    have hk9 : (kd != 8) = true := by simpa using k8
    have HE := Lib.hid (HX.out _ HB0.out).2.1
    clear HR k8
    go_enter Tryd.func14, Tryd.ntmps14
    go_wp2
    go_ret
    exact ⟨_, rfl, World.ownsRow_nil _ _ _ _, HE.out⟩
end TyD
end Go.Proofs.YtmcnoagihnkkcaaDoor
