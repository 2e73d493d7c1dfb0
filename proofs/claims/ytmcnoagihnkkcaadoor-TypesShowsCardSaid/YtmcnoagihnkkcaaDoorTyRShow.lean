/- The document's show. -/
import Derived.Test.YtmcnoagihnkkcaaDoorTyRShowM
import Derived.Deep.RegionHeld3
namespace Go.Proofs.YtmcnoagihnkkcaaDoor
open Go.RowKit ObjM
namespace TyD
open LexD (nameB WTab)

set_option maxRecDepth 100000 in
set_option maxHeartbeats 32000000 in
theorem refText_any : ∀ (r : Nat) (t : Ty) (vn va : Value) (w : World), validB r t = true → TyOk t → wtF r t ≤ 1000000000000 → TyAt w vn va t →
    Calls Tryd.prog 24 #[.agg #[.int .i64 t.kind, vn, va]] w (StrB w (txtF r t)) := by
  intro r
  induction r with
  | zero =>
    intro t vn va w hv
    cases hv
  | succ r ih =>
    intro t vn va w hv hok hwt h
    obtain ⟨kd, ns, ts⟩ := t
    obtain ⟨hpb, q, hq, hva⟩ := valid_parts hv
    obtain rfl : r = q := by omega
    obtain ⟨hn, ha⟩ := h.parts
    obtain ⟨hkk, ok1, ok2, ok3, ok4⟩ := hok.parts
    have hw1 : wtF (r + 1) (.mk kd ns ts) = 20 + sumL (ns.map ByteArray.size) + sumL (ts.map (wtF r)) := by rw [wtF]
    have hsum := sum_le (fun t => (txtF r t).size) (wtF r) ts fun a _ => txt_size r a
    have hm0 : (ts.map fun t => (txtF r t).size) = (ts.map (txtF r)).map ByteArray.size := by simp
    rw [hm0] at hsum
    have hml : ts.length ≤ 1000000000000 := by omega
    have HR : Hid (txtF (r + 1) (.mk kd ns ts) = if kd = 7 then joinB (ts.map (txtF r)) barB
      else if kd = 8 then openB ++ joinB (List.zipWith fieldT ns (ts.map (txtF r))) commaB ++ shutB
      else if kd = 9 then parB ++ joinB (ts.map (txtF r)).dropLast commaB ++ arrB ++ (ts.map (txtF r)).getLastD ⟨#[]⟩
      else baseName kd) := Lib.hid (by rw [txtF])
    have HIH := Lib.hid (fun (x : Ty) (vn va : Value) (W : World) (hx : x ∈ ts) (_ : Below w.heap.size w W) h1 => ih x vn va W (hva x hx) (ok4 x hx) (by have := sum_mem (wtF r) hx; omega) h1)
    have HV := Lib.hid (fun (W : World) (hb : Below w.heap.size w W) => ha.below (Nat.le_refl _) hb)
    have HNs := Lib.hid (fun (W : World) (hb : Below w.heap.size w W) => hn.below (Nat.le_refl _) hb)
    have HNm : Hid (∀ k (hk : k < ns.length), ns[k].size ≤ 1000000000000) := Lib.hid (fun k hk => by have := sum_mem ByteArray.size (List.getElem_mem hk); omega)
    have HTs : Hid (∀ x ∈ ts, (txtF r x).size ≤ 1000000000000) := Lib.hid (fun x hx => by
      have := sum_mem (wtF r) hx
      have := txt_size r x
      omega)
    have HB7 : Hid (barB.size * (ts.map (txtF r)).length + sumL ((ts.map (txtF r)).map ByteArray.size) ≤ 1000000000000) := Lib.hid (by
      have e : barB.size = 3 := rfl
      rw [e, List.length_map]
      omega)
    have HB8 : Hid (commaB.size * (List.zipWith fieldT ns (ts.map (txtF r))).length + sumL ((List.zipWith fieldT ns (ts.map (txtF r))).map ByteArray.size) ≤ 1000000000000) := Lib.hid (by
      have e : commaB.size = 2 := rfl
      have h1 := sum_zip ns (ts.map (txtF r))
      have h2 := zip_len ns (ts.map (txtF r))
      rw [List.length_map] at h1 h2
      rw [e]
      omega)
    have HB9 : Hid (commaB.size * (ts.map (txtF r)).dropLast.length + sumL ((ts.map (txtF r)).dropLast.map ByteArray.size) ≤ 1000000000000) := Lib.hid (by
      have e : commaB.size = 2 := rfl
      have h1 := sum_drop (ts.map (txtF r))
      rw [List.length_map] at h1
      rw [e]
      omega)
    have HC9 := Lib.hid (parts_cases hpb)
    obtain ⟨R, hR⟩ : ∃ R, txtF (r + 1) (.mk kd ns ts) = R := ⟨_, rfl⟩
    change Calls _ _ #[.agg #[.int .i64 kd, vn, va]] w _
    rw [hR] at HR ⊢
    obtain ⟨an, cn, rfl⟩ := hn.shape
    obtain ⟨aa, ca, rfl⟩ := ha.shape
    have hx0 := Has.new w 25 [.int .i64 kd, .slice an ns.length cn, .slice aa ts.length ca]
    have hb0 : Below w.heap.size w (w.alloc (.cells #[.int .i64 kd, .slice an ns.length cn, .slice aa ts.length ca] 25)) := (Below.refl _ w).alloc (Nat.le_refl _) _
    have hcap : aa = none ∨ ts.length ≤ ca := by
      obtain ⟨_, _, ⟨av2, cap2, e, h1, _, _, _⟩, _⟩ := ha
      injection e with e1 e2 e3
      exact .inr (e3 ▸ h1)
    obtain ⟨m, hm⟩ : ∃ m, ts.length = m := ⟨_, rfl⟩
    have HM := Lib.hid hm
    rw [hm] at hml hcap hx0 hb0 ⊢
    have HX : Hid (∀ W, Below (w.heap.size + 1) (w.alloc (.cells #[.int .i64 kd, .slice an ns.length cn, .slice aa m ca] 25)) W → (W.cell? ⟨w.heap.size, 0, none⟩ = some (.int .i64 kd) ∧ W.cell? ⟨w.heap.size, 1, none⟩ = some (.slice an ns.length cn) ∧ W.cell? ⟨w.heap.size, 2, none⟩ = some (.slice aa m ca) ∧ w.heap.size < W.heap.size) ∧ Below w.heap.size w W ∧ w.heap.size + 1 ≤ W.heap.size) := Lib.hid (fun W hW => by
      have g := hx0.below hW (by omega)
      exact ⟨⟨g.cell 0, g.cell 1, g.cell 2, g.lt⟩, hb0.trans (hW.mono (by omega)), g.lt⟩)
    have HB0 := Lib.hid (Below.refl (w.heap.size + 1) (w.alloc (.cells #[.int .i64 kd, .slice an ns.length cn, .slice aa m ca] 25)))
    clear h hok hwt hn ha ok2 ok4 ok1 ok3 ih hva hv hpb hq hw1 hsum hm0 hR hm hx0 hb0
    have HTl : Hid ((ts.map (txtF r)).length = m) := Lib.hid (by rw [List.length_map, HM.out])
    generalize hls : ts.map (txtF r) = ls at HR HB7 HB8 HB9 HTl
    have HLs := Lib.hid hls
    clear hls
    rcases HC9.out with rfl | ⟨rfl, hnl⟩ | ⟨rfl, hm1⟩ | ⟨h0, h6⟩
    · have HF : Hid (R = joinB (ts.map (txtF r)) barB) := Lib.hid (by rw [HR.out, HLs.out]; rfl)
      have HBnd := Lib.hid (HLs.out ▸ HB7.out : barB.size * (ts.map (txtF r)).length + sumL ((ts.map (txtF r)).map ByteArray.size) ≤ 1000000000000)
      have HEl : Hid ((ts.map (txtF r)).length = m) := Lib.hid (by rw [HLs.out]; exact HTl.out)
      clear HR HC9 HB7 HB8 HB9
      go_enter Tryd.func24, Tryd.ntmps24
      go_wp2
      change Code.wp _ _ _ _ (World.alloc w _)
      generalize (w.alloc (.cells #[.int .i64 7, .slice an ns.length cn, .slice aa m ca] 25)) = W1 at HX HB0 ⊢
      go_loopw [3, 17] (fun s0 i wr => ∃ (k : Nat) (s : ByteArray), s0 = .string s ∧ i = .int .i64 (k : Int) ∧ k ≤ m ∧ Hid (s = joinB ((ts.map (txtF r)).take k) barB) ∧ Hid (Below (w.heap.size + 1) W1 wr)) (fun _ i _ => m - (intOf i).toNat)
      case atStart => exact ⟨0, _, rfl, rfl, by omega, Lib.hid rfl, HB0⟩
      case round =>
        obtain ⟨k, s, hs0, rfl, hk, HSs, HB⟩ := hrel
        subst hs0
        obtain ⟨⟨x0, x1, x2, lx⟩, hv, hs⟩ := HX.out _ HB.out
        have HVr := Lib.hid hv
        have HSr := Lib.hid hs
        clear hv hs
        have hss : s.size ≤ 1000000000000 := by rw [HSs.out]; exact Nat.le_trans (jsize _ _ _) HBnd.out
        by_cases hlt : k < m
        · have hi1 : (k : Int) < (m : Int) := by omega
          have hkl : k < ts.length := by rw [HM.out]; omega
          have hke : k < (ts.map (txtF r)).length := by rw [HEl.out]; exact hlt
          obtain ⟨b, o, vx, ax, hav, hb, g0, g1, g2, g3⟩ := (HV.out _ HVr.out).at k hkl
          obtain rfl := hav
          have HC := Lib.hid (fun W (hW : Below wr.heap.size wr W) => HIH.out ts[k] vx ax W (List.getElem_mem hkl) (HVr.out.trans (hW.mono HVr.out.size)) (g3.frame (Nat.le_refl _) hW))
          obtain ⟨an2, cn2, ab2, cb2, rfl, rfl⟩ := g3.shape
          have HJt := Lib.hid (jtake (sep := barB) hke)
          have HEk : Hid ((ts.map (txtF r))[k] = txtF r ts[k]) := Lib.hid (by simp)
          have htz : (txtF r ts[k]).size ≤ 1000000000000 := HTs.out ts[k] (List.getElem_mem hkl)
          rw [HEk.out] at HJt
          clear HEk
          generalize ts[k] = x at g0 g1 g2 g3 HC HJt htz
          generalize txtF r x = tx at HC HJt htz
          have hbx : Below wr.heap.size wr (wr.alloc (.cells #[.int .i64 x.kind, .slice an2 x.names.length cn2, .slice ab2 x.args.length cb2] 25)) := (Below.refl _ wr).alloc (Nat.le_refl _) _
          have HBx := Lib.hid hbx
          have hbn := Has.new wr 25 [.int .i64 x.kind, .slice an2 x.names.length cn2, .slice ab2 x.args.length cb2]
          have hz1 : ¬ 9223372036854775807 < s.size + 3 := by omega
          have hz2 : ¬ 9223372036854775807 < s.size + tx.size := by omega
          have hz3 : ¬ 9223372036854775807 < s.size + 3 + tx.size := by omega
          clear g3 hbx hkl
          by_cases hk0 : k = 0
          · have HK0 := Lib.hid hk0
            have hk1 : ¬ (0 : Int) < (k : Int) := by omega
            clear hk0
            have hs0 : s = ⟨#[]⟩ := by rw [HSs.out, HK0.out]; rfl
            subst hs0
            have HJn : Hid ((⟨#[]⟩ : ByteArray) ++ tx = joinB ((ts.map (txtF r)).take (k + 1)) barB) := Lib.hid (HJt.out.1 HK0.out)
            clear hbn
            go_wp2_with fail
            refine (HC.out _ HBx.out).mono ?_
            rintro e w4 ⟨rfl, hb4⟩
            have HB4 := Lib.hid (HB.out.trans ((below_in HBx.out hb4).mono HSr.out))
            clear hb4
            go_wp2
            go_roundw
            case rel => exact ⟨k + 1, _, rfl, by go_num, by omega, HJn, HB4⟩
            case measure => simp [intOf]; omega
          · have hk1 : (0 : Int) < (k : Int) := by omega
            have HJn : Hid (s ++ barB ++ tx = joinB ((ts.map (txtF r)).take (k + 1)) barB) := Lib.hid (by rw [HSs.out]; exact HJt.out.2 (by omega))
            clear hbn
            go_wp2_with fail
            refine (HC.out _ HBx.out).mono ?_
            rintro e w4 ⟨rfl, hb4⟩
            have HB4 := Lib.hid (HB.out.trans ((below_in HBx.out hb4).mono HSr.out))
            clear hb4
            go_wp2
            go_roundw
            case rel => exact ⟨k + 1, _, rfl, by go_num, by omega, HJn, HB4⟩
            case measure => simp [intOf]; omega
        · have hke : k = (ts.map (txtF r)).length := by rw [HEl.out]; omega
          have HSe : Hid (s = joinB (ts.map (txtF r)) barB) := Lib.hid (by rw [HSs.out, List.take_of_length_le (by omega)])
          clear hke HSs
          obtain rfl := HF.out
          go_wp2
          go_ret
          exact ⟨by rw [HSe.out]; rfl, HVr.out⟩
    · have HF : Hid (R = openB ++ joinB (List.zipWith fieldT ns (ts.map (txtF r))) commaB ++ shutB) := Lib.hid (by rw [HR.out, HLs.out]; rfl)
      have HBnd := Lib.hid (HLs.out ▸ HB8.out : commaB.size * (List.zipWith fieldT ns (ts.map (txtF r))).length + sumL ((List.zipWith fieldT ns (ts.map (txtF r))).map ByteArray.size) ≤ 1000000000000)
      have HNl : Hid (ns.length = ts.length) := Lib.hid hnl
      have HEl : Hid ((List.zipWith fieldT ns (ts.map (txtF r))).length = m) := Lib.hid (by rw [List.length_zipWith, HLs.out, HTl.out, HNl.out, HM.out]; omega)
      clear HR HC9 HB7 HB8 HB9 hnl
      go_enter Tryd.func24, Tryd.ntmps24
      go_wp2
      change Code.wp _ _ _ _ (World.alloc w _)
      generalize (w.alloc (.cells #[.int .i64 8, .slice an ns.length cn, .slice aa m ca] 25)) = W1 at HX HB0 ⊢
      go_loopw [3, 37] (fun s0 i wr => ∃ (k : Nat) (s : ByteArray), s0 = .string s ∧ i = .int .i64 (k : Int) ∧ k ≤ m ∧ Hid (s = joinB ((List.zipWith fieldT ns (ts.map (txtF r))).take k) commaB) ∧ Hid (Below (w.heap.size + 1) W1 wr)) (fun _ i _ => m - (intOf i).toNat)
      case atStart => exact ⟨0, _, rfl, rfl, by omega, Lib.hid rfl, HB0⟩
      case round =>
        obtain ⟨k, s, hs0, rfl, hk, HSs, HB⟩ := hrel
        subst hs0
        obtain ⟨⟨x0, x1, x2, lx⟩, hv, hs⟩ := HX.out _ HB.out
        have HVr := Lib.hid hv
        have HSr := Lib.hid hs
        clear hv hs
        have hss : s.size ≤ 1000000000000 := by rw [HSs.out]; exact Nat.le_trans (jsize _ _ _) HBnd.out
        by_cases hlt : k < m
        · have hi1 : (k : Int) < (m : Int) := by omega
          have hkl : k < ts.length := by rw [HM.out]; omega
          have hke : k < (List.zipWith fieldT ns (ts.map (txtF r))).length := by rw [HEl.out]; exact hlt
          obtain ⟨b, o, vx, ax, hav, hb, g0, g1, g2, g3⟩ := (HV.out _ HVr.out).at k hkl
          obtain rfl := hav
          have HC := Lib.hid (fun W (hW : Below wr.heap.size wr W) => HIH.out ts[k] vx ax W (List.getElem_mem hkl) (HVr.out.trans (hW.mono HVr.out.size)) (g3.frame (Nat.le_refl _) hW))
          obtain ⟨an2, cn2, ab2, cb2, rfl, rfl⟩ := g3.shape
          have hkn : k < ns.length := by have := HNl.out; have := HM.out; omega
          obtain ⟨gn, on, rfl, hgn, n0⟩ := (HNs.out wr HVr.out).at k hkn
          have HJt := Lib.hid (jtake (sep := commaB) hke)
          have HEk : Hid ((List.zipWith fieldT ns (ts.map (txtF r)))[k] = fieldT ns[k] (txtF r ts[k])) := Lib.hid (by simp [List.getElem_zipWith])
          have hnz : ns[k].size ≤ 1000000000000 := HNm.out k hkn
          have htz : (txtF r ts[k]).size ≤ 1000000000000 := HTs.out ts[k] (List.getElem_mem hkl)
          rw [HEk.out] at HJt
          clear HEk
          generalize ns[k] = nm at HJt n0 hnz
          generalize ts[k] = x at g0 g1 g2 g3 HC HJt htz
          generalize txtF r x = tx at HC HJt htz
          have hbx : Below wr.heap.size wr (wr.alloc (.cells #[.int .i64 x.kind, .slice an2 x.names.length cn2, .slice ab2 x.args.length cb2] 25)) := (Below.refl _ wr).alloc (Nat.le_refl _) _
          have HBx := Lib.hid hbx
          have hbn := Has.new wr 25 [.int .i64 x.kind, .slice an2 x.names.length cn2, .slice ab2 x.args.length cb2]
          have hz1 : ¬ 9223372036854775807 < s.size + 2 := by omega
          have hz2 : ¬ 9223372036854775807 < nm.size + 2 := by omega
          have hz3 : ¬ 9223372036854775807 < nm.size + 2 + tx.size := by omega
          have hz4 : ¬ 9223372036854775807 < s.size + (nm.size + 2 + tx.size) := by omega
          have hz5 : ¬ 9223372036854775807 < s.size + 2 + (nm.size + 2 + tx.size) := by omega
          clear g3 hbx hkl
          by_cases hk0 : k = 0
          · have HK0 := Lib.hid hk0
            have hk1 : ¬ (0 : Int) < (k : Int) := by omega
            clear hk0
            have hs0 : s = ⟨#[]⟩ := by rw [HSs.out, HK0.out]; rfl
            subst hs0
            have HR9 : Hid (∀ W, Below wr.heap.size wr W → (W.cell? ⟨w.heap.size, 1, none⟩ = some (.slice (some ⟨gn, on, none⟩) ns.length cn) ∧ W.cell? ⟨gn, on + k, none⟩ = some (.string nm))) := Lib.hid (fun W hW => ⟨(hW.cell (p := ⟨w.heap.size, 1, none⟩) lx).trans x1, (hW.cell (p := ⟨gn, on + k, none⟩) hgn).trans n0⟩)
            have HQ9 : Hid (∀ W, Below (wr.heap.size + 1) (wr.alloc (.cells #[.int .i64 x.kind, .slice an2 x.names.length cn2, .slice ab2 x.args.length cb2] 25)) W → (W.cell? ⟨wr.heap.size, 0, none⟩ = some (.int .i64 x.kind) ∧ W.cell? ⟨wr.heap.size, 1, none⟩ = some (.slice an2 x.names.length cn2) ∧ W.cell? ⟨wr.heap.size, 2, none⟩ = some (.slice ab2 x.args.length cb2)) ∧ Below wr.heap.size wr W ∧ wr.heap.size + 1 ≤ W.heap.size) := Lib.hid (fun W hW => by
              have g := hbn.below hW (by omega)
              exact ⟨⟨g.cell 0, g.cell 1, g.cell 2⟩, HBx.out.trans (hW.mono (by omega)), g.lt⟩)
            have hb0 := Below.refl (wr.heap.size + 1) (wr.alloc (.cells #[.int .i64 x.kind, .slice an2 x.names.length cn2, .slice ab2 x.args.length cb2] 25))
            clear hbn
            go_wp2
            change Code.wp _ _ _ _ (World.alloc wr _)
            generalize World.alloc wr (.cells #[.int .i64 x.kind, .slice an2 x.names.length cn2, .slice ab2 x.args.length cb2] 25) = wb at HBx HQ9 hb0 ⊢
            obtain ⟨⟨b0, b1, b2⟩, -, -⟩ := HQ9.out _ hb0
            obtain ⟨d1, d2⟩ := HR9.out _ HBx.out
            go_region_held3 (fun W => (W.cell? ⟨w.heap.size, 1, none⟩ = some (.slice (some ⟨gn, on, none⟩) ns.length cn) ∧ W.cell? ⟨gn, on + k, none⟩ = some (.string nm)) ∧ (W.cell? ⟨wr.heap.size, 0, none⟩ = some (.int .i64 x.kind) ∧ W.cell? ⟨wr.heap.size, 1, none⟩ = some (.slice an2 x.names.length cn2) ∧ W.cell? ⟨wr.heap.size, 2, none⟩ = some (.slice ab2 x.args.length cb2)))
              (exact ⟨HR9.out _ (HQ9.out _ (by repeat (first | exact hb0 | assumption | refine Below.drew ?_))).2.1, (HQ9.out _ (by repeat (first | exact hb0 | assumption | refine Below.drew ?_))).1⟩)
              (first
                | (go_at_call 24
                   refine (HC.out _ (HQ9.out _ (by repeat (first | exact hb0 | refine Below.drew ?_))).2.1).mono ?_
                   rintro e w4 ⟨rfl, hb4⟩
                   have hq4 : Below (wr.heap.size + 1) wb w4 := Below.trans (b := wb.drew) (by exact hb0.drew) (hb4.mono (HQ9.out _ hb0).2.2)))
            have HB4 := Lib.hid (HB.out.trans ((HQ9.out _ hq4).2.1.mono HSr.out))
            have HJn : Hid ((⟨#[]⟩ : ByteArray) ++ fieldT nm tx = joinB ((List.zipWith fieldT ns (ts.map (txtF r))).take (k + 1)) commaB) := Lib.hid (HJt.out.1 HK0.out)
            clear hb4 hq4 hb0 b0 b1 b2 d1 d2
            go_wp2
            go_roundw
            case rel => exact ⟨k + 1, _, rfl, by go_num, by omega, HJn, HB4⟩
            case measure => simp [intOf]; omega
          · have hk1 : (0 : Int) < (k : Int) := by omega
            have HR9 : Hid (∀ W, Below wr.heap.size wr W → (W.cell? ⟨w.heap.size, 1, none⟩ = some (.slice (some ⟨gn, on, none⟩) ns.length cn) ∧ W.cell? ⟨gn, on + k, none⟩ = some (.string nm))) := Lib.hid (fun W hW => ⟨(hW.cell (p := ⟨w.heap.size, 1, none⟩) lx).trans x1, (hW.cell (p := ⟨gn, on + k, none⟩) hgn).trans n0⟩)
            have HQ9 : Hid (∀ W, Below (wr.heap.size + 1) (wr.alloc (.cells #[.int .i64 x.kind, .slice an2 x.names.length cn2, .slice ab2 x.args.length cb2] 25)) W → (W.cell? ⟨wr.heap.size, 0, none⟩ = some (.int .i64 x.kind) ∧ W.cell? ⟨wr.heap.size, 1, none⟩ = some (.slice an2 x.names.length cn2) ∧ W.cell? ⟨wr.heap.size, 2, none⟩ = some (.slice ab2 x.args.length cb2)) ∧ Below wr.heap.size wr W ∧ wr.heap.size + 1 ≤ W.heap.size) := Lib.hid (fun W hW => by
              have g := hbn.below hW (by omega)
              exact ⟨⟨g.cell 0, g.cell 1, g.cell 2⟩, HBx.out.trans (hW.mono (by omega)), g.lt⟩)
            have hb0 := Below.refl (wr.heap.size + 1) (wr.alloc (.cells #[.int .i64 x.kind, .slice an2 x.names.length cn2, .slice ab2 x.args.length cb2] 25))
            clear hbn
            go_wp2
            change Code.wp _ _ _ _ (World.alloc wr _)
            generalize World.alloc wr (.cells #[.int .i64 x.kind, .slice an2 x.names.length cn2, .slice ab2 x.args.length cb2] 25) = wb at HBx HQ9 hb0 ⊢
            obtain ⟨⟨b0, b1, b2⟩, -, -⟩ := HQ9.out _ hb0
            obtain ⟨d1, d2⟩ := HR9.out _ HBx.out
            go_region_held3 (fun W => (W.cell? ⟨w.heap.size, 1, none⟩ = some (.slice (some ⟨gn, on, none⟩) ns.length cn) ∧ W.cell? ⟨gn, on + k, none⟩ = some (.string nm)) ∧ (W.cell? ⟨wr.heap.size, 0, none⟩ = some (.int .i64 x.kind) ∧ W.cell? ⟨wr.heap.size, 1, none⟩ = some (.slice an2 x.names.length cn2) ∧ W.cell? ⟨wr.heap.size, 2, none⟩ = some (.slice ab2 x.args.length cb2)))
              (exact ⟨HR9.out _ (HQ9.out _ (by repeat (first | exact hb0 | assumption | refine Below.drew ?_))).2.1, (HQ9.out _ (by repeat (first | exact hb0 | assumption | refine Below.drew ?_))).1⟩)
              (first
                | (go_at_call 24
                   refine (HC.out _ (HQ9.out _ (by repeat (first | exact hb0 | refine Below.drew ?_))).2.1).mono ?_
                   rintro e w4 ⟨rfl, hb4⟩
                   have hq4 : Below (wr.heap.size + 1) wb w4 := Below.trans (b := wb.drew) (by exact hb0.drew) (hb4.mono (HQ9.out _ hb0).2.2)))
            have HB4 := Lib.hid (HB.out.trans ((HQ9.out _ hq4).2.1.mono HSr.out))
            have HJn : Hid (s ++ commaB ++ fieldT nm tx = joinB ((List.zipWith fieldT ns (ts.map (txtF r))).take (k + 1)) commaB) := Lib.hid (by rw [HSs.out]; exact HJt.out.2 (by omega))
            clear hb4 hq4 hb0 b0 b1 b2 d1 d2
            go_wp2
            go_roundw
            case rel => exact ⟨k + 1, _, rfl, by go_num, by omega, HJn, HB4⟩
            case measure => simp [intOf]; omega
        · have hke : k = (List.zipWith fieldT ns (ts.map (txtF r))).length := by rw [HEl.out]; omega
          have HSe : Hid (s = joinB (List.zipWith fieldT ns (ts.map (txtF r))) commaB) := Lib.hid (by rw [HSs.out, List.take_of_length_le (by omega)])
          clear hke HSs
          have hz1 : ¬ 9223372036854775807 < 1 + s.size := by omega
          have hz2 : ¬ 9223372036854775807 < 1 + s.size + 1 := by omega
          obtain rfl := HF.out
          go_wp2
          go_ret
          exact ⟨by rw [HSe.out]; rfl, HVr.out⟩
    · obtain ⟨p, rfl⟩ : ∃ p, m = p + 1 := ⟨m - 1, by have := HM.out; omega⟩
      obtain ⟨b, o, _, _, rfl, -⟩ := (HV.out w (Below.refl _ _)).at 0 (by rw [HM.out]; omega)
      have hca : p + 1 ≤ ca := by rcases hcap with h | h; cases h; exact h
      have hcai : (p : Int) ≤ (ca : Int) := by omega
      have hcaj : (p : Int) < (p : Int) + 1 := by omega
      have HF : Hid (R = parB ++ joinB (ts.map (txtF r)).dropLast commaB ++ arrB ++ (ts.map (txtF r)).getLastD ⟨#[]⟩) := Lib.hid (by rw [HR.out, HLs.out]; rfl)
      have HBnd := Lib.hid (HLs.out ▸ HB9.out : commaB.size * (ts.map (txtF r)).dropLast.length + sumL ((ts.map (txtF r)).dropLast.map ByteArray.size) ≤ 1000000000000)
      have HEl : Hid ((ts.map (txtF r)).dropLast.length = p) := Lib.hid (by rw [List.length_dropLast, HLs.out, HTl.out]; rfl)
      have HLast : Hid ((ts.map (txtF r)).getLastD ⟨#[]⟩ = txtF r (ts[p]'(by rw [HM.out]; omega))) := Lib.hid (by
        have e : (ts.map (txtF r)).length = p + 1 := by rw [HLs.out]; exact HTl.out
        rw [List.getLastD_eq_getLast?, List.getLast?_eq_getElem?, e, Nat.add_sub_cancel, List.getElem?_eq_getElem (show p < (ts.map (txtF r)).length by omega), List.getElem_map]
        rfl)
      clear HR HC9 HB7 HB8 HB9 hcap hm1
      go_enter Tryd.func24, Tryd.ntmps24
      go_wp2
      change Code.wp _ _ _ _ (World.alloc w _)
      generalize (w.alloc (.cells #[.int .i64 9, .slice an ns.length cn, .slice (some ⟨b, o, none⟩) (p + 1) ca] 25)) = W1 at HX HB0 ⊢
      go_loopw [3, 71] (fun s0 i wr => ∃ (k : Nat) (s : ByteArray), s0 = .string s ∧ i = .int .i64 (k : Int) ∧ k ≤ p ∧ Hid (s = joinB ((ts.map (txtF r)).dropLast.take k) commaB) ∧ Hid (Below (w.heap.size + 1) W1 wr)) (fun _ i _ => p - (intOf i).toNat)
      case atStart => exact ⟨0, _, rfl, rfl, by omega, Lib.hid rfl, HB0⟩
      case round =>
        obtain ⟨k, s, hs0, rfl, hk, HSs, HB⟩ := hrel
        subst hs0
        obtain ⟨⟨x0, x1, x2, lx⟩, hv, hs⟩ := HX.out _ HB.out
        have HVr := Lib.hid hv
        have HSr := Lib.hid hs
        clear hv hs
        have hss : s.size ≤ 1000000000000 := by rw [HSs.out]; exact Nat.le_trans (jsize _ _ _) HBnd.out
        by_cases hlt : k < p
        · have hi1 : (k : Int) < (p : Int) := by omega
          have hkl : k < ts.length := by rw [HM.out]; omega
          have hke : k < (ts.map (txtF r)).dropLast.length := by rw [HEl.out]; exact hlt
          obtain ⟨b9, o9, vx, ax, hav, hb, g0, g1, g2, g3⟩ := (HV.out _ HVr.out).at k hkl
          injection hav with hav
          injection hav with e1 e2
          subst e1 e2
          have HC := Lib.hid (fun W (hW : Below wr.heap.size wr W) => HIH.out ts[k] vx ax W (List.getElem_mem hkl) (HVr.out.trans (hW.mono HVr.out.size)) (g3.frame (Nat.le_refl _) hW))
          obtain ⟨an2, cn2, ab2, cb2, rfl, rfl⟩ := g3.shape
          have HJt := Lib.hid (jtake (sep := commaB) hke)
          have HEk : Hid ((ts.map (txtF r)).dropLast[k] = txtF r ts[k]) := Lib.hid (by rw [List.getElem_dropLast, List.getElem_map])
          have htz : (txtF r ts[k]).size ≤ 1000000000000 := HTs.out ts[k] (List.getElem_mem hkl)
          rw [HEk.out] at HJt
          clear HEk
          generalize ts[k] = x at g0 g1 g2 g3 HC HJt htz
          generalize txtF r x = tx at HC HJt htz
          have hbx : Below wr.heap.size wr (wr.alloc (.cells #[.int .i64 x.kind, .slice an2 x.names.length cn2, .slice ab2 x.args.length cb2] 25)) := (Below.refl _ wr).alloc (Nat.le_refl _) _
          have HBx := Lib.hid hbx
          have hbn := Has.new wr 25 [.int .i64 x.kind, .slice an2 x.names.length cn2, .slice ab2 x.args.length cb2]
          have hz1 : ¬ 9223372036854775807 < s.size + 2 := by omega
          have hz2 : ¬ 9223372036854775807 < s.size + tx.size := by omega
          have hz3 : ¬ 9223372036854775807 < s.size + 2 + tx.size := by omega
          clear g3 hbx hkl
          by_cases hk0 : k = 0
          · have HK0 := Lib.hid hk0
            have hk1 : ¬ (0 : Int) < (k : Int) := by omega
            clear hk0
            have hs0 : s = ⟨#[]⟩ := by rw [HSs.out, HK0.out]; rfl
            subst hs0
            have HJn : Hid ((⟨#[]⟩ : ByteArray) ++ tx = joinB ((ts.map (txtF r)).dropLast.take (k + 1)) commaB) := Lib.hid (HJt.out.1 HK0.out)
            clear hbn
            go_wp2_with fail
            refine (HC.out _ HBx.out).mono ?_
            rintro e w4 ⟨rfl, hb4⟩
            have HB4 := Lib.hid (HB.out.trans ((below_in HBx.out hb4).mono HSr.out))
            clear hb4
            go_wp2
            go_roundw
            case rel => exact ⟨k + 1, _, rfl, by go_num, by omega, HJn, HB4⟩
            case measure => simp [intOf]; omega
          · have hk1 : (0 : Int) < (k : Int) := by omega
            have HJn : Hid (s ++ commaB ++ tx = joinB ((ts.map (txtF r)).dropLast.take (k + 1)) commaB) := Lib.hid (by rw [HSs.out]; exact HJt.out.2 (by omega))
            clear hbn
            go_wp2_with fail
            refine (HC.out _ HBx.out).mono ?_
            rintro e w4 ⟨rfl, hb4⟩
            have HB4 := Lib.hid (HB.out.trans ((below_in HBx.out hb4).mono HSr.out))
            clear hb4
            go_wp2
            go_roundw
            case rel => exact ⟨k + 1, _, rfl, by go_num, by omega, HJn, HB4⟩
            case measure => simp [intOf]; omega
        · have hke : k = (ts.map (txtF r)).dropLast.length := by rw [HEl.out]; omega
          have HSe : Hid (s = joinB (ts.map (txtF r)).dropLast commaB) := Lib.hid (by rw [HSs.out, List.take_of_length_le (by omega)])
          clear hke HSs
          have hkp : p < ts.length := by rw [HM.out]; omega
          obtain ⟨b9, o9, vx, ax, hav, hb, g0, g1, g2, g3⟩ := (HV.out _ HVr.out).at p hkp
          injection hav with hav
          injection hav with e1 e2
          subst e1 e2
          have HC := Lib.hid (HIH.out ts[p] vx ax wr (List.getElem_mem hkp) HVr.out g3)
          obtain ⟨an2, cn2, ab2, cb2, rfl, rfl⟩ := g3.shape
          have htz : (txtF r ts[p]).size ≤ 1000000000000 := HTs.out ts[p] (List.getElem_mem hkp)
          generalize ts[p] = x at g0 g1 g2 g3 HC htz HLast
          generalize txtF r x = tx at HC htz HLast
          have hz1 : ¬ 9223372036854775807 < 1 + s.size := by omega
          have hz2 : ¬ 9223372036854775807 < 1 + s.size + 5 := by omega
          have hz3 : ¬ 9223372036854775807 < 1 + s.size + 5 + tx.size := by omega
          clear g3
          obtain rfl := HF.out
          go_wp2_with fail
          refine (HC.out).mono ?_
          rintro e w4 ⟨rfl, hb4⟩
          have HV4 := Lib.hid (below_in HVr.out hb4)
          clear hb4
          go_wp2
          go_ret
          exact ⟨by rw [HSe.out, HLast.out]; rfl, HV4.out⟩
    · obtain ⟨q, rfl⟩ := Int.eq_ofNat_of_zero_le h0
      have hq7 : q = 0 ∨ q = 1 ∨ q = 2 ∨ q = 3 ∨ q = 4 ∨ q = 5 ∨ q = 6 := by omega
      have HF : Hid (R = baseName (q : Int)) := Lib.hid (by rw [HR.out, if_neg (by omega), if_neg (by omega), if_neg (by omega)])
      obtain rfl := HF.out
      have HVb := Lib.hid (HX.out _ HB0.out).2
      obtain ⟨⟨x0, x1, x2, lx⟩, -⟩ := HX.out _ HB0.out
      clear HR HC9 HB7 HB8 HB9 h0 h6 hcap
      rcases hq7 with rfl | rfl | rfl | rfl | rfl | rfl | rfl
      all_goals
        go_enter Tryd.func24, Tryd.ntmps24
        go_wp2
        go_ret
        exact ⟨rfl, HVb.out.1.alloc HVb.out.1.size _⟩
end TyD
end Go.Proofs.YtmcnoagihnkkcaaDoor
