/- meet: the document's. -/
import Derived.Test.YthcdbmbimdkcfaaDoorTyMeetL
import Derived.Test.YthcdbmbimdkcfaaDoorTyRPrec
import Derived.Test.YthcdbmbimdkcfaaDoorTyRMeetL
import Derived.Deep.RegionHeld3
namespace Go.Proofs.YthcdbmbimdkcfaaDoor
open Go.RowKit ObjM
namespace TyD
open LexD (nameB WTab)

set_option maxRecDepth 100000 in
set_option maxHeartbeats 32000000 in
theorem refMeet_any : ∀ (r : Nat) (a b : Ty) (vn va un ua : Value) (w0 w : World), Ok r a → Ok r b → TyOk a → TyOk b → TyAt w0 vn va a → TyAt w0 un ua b → Below w0.heap.size w0 w →
    Calls Tryd.prog 40 #[.agg #[.int .i64 a.kind, vn, va], .agg #[.int .i64 b.kind, un, ua]] w (MeetIs w0.heap.size w (meetF r a b)) := by
  intro r
  induction r with
  | zero =>
    intro a b vn va un ua w0 w hv
    cases hv.valid
  | succ r ih =>
    intro a b vn va un ua w0 w hva hvb oka okb hab hbb hBw
    have hna := ok_args hva
    have ha := hab.frame (Nat.le_refl _) hBw
    have hb := hbb.frame (Nat.le_refl _) hBw
    obtain ⟨an, cn, aa, ca, rfl, rfl⟩ := ha.shape
    obtain ⟨bn, dn, bb, db, rfl, rfl⟩ := hb.shape
    obtain ⟨hh0, hh1, hh2, hbw, hsz⟩ := three_blocks w [.int .i64 a.kind, .slice an a.names.length cn, .slice aa a.args.length ca] [.int .i64 b.kind, .slice bn b.names.length dn, .slice bb b.args.length db] [.int .i64 0, .slice none 0 0, .slice none 0 0] 25 _ rfl
    have HPab := Lib.hid (fun (W : World) (h : Below w.heap.size w W) => refPrecise_any (r + 1) a b _ _ _ _ W hva hvb oka okb (ha.frame (Nat.le_refl _) h) (hb.frame (Nat.le_refl _) h))
    have HPba := Lib.hid (fun (W : World) (h : Below w.heap.size w W) => refPrecise_any (r + 1) b a _ _ _ _ W hvb hva okb oka (hb.frame (Nat.le_refl _) h) (ha.frame (Nat.le_refl _) h))
    have HPr := Lib.hid (fun (W : World) (h : Below w.heap.size w W) => paired_any r a b _ _ _ _ W hva hvb oka okb (ha.frame (Nat.le_refl _) h) (hb.frame (Nat.le_refl _) h))
    have HSa := Lib.hid (fun (W : World) (h : Below w.heap.size w W) => snug_of hab (hBw.trans (h.mono hBw.size)))
    have HSb := Lib.hid (fun (W : World) (h : Below w.heap.size w W) => snug_of hbb (hBw.trans (h.mono hBw.size)))
    have HCl := Lib.hid (fun (W : World) (h : Below w.heap.size w W) => (show StrsAt W (.slice an a.names.length cn) a.names by obtain ⟨k, ns, ts⟩ := a; exact (ha.frame (Nat.le_refl _) h).parts.1))
    have HV := Lib.hid (show TysAt w0 (.slice aa a.args.length ca) a.args by obtain ⟨k, ns, ts⟩ := a; exact hab.parts.2)
    have HU := Lib.hid (show TysAt w0 (.slice bb b.args.length db) b.args by obtain ⟨k, ns, ts⟩ := b; exact hbb.parts.2)
    have HIH := Lib.hid (fun (x y : Ty) (vx ax vy ay : Value) (W : World) (hx : x ∈ a.args) (hy : y ∈ b.args) (h1 : TyAt w0 vx ax x) (h2 : TyAt w0 vy ay y) (h : Below w.heap.size w W) => ih x y vx ax vy ay w0 W (hva.pred x hx) (hvb.pred y hy) (okArg oka x hx) (okArg okb y hy) h1 h2 (hBw.trans (h.mono hBw.size)))
    have HBw := Lib.hid hBw
    have HNn : Hid (a.names.length ≤ 1000000000000) := Lib.hid (by omega)
    have HN0 : Hid (w0.heap.size ≤ w.heap.size) := Lib.hid hBw.size
    have HR : Hid (meetF (r + 1) a b = if precB (r + 1) a b then some a else if precB (r + 1) b a then some b else if pairB a b then ((a.args.zip b.args).mapM fun x => meetF r x.1 x.2).map fun l => .mk a.kind a.names l else none) := Lib.hid meet_def
    have HPl : Hid (pairB a b = true → a.args.length = b.args.length) := Lib.hid (fun h => (pairB_iff.1 h).2.2.1)
    obtain ⟨R, hR⟩ : ∃ R, meetF (r + 1) a b = R := ⟨_, rfl⟩
    rw [hR] at HR ⊢
    generalize precB (r + 1) a b = q1 at HPab HR
    generalize precB (r + 1) b a = q2 at HPba HR
    generalize pairB a b = q3 at HPr HR HPl
    clear ha hb oka okb hva hvb ih hR hab hbb hBw
    go_enter Tryd.func40, Tryd.ntmps40
    go_wp2_with fail
    change Calls _ _ _ (World.alloc (World.alloc (World.alloc w _) _) _) _
    generalize World.alloc (World.alloc (World.alloc w _) _) _ = W0 at hh0 hh1 hh2 hbw hsz ⊢
    have HR0 : Hid (w.heap.size ≤ w.heap.size + 1 + 1 ∧ ∀ W, Below W0.heap.size W0 W → w.heap.size + 1 + 1 < W.heap.size) := Lib.hid ⟨by omega, fun W h => by have := h.size; omega⟩
    have HH2 := Lib.hid hh2
    have HBW := Lib.hid hbw
    have HSZ := Lib.hid hsz
    have HAf : Hid (∀ W, Below W0.heap.size W0 W → ((W.cell? ⟨w.heap.size, 0, none⟩ = some (.int .i64 a.kind) ∧ W.cell? ⟨w.heap.size, 1, none⟩ = some (.slice an a.names.length cn) ∧ W.cell? ⟨w.heap.size, 2, none⟩ = some (.slice aa a.args.length ca) ∧ W.cell? ⟨w.heap.size + 1, 0, none⟩ = some (.int .i64 b.kind) ∧ W.cell? ⟨w.heap.size + 1, 1, none⟩ = some (.slice bn b.names.length dn) ∧ W.cell? ⟨w.heap.size + 1, 2, none⟩ = some (.slice bb b.args.length db)) ∧ (W.cell? ⟨w.heap.size + 1 + 1, 0, none⟩ = some (.int .i64 0) ∧ W.cell? ⟨w.heap.size + 1 + 1, 1, none⟩ = some (.slice none 0 0) ∧ W.cell? ⟨w.heap.size + 1 + 1, 2, none⟩ = some (.slice none 0 0) ∧ W.frozen? ⟨w.heap.size + 1 + 1, 0, none⟩ = false ∧ W.frozen? ⟨w.heap.size + 1 + 1, 1, none⟩ = false ∧ W.frozen? ⟨w.heap.size + 1 + 1, 2, none⟩ = false) ∧ w.heap.size < W.heap.size ∧ w.heap.size + 1 < W.heap.size ∧ w.heap.size + 1 + 1 < W.heap.size) ∧ Below w.heap.size w W) := Lib.hid (fun W h => by
      have g0 := hh0.below h hh0.lt
      have g1 := hh1.below h hh1.lt
      have g2 := hh2.below h hh2.lt
      exact ⟨⟨⟨g0.cell 0, g0.cell 1, g0.cell 2, g1.cell 0, g1.cell 1, g1.cell 2⟩, ⟨g2.cell 0, g2.cell 1, g2.cell 2, g2.frozen 0, g2.frozen 1, g2.frozen 2⟩, g0.lt, g1.lt, g2.lt⟩, hbw.trans (h.mono hbw.size)⟩)
    have HB0 := Lib.hid (Below.refl W0.heap.size W0)
    have HV0 := Lib.hid (HAf.out _ HB0.out).2
    clear hh0 hh1 hh2 hbw hsz
    refine (HPab.out _ HV0.out).mono ?_
    rintro e w1 ⟨rfl, hb1⟩
    have HB1 := Lib.hid (below_on HB0.out hb1)
    obtain ⟨⟨⟨x0, x1, x2, y0, y1, y2⟩, ⟨z0, z1, z2, f0, f1, f2⟩, lA, lB, lZ⟩, hv1⟩ := HAf.out _ HB1.out
    have HV1 := Lib.hid hv1
    clear hb1 hv1
    cases q1
    · go_wp2_with fail
      refine (HPba.out _ HV1.out).mono ?_
      clear x0 x1 x2 y0 y1 y2 z0 z1 z2 f0 f1 f2 lA lB lZ
      rintro e w2 ⟨rfl, hb2⟩
      have HB2 := Lib.hid (below_on HB1.out hb2)
      obtain ⟨⟨⟨x0, x1, x2, y0, y1, y2⟩, ⟨z0, z1, z2, f0, f1, f2⟩, lA, lB, lZ⟩, hv2⟩ := HAf.out _ HB2.out
      have HV2 := Lib.hid hv2
      clear hb2 hv2
      cases q2
      · go_wp2_with fail
        refine (HPr.out _ HV2.out).mono ?_
        clear x0 x1 x2 y0 y1 y2 z0 z1 z2 f0 f1 f2 lA lB lZ
        rintro e w3 ⟨rfl, hb3⟩
        have HB3 := Lib.hid (below_on HB2.out hb3)
        obtain ⟨⟨⟨x0, x1, x2, y0, y1, y2⟩, ⟨z0, z1, z2, f0, f1, f2⟩, lA, lB, lZ⟩, hv3⟩ := HAf.out _ HB3.out
        have HV3 := Lib.hid hv3
        clear hb3 hv3
        cases q3
        · have HF : Hid (R = none) := Lib.hid (by rw [HR.out]; rfl)
          obtain rfl := HF.out
          clear HR
          have HEn : Hid (∀ x y z, Below w.heap.size w (((w3.setCell ⟨w.heap.size + 1 + 1, 0, none⟩ x).setCell ⟨w.heap.size + 1 + 1, 1, none⟩ y).setCell ⟨w.heap.size + 1 + 1, 2, none⟩ z)) := Lib.hid (fun x y z => ((HV3.out.setCell (by simp; omega) _).setCell (by simp; omega) _).setCell (by simp; omega) _)
          go_wp2
          exact bodyPost_ret (v := .tuple #[.agg #[.int .i64 0, .slice none 0 0, .slice none 0 0], .bool false]) (by simp [results, Tryd.results40, go_sem, z0, z1, z2]) rfl ⟨rfl, HEn.out _ _ _⟩
        · have hlen := HPl.out (by simp)
          obtain ⟨m, hm⟩ : ∃ m, a.args.length = m := ⟨_, rfl⟩
          have hm' : b.args.length = m := by omega
          have HM := Lib.hid (⟨hm, hm'⟩ : _ ∧ _)
          have hm4 : m ≤ 10000 := by omega
          have HF : Hid (R = ((a.args.zip b.args).mapM fun x => meetF r x.1 x.2).map fun l => .mk a.kind a.names l) := Lib.hid (by rw [HR.out]; rfl)
          clear HR HPl hlen hm hm'
          have HS3 : Hid (∀ W, Below w3.heap.size w3 W → W.cell? ⟨w.heap.size, 0, none⟩ = some (.int .i64 a.kind) ∧ W.cell? ⟨w.heap.size, 1, none⟩ = some (.slice an a.names.length cn)) := Lib.hid (fun W h => by
            obtain ⟨⟨⟨q0, q1, -⟩, -⟩, -⟩ := HAf.out W (below_on HB3.out h)
            exact ⟨q0, q1⟩)
          skip
          go_wp2
          go_cut [6] (fun s6 wx => ∃ (G : Nat) (vn' : Value), s6 = .pointer (some ⟨G, 0, none⟩) ∧ Hid (NewVar w3 wx G a.kind vn' a.names))
          case first =>
            go_region_held3 (fun W => W.cell? ⟨w.heap.size, 0, none⟩ = some (.int .i64 a.kind) ∧ W.cell? ⟨w.heap.size, 1, none⟩ = some (.slice an a.names.length cn))
              (exact HS3.out _ (by repeat (first | exact Below.refl _ _ | assumption | refine Below.drew ?_ | refine Below.alloc ?_ (by first | omega | simp | (simp; omega)) _ | refine Below.setCell ?_ (by first | omega | simp | (simp; omega)) _)))
              (first
                | (refine step_append_ex rfl (.const (.slice none 0 0)) (.tmp 29) 22 rfl _ _ rfl rfl _ (copy_strs (HCl.out _ (HV3.out.trans (Below.mono (by repeat (first | exact Below.refl _ _ | refine Below.drew ?_ | refine Below.alloc ?_ (by simp) _)) HV3.out.size))) HNn.out) ?_
                   rintro v' w5 ⟨⟨a', c', rfl⟩, hfr, hb5⟩
                   have hfr := Lib.hid hfr
                   have hb6 : Below w3.heap.size w3 w5 := below_on (by repeat (first | exact Below.refl _ _ | refine Below.drew ?_ | refine Below.alloc ?_ (by simp) _)) hb5
                   have h5s := hb6.size
                   try (have hq : Has w5 w3.heap.size 25 [.int .i64 0, .slice none 0 0, .slice none 0 0] := (Has.new w3 25 [.int .i64 0, .slice none 0 0, .slice none 0 0]).drew.below hb5 (by simp)
                        have z0 := hq.cell 0
                        have z1 := hq.cell 1
                        have z2 := hq.cell 2
                        have k0 := hq.frozen 0
                        have k1 := hq.frozen 1
                        have k2 := hq.frozen 2
                        have lq := hq.lt)))
            all_goals
              go_wp2_with fail
              go_meet
              first
                | exact ⟨_, _, rfl, Lib.hid (newA ⟨_, _, _, rfl⟩ hfr.out hb5)⟩
                | exact ⟨_, _, rfl, Lib.hid (newB hfr.out hb5)⟩
          case rest =>
            rename World => wk
            obtain ⟨G, vn', rfl, HN⟩ := hcut
            obtain ⟨na, nc, rfl⟩ : ∃ na nc, vn' = .slice na a.names.length nc := by
              obtain ⟨lo, hi, n1, n2, n3, n4⟩ := HN.out.names
              exact (n4 wk n2 (fun _ _ _ => rfl)).shape
            have HBc := Lib.hid (below_on HB3.out HN.out.below)
            have HGt := Lib.hid HN.out.has.lt
            have HGf : Hid (w3.heap.size ≤ G ∧ w.heap.size + 1 + 1 < w3.heap.size) := Lib.hid ⟨HN.out.far, HR0.out.2 _ HB3.out⟩
            clear x0 x1 x2 y0 y1 y2 z0 z1 z2 f0 f1 f2 lA lB lZ
            obtain ⟨⟨⟨x0, x1, x2, y0, y1, y2⟩, ⟨z0, z1, z2, f0, f1, f2⟩, lA, lB, lZ⟩, hvc⟩ := HAf.out _ HBc.out
            have HVc := Lib.hid hvc
            clear hvc
            rw [HM.out.1] at x2
            rw [HM.out.2] at y2
            skip
            have HG0 := Lib.hid HN.out.has
            have HF0 : Hid (R = (((a.args.drop 0).zip (b.args.drop 0)).mapM fun x => meetF r x.1 x.2).map fun l => .mk a.kind a.names ([] ++ l)) := Lib.hid HF.out
            go_wp2
            clear x0 x1 x2 y0 y1 y2 z0 z1 z2 f0 f1 f2 lA lB lZ
            go_loopw [35] (fun i wr => ∃ (k : Nat) (l : Value) (xs : List (Ty × Value × Value)), i = .int .i64 (k : Int) ∧ k ≤ m ∧ Hid (xs.length = k) ∧ Hid (R = (((a.args.drop k).zip (b.args.drop k)).mapM fun x => meetF r x.1 x.2).map fun l => .mk a.kind a.names (xs.map (·.1) ++ l)) ∧ Hid (RowSnug wr wk.heap.size (fun k => k < w0.heap.size ∨ wk.heap.size ≤ k) [G] l xs) ∧ Hid (Keeps [G] wk wr) ∧ Hid (Has wr G 25 [.int .i64 a.kind, .slice na a.names.length nc, l])) (fun i _ => m - (intOf i).toNat)
            case atStart => exact ⟨0, .slice none 0 0, [], rfl, by omega, Lib.hid rfl, HF0, Lib.hid (RowSnug.nil _ _ _ _), Lib.hid (Keeps.refl _ _), HG0⟩
            case round =>
              obtain ⟨k, l, xs, rfl, hk, hxl, HD, HRow, HK, HGr⟩ := hrel
              obtain ⟨la, lc, rfl⟩ := HRow.out.shape
              have HBr : Hid (Below W0.heap.size W0 wr) := Lib.hid (HBc.out.trans (HK.out.toBelow W0.heap.size HBc.out.size (by have h1 := HGf.out; have h2 := HB3.out.size; intro x hx; simp at hx; omega)))
              obtain ⟨⟨⟨x0, x1, x2, y0, y1, y2⟩, ⟨z0, z1, z2, f0, f1, f2⟩, lA, lB, lZ⟩, hvr⟩ := HAf.out _ HBr.out
              have HVr := Lib.hid hvr
              clear hvr
              rw [HM.out.1] at x2
              rw [HM.out.2] at y2
              by_cases hlt : k < m
              · have hi1 : (k : Int) < (m : Int) := by omega
                have hja : k < a.args.length := by rw [HM.out.1]; exact hlt
                have hjb : k < b.args.length := by rw [HM.out.2]; exact hlt
                have HD2 := Lib.hid (mapM_drop (r := r) hja hjb)
                have HBo : Hid (Below w0.heap.size w0 wr) := Lib.hid (HBw.out.trans (HVr.out.mono HBw.out.size))
                obtain ⟨ba, oa, vx, ax, rfl, hba, k0, k1, k2, k3⟩ := HV.out.at k hja
                obtain ⟨bb, ob, vy, ay, rfl, hbb, j0, j1, j2, j3⟩ := HU.out.at k hjb
                obtain ⟨an2, cn2, ab2, cb2, rfl, rfl⟩ := k3.shape
                obtain ⟨bn2, dn2, bb2, db2, rfl, rfl⟩ := j3.shape
                have c0 := (HBo.out.cell (p := ⟨ba, oa + k * 3, none⟩) hba).trans k0
                have c1 := (HBo.out.cell (p := ⟨ba, oa + k * 3 + 1, none⟩) hba).trans k1
                have c2 := (HBo.out.cell (p := ⟨ba, oa + k * 3 + 2, none⟩) hba).trans k2
                have d0 := (HBo.out.cell (p := ⟨bb, ob + k * 3, none⟩) hbb).trans j0
                have d1 := (HBo.out.cell (p := ⟨bb, ob + k * 3 + 1, none⟩) hbb).trans j1
                have d2 := (HBo.out.cell (p := ⟨bb, ob + k * 3 + 2, none⟩) hbb).trans j2
                have HC := Lib.hid (fun W h => HIH.out a.args[k] b.args[k] _ _ _ _ W (List.getElem_mem hja) (List.getElem_mem hjb) k3 j3 h)
                clear k0 k1 k2 k3 j0 j1 j2 j3
                generalize a.args[k] = x at HD2 c0 c1 c2 HC
                generalize b.args[k] = y at HD2 d0 d1 d2 HC
                have HS : Hid (∀ W, Below wr.heap.size wr W → (W.cell? ⟨w.heap.size, 2, none⟩ = some (.slice (some ⟨ba, oa, none⟩) m ca) ∧ W.cell? ⟨w.heap.size + 1, 2, none⟩ = some (.slice (some ⟨bb, ob, none⟩) m db) ∧ W.cell? ⟨ba, oa + k * 3, none⟩ = some (.int .i64 x.kind) ∧ W.cell? ⟨ba, oa + k * 3 + 1, none⟩ = some (.slice an2 x.names.length cn2) ∧ W.cell? ⟨ba, oa + k * 3 + 2, none⟩ = some (.slice ab2 x.args.length cb2) ∧ W.cell? ⟨bb, ob + k * 3, none⟩ = some (.int .i64 y.kind) ∧ W.cell? ⟨bb, ob + k * 3 + 1, none⟩ = some (.slice bn2 y.names.length dn2) ∧ W.cell? ⟨bb, ob + k * 3 + 2, none⟩ = some (.slice bb2 y.args.length db2)) ∧ Below w.heap.size w W) := Lib.hid (fun W h => by
                  have hs := HBo.out.size
                  exact ⟨⟨(h.cell (p := ⟨w.heap.size, 2, none⟩) lA).trans x2, (h.cell (p := ⟨w.heap.size + 1, 2, none⟩) lB).trans y2, (h.cell (p := ⟨ba, oa + k * 3, none⟩) (Nat.lt_of_lt_of_le hba hs)).trans c0, (h.cell (p := ⟨ba, oa + k * 3 + 1, none⟩) (Nat.lt_of_lt_of_le hba hs)).trans c1, (h.cell (p := ⟨ba, oa + k * 3 + 2, none⟩) (Nat.lt_of_lt_of_le hba hs)).trans c2, (h.cell (p := ⟨bb, ob + k * 3, none⟩) (Nat.lt_of_lt_of_le hbb hs)).trans d0, (h.cell (p := ⟨bb, ob + k * 3 + 1, none⟩) (Nat.lt_of_lt_of_le hbb hs)).trans d1, (h.cell (p := ⟨bb, ob + k * 3 + 2, none⟩) (Nat.lt_of_lt_of_le hbb hs)).trans d2⟩, HVr.out.trans (h.mono HVr.out.size)⟩)
                obtain ⟨oc, hoc⟩ : ∃ oc, meetF r x y = oc := ⟨_, rfl⟩
                rw [hoc] at HC HD2
                clear hoc hba hbb
                have HNr : Hid (w0.heap.size ≤ wr.heap.size) := Lib.hid (Nat.le_trans HN0.out HVr.out.size)
                go_wp2
                go_cut [8, 9] (fun s8 s9 wx => Hid (PartIs w0.heap.size wr oc s8 s9 wx))
                case first =>
                  cases oc with
                  | none =>
                    go_region_held3 (fun W => W.cell? ⟨w.heap.size, 2, none⟩ = some (.slice (some ⟨ba, oa, none⟩) m ca) ∧ W.cell? ⟨w.heap.size + 1, 2, none⟩ = some (.slice (some ⟨bb, ob, none⟩) m db) ∧ W.cell? ⟨ba, oa + k * 3, none⟩ = some (.int .i64 x.kind) ∧ W.cell? ⟨ba, oa + k * 3 + 1, none⟩ = some (.slice an2 x.names.length cn2) ∧ W.cell? ⟨ba, oa + k * 3 + 2, none⟩ = some (.slice ab2 x.args.length cb2) ∧ W.cell? ⟨bb, ob + k * 3, none⟩ = some (.int .i64 y.kind) ∧ W.cell? ⟨bb, ob + k * 3 + 1, none⟩ = some (.slice bn2 y.names.length dn2) ∧ W.cell? ⟨bb, ob + k * 3 + 2, none⟩ = some (.slice bb2 y.args.length db2))
                      (exact (HS.out _ (by repeat (first | exact Below.refl _ _ | assumption | refine Below.drew ?_ | refine Below.alloc ?_ (by first | omega | simp | (simp; omega)) _ | refine Below.setCell ?_ (by first | omega | simp | (simp; omega)) _))).1)
                      (first
                        | (with_reducible refine (HC.out _ (HS.out _ (by repeat (first | exact Below.refl _ _ | refine Below.drew ?_ | refine Below.alloc ?_ (by simp) _))).2).mono ?_
                           rintro e w5 ⟨rfl, hb5⟩
                           have hb6 : Below wr.heap.size wr w5 := below_on (by repeat (first | exact Below.refl _ _ | refine Below.drew ?_ | refine Below.alloc ?_ (by simp) _)) hb5
                           have h5s := hb6.size
                           try (have hq : Has w5 wr.heap.size 25 [.int .i64 0, .slice none 0 0, .slice none 0 0] := (Has.new wr 25 [.int .i64 0, .slice none 0 0, .slice none 0 0]).drew.below hb5 (by simp)
                                have z0 := hq.cell 0
                                have z1 := hq.cell 1
                                have z2 := hq.cell 2
                                have k0 := hq.frozen 0
                                have k1 := hq.frozen 1
                                have k2 := hq.frozen 2
                                have lq := hq.lt)))
                    all_goals
                      go_wp2_with fail
                      go_meet
                      first
                        | exact Lib.hid (partA0 hb5)
                        | exact Lib.hid (partB0 hb5)
                  | some t =>
                    go_region_held3 (fun W => W.cell? ⟨w.heap.size, 2, none⟩ = some (.slice (some ⟨ba, oa, none⟩) m ca) ∧ W.cell? ⟨w.heap.size + 1, 2, none⟩ = some (.slice (some ⟨bb, ob, none⟩) m db) ∧ W.cell? ⟨ba, oa + k * 3, none⟩ = some (.int .i64 x.kind) ∧ W.cell? ⟨ba, oa + k * 3 + 1, none⟩ = some (.slice an2 x.names.length cn2) ∧ W.cell? ⟨ba, oa + k * 3 + 2, none⟩ = some (.slice ab2 x.args.length cb2) ∧ W.cell? ⟨bb, ob + k * 3, none⟩ = some (.int .i64 y.kind) ∧ W.cell? ⟨bb, ob + k * 3 + 1, none⟩ = some (.slice bn2 y.names.length dn2) ∧ W.cell? ⟨bb, ob + k * 3 + 2, none⟩ = some (.slice bb2 y.args.length db2))
                      (exact (HS.out _ (by repeat (first | exact Below.refl _ _ | assumption | refine Below.drew ?_ | refine Below.alloc ?_ (by first | omega | simp | (simp; omega)) _ | refine Below.setCell ?_ (by first | omega | simp | (simp; omega)) _))).1)
                      (first
                        | (with_reducible refine (HC.out _ (HS.out _ (by repeat (first | exact Below.refl _ _ | refine Below.drew ?_ | refine Below.alloc ?_ (by simp) _))).2).mono ?_
                           rintro e w5 ⟨v5, u5, rfl, hs5, hb5⟩
                           obtain ⟨tn, tc, ta, td, rfl, rfl⟩ := hs5.now.shape
                           have hb6 : Below wr.heap.size wr w5 := below_on (by repeat (first | exact Below.refl _ _ | refine Below.drew ?_ | refine Below.alloc ?_ (by simp) _)) hb5
                           have h5s := hb6.size
                           try (have hq : Has w5 wr.heap.size 25 [.int .i64 0, .slice none 0 0, .slice none 0 0] := (Has.new wr 25 [.int .i64 0, .slice none 0 0, .slice none 0 0]).drew.below hb5 (by simp)
                                have z0 := hq.cell 0
                                have z1 := hq.cell 1
                                have z2 := hq.cell 2
                                have k0 := hq.frozen 0
                                have k1 := hq.frozen 1
                                have k2 := hq.frozen 2
                                have lq := hq.lt)))
                    all_goals
                      go_wp2_with fail
                      go_meet
                      first
                        | exact Lib.hid (partA HNr.out hs5 hb5)
                        | exact Lib.hid (partB HNr.out hs5 hb5)
                case rest =>
                  rename World => wx
                  obtain ⟨hbx, hpart⟩ := hcut.out
                  have HBx := Lib.hid (below_on HBr.out hbx)
                  clear x0 x1 x2 y0 y1 y2 z0 z1 z2 f0 f1 f2 lA lB lZ
                  obtain ⟨⟨⟨x0, x1, x2, y0, y1, y2⟩, ⟨z0, z1, z2, f0, f1, f2⟩, lA, lB, lZ⟩, hvx⟩ := HAf.out _ HBx.out
                  have HVx := Lib.hid hvx
                  clear hvx c0 c1 c2 d0 d1 d2
                  cases oc with
                  | none =>
                    have HE : Hid (R = none) := Lib.hid (by rw [HD.out, HD2.out]; rfl)
                    obtain rfl := HE.out
                    obtain rfl := hpart
                    have HEn : Hid (∀ x y z, Below w.heap.size w (((wx.setCell ⟨w.heap.size + 1 + 1, 0, none⟩ x).setCell ⟨w.heap.size + 1 + 1, 1, none⟩ y).setCell ⟨w.heap.size + 1 + 1, 2, none⟩ z)) := Lib.hid (fun x y z => ((HVx.out.setCell (by simp; omega) _).setCell (by simp; omega) _).setCell (by simp; omega) _)
                    clear hbx
                    go_wp2
                    exact bodyPost_ret (v := .tuple #[.agg #[.int .i64 0, .slice none 0 0, .slice none 0 0], .bool false]) (by simp [results, Tryd.results40, go_sem, z0, z1, z2]) rfl ⟨rfl, HEn.out _ _ _⟩
                  | some t =>
                    obtain ⟨Gp, tn, tc, ta, td, rfl, rfl, hGp, hHp, hSp⟩ := hpart
                    have HE : Hid (R = (((a.args.drop (k + 1)).zip (b.args.drop (k + 1))).mapM fun x => meetF r x.1 x.2).map fun l => .mk a.kind a.names ((xs ++ [(t, Value.slice tn t.names.length tc, Value.slice ta t.args.length td)]).map (·.1) ++ l)) := Lib.hid (by
                      rw [HD.out, HD2.out]
                      simp only [Option.bind_some, Option.map_map]
                      congr 1
                      funext l
                      simp)
                    have hGr := HGr.out.below hbx HGr.out.lt
                    have hRx := HRow.out.below hbx
                    have hlt2 : wk.heap.size ≤ wr.heap.size := HK.out.size
                    have hGl := HGr.out.lt
                    have hGc := HGt.out
                    have hn0 := HN0.out
                    have hvs := HVc.out.size
                    have hown : ∀ g, (Value.slice la xs.length lc).ownBlock = some g → wk.heap.size ≤ g ∧ g < wr.heap.size := fun g hg => own_lt HRow.out.own g hg
                    obtain ⟨v2, w6, hrun, hR6, hK6⟩ := hRx.push hSp (fun k hk => by omega) (by have h1 := HGf.out; have h2 := HR0.out; intro y hy; simp at hy; omega) (fun g hg => by have := hown g hg; omega) (by have := hxl.out; omega) (Nat.le_trans hlt2 hbx.size)
                    have hfar : ∀ z, z < wk.heap.size → z ∉ (Value.slice la xs.length lc).ownBlock.toList := fun z hz hm => by have := hown z (Option.mem_toList.1 hm); omega
                    obtain ⟨la2, lc2, rfl⟩ := hR6.shape
                    have hG6 := hGr.keeps hK6 (hfar _ hGc)
                    have kS := Keeps.set w6 G 2 (.slice la2 (xs ++ [(t, Value.slice tn t.names.length tc, Value.slice ta t.args.length td)]).length lc2)
                    have HN6 : Hid (RowSnug (w6.setCell ⟨G, 2, none⟩ (.slice la2 (xs ++ [(t, Value.slice tn t.names.length tc, Value.slice ta t.args.length td)]).length lc2)) wk.heap.size (fun k => k < w0.heap.size ∨ wk.heap.size ≤ k) [G] (.slice la2 (xs ++ [(t, Value.slice tn t.names.length tc, Value.slice ta t.args.length td)]).length lc2) (xs ++ [(t, Value.slice tn t.names.length tc, Value.slice ta t.args.length td)])) := Lib.hid (hR6.keeps kS (by simp; omega))
                    have HK6 : Hid (Keeps [G] wk (w6.setCell ⟨G, 2, none⟩ (.slice la2 (xs ++ [(t, Value.slice tn t.names.length tc, Value.slice ta t.args.length td)]).length lc2))) := Lib.hid (((HK.out.trans (Keeps.below' hbx []) (by simp)).trans hK6 (fun y hy => .inr (hown y (Option.mem_toList.1 hy)).1)).trans kS (fun y hy => by simp at hy; subst hy; exact .inl (by simp)))
                    have HG6 := Lib.hid (hG6.set 2 (.slice la2 (xs ++ [(t, Value.slice tn t.names.length tc, Value.slice ta t.args.length td)]).length lc2))
                    have HRun := Lib.hid hrun
                    have p0 := hHp.cell 0
                    have p1 := hHp.cell 1
                    have p2 := hHp.cell 2
                    have pl := hHp.lt
                    have g2 := hGr.cell 2
                    have gl := hGr.lt
                    have e2 := hG6.cell 2
                    have ef := hG6.frozen 2
                    have el := hG6.lt
                    simp only [List.getElem?_cons_zero, List.getElem?_cons_succ] at p0 p1 p2 g2 e2
                    have HXs : Hid ((xs ++ [(t, Value.slice tn t.names.length tc, Value.slice ta t.args.length td)]).length = k + 1) := Lib.hid (by have := hxl.out; simp; omega)
                    generalize hn1 : (xs ++ [(t, Value.slice tn t.names.length tc, Value.slice ta t.args.length td)]).length = n1 at HN6 HK6 HG6 HRun
                    have HXl : Hid (n1 = k + 1) := Lib.hid (by have := hxl.out; rw [← hn1]; simp; omega)
                    clear hbx hGr hRx hown hrun hR6 hK6 hfar hG6 kS hHp hSp hn1
                    go_wp2_with (at_builtin; refine wpList_append_run (by rfl) (.tmp 56) (.tmp 58) 23 rfl _ _ _ _ rfl rfl HRun.out ?_)
                    go_roundw
                    case rel =>
                      exact ⟨k + 1, _, _, by go_num, by omega, HXs, HE, HN6, HK6, HG6⟩
                    case measure => simp [intOf]; omega
              · have hkm : k = m := by omega
                have HE : Hid (R = some (.mk a.kind a.names (xs.map (·.1)))) := Lib.hid (by
                  rw [HD.out, List.drop_eq_nil_of_le (by rw [HM.out.1]; omega), List.drop_eq_nil_of_le (by rw [HM.out.2]; omega)]
                  simp [List.mapM_nil, pure])
                obtain rfl := HE.out
                clear HD HF HF0
                have HFin : Hid (∀ p q s, MeetIs w0.heap.size w (some (.mk a.kind a.names (xs.map (·.1)))) (.returned (.tuple #[.agg #[.int .i64 a.kind, .slice na a.names.length nc, .slice la xs.length lc], .bool true])) (((wr.setCell ⟨w.heap.size + 1 + 1, 0, none⟩ p).setCell ⟨w.heap.size + 1 + 1, 1, none⟩ q).setCell ⟨w.heap.size + 1 + 1, 2, none⟩ s)) := Lib.hid (fun p q s => by
                  have K := keep3 wr (w.heap.size + 1 + 1) p q s
                  obtain ⟨lo, hi, n1, n2, n3, n4⟩ := HN.out.names
                  have hs1 := HK.out.size
                  have hs2 := K.size
                  have hn0 := HN0.out
                  have hg := HGf.out
                  have hv3 := HV3.out.size
                  have hc3 := HN.out.below.size
                  refine ⟨_, _, rfl, ⟨fun k hk => by omega, fun W' hs hag => ?_⟩, ?_⟩
                  · refine TyAt.of (n4 W' (by omega) fun k h1 h2 => ?_) (HRow.out.tys (fun k h => Or.inr h) (by omega) (fun k hE hl => ?_))
                    · rw [hag k (by omega), K.block k (by omega) (by simp; omega), HK.out.block k (by omega) (by simp; omega)]
                    · rw [hag k (by omega), K.block k hl (by simp; omega)]
                  · exact HVr.out.trans (K.toBelow w.heap.size HVr.out.size (by intro y hy; simp at hy; omega)))
                have hg := HGr.out
                have g0 := hg.cell 0
                have g1 := hg.cell 1
                have g2 := hg.cell 2
                have gl := hg.lt
                simp only [List.getElem?_cons_zero, List.getElem?_cons_succ] at g0 g1 g2
                have hGne : G ≠ w.heap.size + 1 + 1 := by have := HGf.out; omega
                clear hg hlt hk HRow
                go_wp2
                exact bodyPost_ret (v := .tuple #[.agg #[.int .i64 a.kind, .slice na a.names.length nc, .slice la xs.length lc], .bool true]) (by simp [results, Tryd.results40, go_sem, z0, z1, z2]) rfl (HFin.out _ _ _)
      · have HF : Hid (R = some b) := Lib.hid (by rw [HR.out]; rfl)
        obtain rfl := HF.out
        clear HR
        have HFin := Lib.hid (fun p q s => meet_fin (n0 := w0.heap.size) (W := w2) HV2.out ⟨HR0.out.1, HR0.out.2 _ HB2.out⟩ (HSb.out _ HV2.out) (fun k hk => Or.inl hk) HN0.out (Below.refl _ _) p q s)
        go_wp2
        exact bodyPost_ret (v := .tuple #[.agg #[.int .i64 b.kind, .slice bn b.names.length dn, .slice bb b.args.length db], .bool true]) (by simp [results, Tryd.results40, go_sem, z0, z1, z2]) rfl (HFin.out _ _ _)
    · have HF : Hid (R = some a) := Lib.hid (by rw [HR.out]; rfl)
      obtain rfl := HF.out
      clear HR
      have HFin := Lib.hid (fun p q s => meet_fin (n0 := w0.heap.size) (W := w1) HV1.out ⟨HR0.out.1, HR0.out.2 _ HB1.out⟩ (HSa.out _ HV1.out) (fun k hk => Or.inl hk) HN0.out (Below.refl _ _) p q s)
      go_wp2
      exact bodyPost_ret (v := .tuple #[.agg #[.int .i64 a.kind, .slice an a.names.length cn, .slice aa a.args.length ca], .bool true]) (by simp [results, Tryd.results40, go_sem, z0, z1, z2]) rfl (HFin.out _ _ _)
end TyD
end Go.Proofs.YthcdbmbimdkcfaaDoor
