/- dup.Type: a copy of a type that may be. -/
import Derived.Test.YtjddjiggelpdnaaDoorTySnug
import Derived.Test.YtjddjiggelpdnaaDoorTyCheck
import Derived.Test.YtjddjiggelpdnaaDoorTySame
import Derived.Deep.RegionHeld3
import Derived.Deep.DeepCutAuto
namespace Go.Proofs.YtjddjiggelpdnaaDoor
open Go.RowKit ObjM
namespace TyD
open LexD (WTab)

/-- What a copy leaves. -/
def CopyIs (L : Nat) (w : World) (t : Ty) (c : Nat) (e : Ending) (w' : World) : Prop :=
  ∃ vn va, e = .returned (.agg #[.int .i64 t.kind, vn, va]) ∧ Snug w' (fun k => w.heap.size ≤ k ∧ k < w'.heap.size) vn va t ∧ Keeps [L] w w' ∧ Has w' L 3 [.int .i64 (c : Int)]
def fnD (L P : Nat) : Value := .func (.func 62) #[] #[.pointer (some ⟨L, 0, none⟩), .pointer (some ⟨P, 0, none⟩)]
def sumF (r : Nat) (l : List Ty) : Nat := l.foldl (fun n a => n + sizeF r a) 0
theorem sumF_nil (r : Nat) : sumF r [] = 0 := rfl
theorem sumF_cons (r : Nat) (a : Ty) (l : List Ty) : sumF r (a :: l) = sizeF r a + sumF r l := by
  unfold sumF
  rw [List.foldl_cons, foldl_add (sizeF r)]
  omega
theorem sumF_drop {r : Nat} {l : List Ty} {k : Nat} (hk : k < l.length) : sumF r (l.drop k) = sizeF r l[k] + sumF r (l.drop (k + 1)) := by
  rw [List.drop_eq_getElem_cons hk, sumF_cons]
theorem sumF_len (r : Nat) : ∀ l : List Ty, l.length ≤ sumF r l
  | [] => by simp [sumF]
  | a :: l => by
    have := sumF_len r l
    have := sizeF_pos r a
    rw [sumF_cons, List.length_cons]
    omega
theorem parts_names {k : Int} {ns : List ByteArray} {ls : List Ty} (h : partsB k ns ls = true) : ns.length ≤ ls.length := by
  unfold partsB at h
  repeat' split at h
  all_goals
    simp only [Bool.and_eq_true, decide_eq_true_eq] at h
    omega
/-- What stands behind the first statement: the copy's own variable, and its names. -/
structure NewVar (W wx : World) (G : Nat) (kd : Int) (vn' : Value) (ns : List ByteArray) : Prop where
  far : W.heap.size ≤ G
  has : Has wx G 25 [.int .i64 kd, vn', .slice none 0 0]
  names : ∃ lo hi, W.heap.size ≤ lo ∧ hi ≤ wx.heap.size ∧ ¬ (lo ≤ G ∧ G < hi) ∧ ∀ W' : World, hi ≤ W'.heap.size → (∀ k, lo ≤ k → k < hi → W'.heap[k]? = wx.heap[k]?) → StrsAt W' vn' ns
  below : Below W.heap.size W wx
theorem has3 {w : World} {G : Nat} {t : TypeId} {a b c a' b' c' : Value} (h : Has w G t [a, b, c]) : Has (((w.setCell ⟨G, 0, none⟩ a').setCell ⟨G, 1, none⟩ b').setCell ⟨G, 2, none⟩ c') G t [a', b', c'] := ((h.set 0 a').set 1 b').set 2 c'
theorem keep3 (w : World) (G : Nat) (a b c : Value) : Keeps [G] w (((w.setCell ⟨G, 0, none⟩ a).setCell ⟨G, 1, none⟩ b).setCell ⟨G, 2, none⟩ c) :=
  ((Keeps.set w G 0 a).trans (Keeps.set _ G 1 b) fun _ hx => .inl hx).trans (Keeps.set _ G 2 c) fun _ hx => .inl hx
theorem below_on {W0 W w : World} (h : Below W0.heap.size W0 W) (k : Below W.heap.size W w) : Below W0.heap.size W0 w := h.trans (k.mono h.size)
theorem newA {W0 w5 : World} {z : List Value} {kd : Int} {vn' : Value} {ns : List ByteArray} (hz : ∃ a b c, z = [a, b, c])
    (hfr : ∀ W' : World, w5.heap.size ≤ W'.heap.size → (∀ k, (W0.alloc (.cells z.toArray 25)).drew.heap.size ≤ k → k < w5.heap.size → W'.heap[k]? = w5.heap[k]?) → StrsAt W' vn' ns)
    (hb : Below (W0.alloc (.cells z.toArray 25)).drew.heap.size (W0.alloc (.cells z.toArray 25)).drew w5) :
    NewVar W0 (((w5.setCell ⟨W0.heap.size, 0, none⟩ (.int .i64 kd)).setCell ⟨W0.heap.size, 1, none⟩ vn').setCell ⟨W0.heap.size, 2, none⟩ (.slice none 0 0)) W0.heap.size kd vn' ns := by
  obtain ⟨a, b, c, rfl⟩ := hz
  have hn := Has.new W0 25 [a, b, c]
  have h5 := hn.drew.below hb hn.lt
  have K := keep3 w5 W0.heap.size (.int .i64 kd) vn' (.slice none 0 0)
  refine ⟨Nat.le_refl _, has3 h5, ⟨W0.heap.size + 1, w5.heap.size, by omega, K.size, by omega, fun W' hs hag => hfr W' hs fun k hk hl => ?_⟩, ?_⟩
  · simp at hk
    rw [hag k (by omega) hl]
    exact K.block k hl (by simp; omega)
  · have hb0 : Below W0.heap.size W0 w5 := below_on ((Below.refl _ W0).alloc (Nat.le_refl _) _).drew hb
    exact ((hb0.setCell (by simp) _).setCell (by simp) _).setCell (by simp) _
theorem newB {W0 w5 : World} {kd : Int} {vn' : Value} {ns : List ByteArray}
    (hfr : ∀ W' : World, w5.heap.size ≤ W'.heap.size → (∀ k, W0.drew.heap.size ≤ k → k < w5.heap.size → W'.heap[k]? = w5.heap[k]?) → StrsAt W' vn' ns)
    (hb : Below W0.drew.heap.size W0.drew w5) :
    NewVar W0 (w5.alloc (.cells #[.int .i64 kd, vn', .slice none 0 0] 25)) w5.heap.size kd vn' ns := by
  have hb1 : Below W0.heap.size W0 w5 := below_on (Below.refl _ W0).drew hb
  refine ⟨hb1.size, Has.new w5 25 [.int .i64 kd, vn', .slice none 0 0], ⟨W0.heap.size, w5.heap.size, by omega, by simp, by omega, fun W' hs hag => hfr W' hs fun k hk hl => ?_⟩, hb1.alloc hb1.size _⟩
  rw [hag k hk hl]
  exact Below.heap_alloc _ _ _ hl
set_option maxRecDepth 100000 in
set_option maxHeartbeats 16000000 in
theorem copied_any : ∀ (r : Nat) (t : Ty) (c L P : Nat) (d : Int) (w0 w : World) (vn va : Value), validB r t = true → sizeF r t ≤ c + 1 → c ≤ 4194304 → 1 ≤ d → d + (r : Int) ≤ 100 → TyAt w0 vn va t → TyOk t → Below w0.heap.size w0 w → w0.heap.size ≤ L → w0.heap.size ≤ P →
    Has w L 3 [.int .i64 (c : Int)] → Has w P 44 [fnD L P] →
    Calls Tryd.prog 62 #[.agg #[.int .i64 t.kind, vn, va], .int .i64 d, .pointer (some ⟨L, 0, none⟩), .pointer (some ⟨P, 0, none⟩)] w (CopyIs L w t (c + 1 - sizeF r t)) := by
  intro r
  induction r with
  | zero =>
    intro t c L P d w0 w vn va hv
    cases hv
  | succ r ih =>
    intro t c L P d w0 w vn va hv hsz hc hd1 hd h hok hB hL hP hhL hhP
    obtain ⟨kd, ns, ts⟩ := t
    obtain ⟨hpb, q, hq, hva⟩ := valid_parts hv
    obtain rfl : r = q := by omega
    obtain ⟨hn, ha⟩ := h.parts
    obtain ⟨hkk, ok1, ok2, ok3, ok4⟩ := hok.parts
    have hse : sizeF (r + 1) (.mk kd ns ts) = 1 + sumF r ts := size_args _
    have hln := sumF_len r ts
    have hnl : ns.length ≤ 1000000000000 := by have := parts_names hpb; omega
    obtain ⟨ce, hce⟩ : ∃ ce, c + 1 - sizeF (r + 1) (.mk kd ns ts) = ce := ⟨_, rfl⟩
    rw [hce]
    have HCE : Hid (c = ce + sumF r ts) := Lib.hid (by omega)
    change Calls _ _ #[.agg #[.int .i64 kd, vn, va], _, _, _] w _
    obtain ⟨an, cn, rfl⟩ := hn.shape
    obtain ⟨aa, ca, rfl⟩ := ha.shape
    obtain ⟨hh0, hh1, hbw, hsz2⟩ := box2 w [.int .i64 kd, .slice an ns.length cn, .slice aa ts.length ca] [.int .i64 0, .slice none 0 0, .slice none 0 0] 25 _ rfl
    have HIH := Lib.hid (fun (x : Ty) (c : Nat) (w : World) (vn va : Value) (hx : x ∈ ts) h1 h2 h3 h4 h5 h6 => ih x c L P (d + 1) w0 w vn va (hva x hx) h1 h2 (by omega) (by omega) h3 (ok4 x hx) h4 hL hP h5 h6)
    have HV := Lib.hid (fun (W : World) (hb : Below w0.heap.size w0 W) => ha.below (Nat.le_refl _) hb)
    have HV0 := Lib.hid ha
    have HCl0 := Lib.hid (fun (W : World) (hb : Below w0.heap.size w0 W) => clone_any ns (.slice an ns.length cn) W (hn.below (Nat.le_refl _) hb) hnl)
    have HPos := Lib.hid (⟨hhL.lt, hhP.lt, hhL.ne hhP (by decide +kernel), hB⟩ : L < w.heap.size ∧ P < w.heap.size ∧ L ≠ P ∧ Below w0.heap.size w0 w)
    have HHL := Lib.hid hhL
    have HHP := Lib.hid hhP
    have HLn := Lib.hid hln
    have HM4 : Hid (ts.length ≤ 4194304) := Lib.hid (by have := HCE.out; omega)
    have hdw : IntKind.i64.wrap (d + 1) = d + 1 := IntWalk.i64_in _ (by omega)
    have HLow := Lib.hid (⟨hL, hP⟩ : w0.heap.size ≤ L ∧ w0.heap.size ≤ P)
    have hd6 : (d == 65536) = false := by simp; omega
    clear h hok hB hL hP hhL hhP hn ha ok2 ok4 ih hse hce hva hv hpb hln hnl hq
    go_enter Tryd.func62, Tryd.ntmps62
    go_wp2
    change Code.wp _ _ _ _ (World.alloc (World.alloc w _) _)
    generalize World.alloc (World.alloc w (.cells #[.int .i64 kd, .slice an ns.length cn, .slice aa ts.length ca] 25)) (.cells #[.int .i64 0, .slice none 0 0, .slice none 0 0] 25) = W0 at hh0 hh1 hbw hsz2 ⊢
    have HW0 := Lib.hid (⟨hh0, hh1, hbw, hsz2⟩ : _ ∧ _ ∧ _ ∧ _)
    clear hh0 hh1 hbw hsz2
    have HS : Hid (∀ W, Below W0.heap.size W0 W → W.cell? ⟨w.heap.size, 0, none⟩ = some (.int .i64 kd) ∧ W.cell? ⟨w.heap.size, 1, none⟩ = some (.slice an ns.length cn)) := Lib.hid (fun W h => by
      have g0 := HW0.out.1.below h HW0.out.1.lt
      exact ⟨g0.cell 0, g0.cell 1⟩)
    have HCl : Hid (∀ W, Below W0.heap.size W0 W → Calls Tryd.prog 61 #[.slice an ns.length cn] W (CloneIs W ns)) := Lib.hid (fun W h => HCl0.out W ((HPos.out.2.2.2.trans (HW0.out.2.2.1.mono HPos.out.2.2.2.size)).trans (h.mono (Nat.le_trans HPos.out.2.2.2.size HW0.out.2.2.1.size))))
    obtain ⟨x0, x1⟩ := HS.out W0 (Below.refl _ _)
    have lA := HW0.out.1.lt
    go_cut [7] (fun s7 wx => ∃ (G : Nat) (vn' : Value), s7 = .pointer (some ⟨G, 0, none⟩) ∧ Hid (NewVar W0 wx G kd vn' ns))
    case first =>
      go_region_held3 (fun W => W.cell? ⟨w.heap.size, 0, none⟩ = some (.int .i64 kd) ∧ W.cell? ⟨w.heap.size, 1, none⟩ = some (.slice an ns.length cn))
        (exact HS.out _ (by repeat (first | exact Below.refl _ _ | assumption | refine Below.drew ?_ | refine Below.alloc ?_ (by first | omega | simp | (simp; omega)) _ | refine Below.setCell ?_ (by first | omega | simp | (simp; omega)) _)))
        (first
          | (go_at_call 61
             refine (HCl.out _ (by repeat (first | exact Below.refl _ _ | refine Below.drew ?_ | refine Below.alloc ?_ (by simp) _))).mono ?_
             rintro e w5 ⟨v', rfl, hfr, hb5⟩
             obtain ⟨a', c', rfl⟩ := (hfr w5 (Nat.le_refl _) (fun _ _ _ => rfl)).shape
             have hfr := Lib.hid hfr
             have hb6 : Below W0.heap.size W0 w5 := below_on (by repeat (first | exact Below.refl _ _ | refine Below.drew ?_ | refine Below.alloc ?_ (by simp) _)) hb5
             have h5s := hb6.size
             try (have hq : Has w5 W0.heap.size 25 [.int .i64 0, .slice none 0 0, .slice none 0 0] := (Has.new W0 25 [.int .i64 0, .slice none 0 0, .slice none 0 0]).drew.below hb5 (by simp)
                  have z0 := hq.cell 0
                  have z1 := hq.cell 1
                  have z2 := hq.cell 2
                  have k0 := hq.frozen 0
                  have k1 := hq.frozen 1
                  have k2 := hq.frozen 2
                  have lq := hq.lt)))
      all_goals
        go_wp2_with fail
        go_meet
        first
          | exact ⟨_, _, rfl, Lib.hid (newA ⟨_, _, _, rfl⟩ hfr.out hb5)⟩
          | exact ⟨_, _, rfl, Lib.hid (newB hfr.out hb5)⟩
    case rest =>
      obtain ⟨G, vn', rfl, HN⟩ := hcut
      obtain ⟨na, nc, rfl⟩ : ∃ na nc, vn' = .slice na ns.length nc := by
        obtain ⟨lo, hi, n1, n2, n3, n4⟩ := HN.out.names
        exact (n4 wc n2 (fun _ _ _ => rfl)).shape
      have HBc := Lib.hid (HW0.out.2.2.1.trans (HN.out.below.mono HW0.out.2.2.1.size))
      have HBw := Lib.hid (HPos.out.2.2.2.trans (HBc.out.mono HPos.out.2.2.2.size))
      have HGt := Lib.hid (HN.out.has.lt)
      have hw2 := HW0.out.1.below HN.out.below HW0.out.1.lt
      have z0 := hw2.cell 0
      have z1 := hw2.cell 1
      have z2 := hw2.cell 2
      have lz := hw2.lt
      obtain ⟨m, hm⟩ : ∃ m, ts.length = m := ⟨_, rfl⟩
      have HM := Lib.hid hm
      rw [hm] at ok3
      simp only [List.getElem?_cons_zero, List.getElem?_cons_succ] at z0 z1 z2
      rw [hm] at z2
      clear hw2 hm x0 x1 lA
      have HL0 := Lib.hid (HHL.out.below HBc.out HPos.out.1)
      have HG0 := Lib.hid HN.out.has
      go_wp2
      clear z0 z1 z2 lz
      go_loopw [22] (fun i wr => ∃ (k cur : Nat) (l : Value) (xs : List (Ty × Value × Value)), i = .int .i64 (k : Int) ∧ k ≤ m ∧ cur ≤ 4194304 ∧ Hid (cur = ce + sumF r (ts.drop k)) ∧ Hid (xs.map (·.1) = ts.take k) ∧ Hid (RowSnug wr wc.heap.size (fun k => wc.heap.size ≤ k) [G, L] l xs) ∧ Hid (Keeps [L, G] wc wr) ∧ Hid (Has wr L 3 [.int .i64 (cur : Int)]) ∧ Hid (Has wr G 25 [.int .i64 kd, (.slice na ns.length nc), l])) (fun i _ => m - (intOf i).toNat)
      case atStart => exact ⟨0, c, .slice none 0 0, [], rfl, by omega, hc, by simpa using HCE, Lib.hid rfl, Lib.hid (RowSnug.nil _ _ _ _), Lib.hid (Keeps.refl _ _), HL0, HG0⟩
      case round =>
        obtain ⟨k, cur, l, xs, rfl, hk, hcur, HCur, HX, HRow, HK, HLr, HGr⟩ := hrel
        have HBr : Hid (∀ W, Keeps [L, G] wc W → W0.heap.size ≤ W.heap.size) := Lib.hid (fun W h => Nat.le_trans HN.out.below.size h.size)
        have HPo := Lib.hid HPos.out.2.2.1
        have HGn : Hid (G ≠ P ∧ G ≠ L ∧ w.heap.size ≤ G ∧ G ≠ w.heap.size ∧ G ≠ w.heap.size + 1) := Lib.hid (by
          have h1 := HN.out.far
          have h2 := HW0.out.2.2.2
          have h3 := HPos.out.1
          have h4 := HPos.out.2.1
          omega)
        by_cases hlt : k < m
        · have hi1 : (k : Int) < (m : Int) := by omega
          have hkl : k < ts.length := by rw [HM.out]; exact hlt
          have HD2 := Lib.hid (sumF_drop (r := r) hkl)
          have HBk := Lib.hid (HBw.out.trans (HK.out.toBelow w0.heap.size HBw.out.size (by
            have h1 := HLow.out.1
            have h2 := HGn.out.2.2.1
            have h3 := HPos.out.2.2.2.size
            intro x hx
            simp at hx
            rcases hx with rfl | rfl <;> omega)))
          obtain ⟨b, o, vx, ax, rfl, hb, g0, g1, g2, g3⟩ := (HV.out _ HBk.out).at k hkl
          have HT0 : Hid (TyAt w0 vx ax ts[k]) := Lib.hid (by
            obtain ⟨b', o', vn', vb', e, -, k0, k1, k2, k3⟩ := HV0.out.at k hkl
            injection e with e
            injection e with e1 e2
            subst e1 e2
            have q1 := (HBk.out.cell (p := ⟨b, o + k * 3 + 1, none⟩) (cell_spot k1).2).symm.trans g1
            have q2 := (HBk.out.cell (p := ⟨b, o + k * 3 + 2, none⟩) (cell_spot k2).2).symm.trans g2
            rw [k1] at q1
            rw [k2] at q2
            injection q1 with q1
            injection q2 with q2
            rw [← q1, ← q2]
            exact k3)
          obtain ⟨an', cn', ab, cb, rfl, rfl⟩ := g3.shape
          have HMem := Lib.hid (List.getElem_mem hkl)
          have hpos := sizeF_pos r ts[k]
          obtain ⟨cu, rfl⟩ : ∃ cu, cur = cu + 1 := ⟨cur - 1, by have := HCur.out; have := HD2.out; omega⟩
          have HSz : Hid (sizeF r ts[k] ≤ cu + 1) := Lib.hid (by have := HCur.out; have := HD2.out; omega)
          have HCe : Hid (cu + 1 - sizeF r ts[k] = ce + sumF r (ts.drop (k + 1))) := Lib.hid (by have := HCur.out; have := HD2.out; omega)
          have HXk : Hid (ts.take (k + 1) = ts.take k ++ [ts[k]]) := Lib.hid (by rw [List.take_add_one, List.getElem?_eq_getElem hkl]; rfl)
          generalize ts[k] = x at g0 g1 g2 g3 HT0 HMem HSz HCe HXk
          have l0 := HLr.out.cell 0
          have lf := HLr.out.frozen 0
          have ll := HLr.out.lt
          have hcui : (cu : Int) ≤ 4194304 := by omega
          have hcu1 : (((cu + 1 : Nat) : Int) == 0) = false := by simp; omega
          simp at l0
          clear g3 hpos HCur HD2 hcur
          go_wp2
          have hK8 : Keeps [L] wr ((wr.setCell ⟨L, 0, none⟩ (.int .i64 (cu : Int))).alloc (.cells #[.int .i64 x.kind, .slice an' x.names.length cn', .slice ab x.args.length cb] 25)) := (Keeps.set wr L 0 _).trans (Keeps.alloc [L] _ _) fun _ hx => .inl hx
          have hL8 : Has ((wr.setCell ⟨L, 0, none⟩ (.int .i64 (cu : Int))).alloc (.cells #[.int .i64 x.kind, .slice an' x.names.length cn', .slice ab x.args.length cb] 25)) L 3 [.int .i64 (cu : Int)] := (HLr.out.set 0 _).keeps (Keeps.alloc [] _ _) (by simp)
          have hN8 : Has ((wr.setCell ⟨L, 0, none⟩ (.int .i64 (cu : Int))).alloc (.cells #[.int .i64 x.kind, .slice an' x.names.length cn', .slice ab x.args.length cb] 25)) wr.heap.size 25 [.int .i64 x.kind, .slice an' x.names.length cn', .slice ab x.args.length cb] := by
            have := Has.new (wr.setCell ⟨L, 0, none⟩ (.int .i64 (cu : Int))) 25 [.int .i64 x.kind, .slice an' x.names.length cn', .slice ab x.args.length cb]
            rwa [show (wr.setCell ⟨L, 0, none⟩ (.int .i64 (cu : Int))).heap.size = wr.heap.size by simp [World.setCell]] at this
          have hP8 := ((HHP.out.below HBc.out HPos.out.2.1).keeps HK.out (by have := HPo.out; have := HGn.out.1; simp; omega)).keeps hK8 (by have := HPo.out; simp; omega)
          have hG8 := HGr.out.keeps hK8 (by have := HGn.out.2.1; simp; omega)
          have hR8 := HRow.out.keeps hK8 (by have := HPos.out.1; have := HBc.out.size; simp; omega)
          have hB8 := HBk.out.trans (hK8.toBelow w0.heap.size HBk.out.size (by have := HLow.out.1; simpa using this))
          generalize ((wr.setCell ⟨L, 0, none⟩ (.int .i64 (cu : Int))).alloc (.cells #[.int .i64 x.kind, .slice an' x.names.length cn', .slice ab x.args.length cb] 25)) = W8 at hK8 hL8 hN8 hP8 hG8 hR8 hB8 ⊢
          have HC := Lib.hid (HIH.out x cu W8.drew _ _ HMem.out HSz.out (by omega) HT0.out hB8.drew hL8.drew hP8.drew)
          have HK8 := Lib.hid hK8
          have HL8 := Lib.hid hL8
          have HN8 := Lib.hid hN8
          have HP8 := Lib.hid hP8
          have HG8 := Lib.hid hG8
          have HR8 := Lib.hid hR8
          have p0 := hP8.cell 0
          have n0 := hN8.cell 0
          have n1 := hN8.cell 1
          have n2 := hN8.cell 2
          have g8 := hG8.cell 2
          have pl := hP8.lt
          have nl := hN8.lt
          have hGl := hG8.lt
          simp only [List.getElem?_cons_zero, List.getElem?_cons_succ, fnD] at p0 n0 n1 n2 g8
          clear l0 lf ll g0 g1 g2 hb hK8 hL8 hN8 hP8 hG8 hR8 hB8
          obtain ⟨la, lc, rfl⟩ := HR8.out.shape
          have HB : Hid (∀ (w5 : World) (vn2 va2 : Value), Snug w5 (fun k => W8.drew.heap.size ≤ k ∧ k < w5.heap.size) vn2 va2 x → Keeps [L] W8.drew w5 → Has w5 L 3 [.int .i64 ((cu + 1 - sizeF r x : Nat) : Int)] →
              (w5.cell? ⟨P, 0, none⟩ = some (.func (.func 62) #[] #[.pointer (some ⟨L, 0, none⟩), .pointer (some ⟨P, 0, none⟩)]) ∧ w5.cell? ⟨wr.heap.size, 0, none⟩ = some (.int .i64 x.kind) ∧ w5.cell? ⟨wr.heap.size, 1, none⟩ = some (.slice an' x.names.length cn') ∧ w5.cell? ⟨wr.heap.size, 2, none⟩ = some (.slice ab x.args.length cb)) ∧
              ∃ v2 w6, (∃ a n c, v2 = .slice a n c) ∧ (Builtin.append_ #[23, 23] 23 #[.slice la xs.length lc, .slice (some ⟨w5.heap.size, 0, none⟩) 1 1]).run Tryd.prog (w5.alloc (.cells #[.int .i64 x.kind, vn2, va2] 25)) = .ok v2 w6 ∧
              ((w6.cell? ⟨P, 0, none⟩ = some (.func (.func 62) #[] #[.pointer (some ⟨L, 0, none⟩), .pointer (some ⟨P, 0, none⟩)]) ∧ w6.cell? ⟨wr.heap.size, 0, none⟩ = some (.int .i64 x.kind) ∧ w6.cell? ⟨wr.heap.size, 1, none⟩ = some (.slice an' x.names.length cn') ∧ w6.cell? ⟨wr.heap.size, 2, none⟩ = some (.slice ab x.args.length cb)) ∧
               ((w6.setCell ⟨G, 2, none⟩ v2).cell? ⟨P, 0, none⟩ = some (.func (.func 62) #[] #[.pointer (some ⟨L, 0, none⟩), .pointer (some ⟨P, 0, none⟩)]) ∧ (w6.setCell ⟨G, 2, none⟩ v2).cell? ⟨wr.heap.size, 0, none⟩ = some (.int .i64 x.kind) ∧ (w6.setCell ⟨G, 2, none⟩ v2).cell? ⟨wr.heap.size, 1, none⟩ = some (.slice an' x.names.length cn') ∧ (w6.setCell ⟨G, 2, none⟩ v2).cell? ⟨wr.heap.size, 2, none⟩ = some (.slice ab x.args.length cb))) ∧
              (w5.cell? ⟨G, 2, none⟩ = some (.slice la xs.length lc) ∧ ∀ o, (w5.alloc o).cell? ⟨G, 2, none⟩ = some (.slice la xs.length lc)) ∧ w6.cell? ⟨G, 2, none⟩ = some (.slice la xs.length lc) ∧ w6.frozen? ⟨G, 2, none⟩ = false ∧ G < w6.heap.size ∧
              (cu + 1 - sizeF r x ≤ 4194304 ∧ Hid (cu + 1 - sizeF r x = ce + sumF r (ts.drop (k + 1))) ∧ Hid ((xs ++ [(x, vn2, va2)]).map (·.1) = ts.take (k + 1)) ∧ Hid (RowSnug (w6.setCell ⟨G, 2, none⟩ v2) wc.heap.size (fun k => wc.heap.size ≤ k) [G, L] v2 (xs ++ [(x, vn2, va2)])) ∧ Hid (Keeps [L, G] wc (w6.setCell ⟨G, 2, none⟩ v2)) ∧ Hid (Has (w6.setCell ⟨G, 2, none⟩ v2) L 3 [.int .i64 ((cu + 1 - sizeF r x : Nat) : Int)]) ∧ Hid (Has (w6.setCell ⟨G, 2, none⟩ v2) G 25 [.int .i64 kd, .slice na ns.length nc, v2]))) := Lib.hid (by
            intro w5 vn2 va2 hs5 hk5 hl5
            have hLG : L < wc.heap.size ∧ G < wc.heap.size ∧ L < W8.heap.size ∧ wc.heap.size ≤ W8.heap.size := ⟨Nat.lt_of_lt_of_le HPos.out.1 HBc.out.size, HGt.out, HL8.out.lt, Nat.le_trans HK.out.size HK8.out.size⟩
            have hne := HGn.out
            have hPL := HPo.out
            have hwr : wr.heap.size ≠ L ∧ wr.heap.size ≠ G ∧ wc.heap.size ≤ wr.heap.size := ⟨by have := HLr.out.lt; omega, by have := HGr.out.lt; omega, HK.out.size⟩
            have hk5' : Keeps [L] W8 w5 := (Keeps.drew [L] W8).trans hk5 fun _ hx => .inl hx
            have hsz : W8.drew.heap.size = W8.heap.size := rfl
            have hP5 := HP8.out.keeps hk5' (by simp; omega)
            have hN5 := HN8.out.keeps hk5' (by simp; omega)
            have hG5 := HG8.out.keeps hk5' (by simp; omega)
            have hR5 := HR8.out.keeps hk5' (by simp; omega)
            have hown : ∀ g, (Value.slice la xs.length lc).ownBlock = some g → wc.heap.size ≤ g ∧ g < W8.heap.size ∧ g ≠ wr.heap.size := fun g hg => ⟨(own_lt HR8.out.own g hg).1, (own_lt HR8.out.own g hg).2, by have := own_lt HRow.out.own g hg; omega⟩
            obtain ⟨v2, w6, hrun, hR6, hK6⟩ := hR5.push hs5 (fun k hk => by omega) (by simp; omega) (fun g hg => by have := hown g hg; omega) (by have hx := congrArg List.length HX.out; have := HM4.out; rw [List.length_map, List.length_take] at hx; omega) (by have := hk5.size; omega)
            have hfar : ∀ z, (∀ g, (Value.slice la xs.length lc).ownBlock = some g → g ≠ z) → z ∉ (Value.slice la xs.length lc).ownBlock.toList := fun z hz hm => hz z (Option.mem_toList.1 hm) rfl
            have hP6 := hP5.keeps hK6 (hfar _ fun g hg => by have := hown g hg; have := HPos.out.2.1; have := HBc.out.size; omega)
            have hN6 := hN5.keeps hK6 (hfar _ fun g hg => by have := hown g hg; omega)
            have hG6 := hG5.keeps hK6 (hfar _ fun g hg => by have := hown g hg; omega)
            have hL6 := hl5.keeps hK6 (hfar _ fun g hg => by have := hown g hg; omega)
            have kS := Keeps.set w6 G 2 v2
            have hP7 := hP6.keeps kS (by simp; omega)
            have hN7 := hN6.keeps kS (by simp; omega)
            have hL7 := hL6.keeps kS (by simp; omega)
            have hk7 : Keeps [L, G] wc (w6.setCell ⟨G, 2, none⟩ v2) := (((HK.out.trans HK8.out (fun y hy => by simp at hy; subst hy; exact .inl (by simp))).trans hk5' (fun y hy => by simp at hy; subst hy; exact .inl (by simp))).trans hK6 (fun y hy => .inr (hown y (Option.mem_toList.1 hy)).1)).trans kS (fun y hy => by simp at hy; subst hy; exact .inl (by simp))
            refine ⟨⟨hP5.cell 0, hN5.cell 0, hN5.cell 1, hN5.cell 2⟩, v2, w6, (by obtain ⟨a, c, e⟩ := hR6.shape; exact ⟨a, _, c, e⟩), hrun, ⟨⟨hP6.cell 0, hN6.cell 0, hN6.cell 1, hN6.cell 2⟩, hP7.cell 0, hN7.cell 0, hN7.cell 1, hN7.cell 2⟩, ⟨hG5.cell 2, fun o => (World.cell?_alloc_lt w5 o ⟨G, 2, none⟩ hG5.lt).trans (hG5.cell 2)⟩, hG6.cell 2, hG6.frozen 2, hG6.lt, by have := sizeF_pos r x; omega, Lib.hid HCe.out, Lib.hid ?_, Lib.hid (hR6.keeps kS (by simp; omega)), Lib.hid hk7, Lib.hid hL7, Lib.hid (hG6.set 2 v2)⟩
            rw [List.map_append, HX.out, HXk.out]
            rfl)
          -- REGION
          refine wp_region_held_drew (S := (fun W => W.cell? ⟨P, 0, none⟩ = some (.func (.func 62) #[] #[.pointer (some ⟨L, 0, none⟩), .pointer (some ⟨P, 0, none⟩)]) ∧ W.cell? ⟨wr.heap.size, 0, none⟩ = some (.int .i64 x.kind) ∧ W.cell? ⟨wr.heap.size, 1, none⟩ = some (.slice an' x.names.length cn') ∧ W.cell? ⟨wr.heap.size, 2, none⟩ = some (.slice ab x.args.length cb))) (by rfl) ⟨p0, n0, n1, n2⟩ (fun hHeld => ?_)
          refine wpAnyH_take (i := 0) (oi := { dst := some 30, op := Op.fieldAddr 25 (.tmp 7) 2, type := _, pos := _, after := _, guard := _ }) (v := .pointer (some ⟨G, 2, none⟩)) rfl (by kernel_rfl) (by kernel_rfl) (by kernel_rfl) (fun _ _ _ h => h) (Or.inl ⟨by rfl, ?_⟩) (by assumption) ?_
          · intro w' hs
            obtain ⟨s0, s1, s2, s3⟩ := hs
            go_simp
          try simp only [Act.put, List.setIfInBounds_toArray, List.set_cons_zero, List.set_cons_succ]
          refine wpAnyH_take (i := 2) (oi := { dst := some 32, op := Op.load 44 (.tmp 3), type := _, pos := _, after := _, guard := _ }) (v := .func (.func 62) #[] #[.pointer (some ⟨L, 0, none⟩), .pointer (some ⟨P, 0, none⟩)]) rfl (by kernel_rfl) (by kernel_rfl) (by kernel_rfl) (fun _ _ _ h => h) (Or.inl ⟨by rfl, ?_⟩) (by assumption) ?_
          · intro w' hs
            obtain ⟨s0, s1, s2, s3⟩ := hs
            go_simp
          try simp only [Act.put, List.setIfInBounds_toArray, List.set_cons_zero, List.set_cons_succ]
          refine wpAnyH_take (i := 3) (oi := { dst := some 33, op := Op.load 25 (.tmp 9), type := _, pos := _, after := _, guard := _ }) (v := .agg #[.int .i64 x.kind, .slice an' x.names.length cn', .slice ab x.args.length cb]) rfl (by kernel_rfl) (by kernel_rfl) (by kernel_rfl) (fun _ _ _ h => h) (Or.inl ⟨by rfl, ?_⟩) (by assumption) ?_
          · intro w' hs
            obtain ⟨s0, s1, s2, s3⟩ := hs
            go_simp
          try simp only [Act.put, List.setIfInBounds_toArray, List.set_cons_zero, List.set_cons_succ]
          refine wpAnyH_take (i := 4) (oi := { dst := some 34, op := Op.move (.tmp 1), type := _, pos := _, after := _, guard := _ }) (v := .int .i64 d) rfl (by kernel_rfl) (by kernel_rfl) (by kernel_rfl) (fun _ _ _ h => h) (Or.inl ⟨by rfl, ?_⟩) (by assumption) ?_
          · intro w' hs
            obtain ⟨s0, s1, s2, s3⟩ := hs
            go_simp
          try simp only [Act.put, List.setIfInBounds_toArray, List.set_cons_zero, List.set_cons_succ]
          refine wpAnyH_take (i := 5) (oi := { dst := some 35, op := Op.binOp .add 3 (.tmp 34) (.const (.int .i64 1)) 3, type := _, pos := _, after := _, guard := _ }) (v := .int .i64 (d + 1)) rfl (by kernel_rfl) (by kernel_rfl) (by kernel_rfl) (fun _ _ _ h => h) (Or.inl ⟨by rfl, ?_⟩) (by assumption) ?_
          · intro w' hs
            obtain ⟨s0, s1, s2, s3⟩ := hs
            go_simp
          try simp only [Act.put, List.setIfInBounds_toArray, List.set_cons_zero, List.set_cons_succ]
          refine wpAnyH_ready (rs := [1, 6]) (by kernel_rfl) (by simp) ?_
          refine AllReadyH.cons (o := { dst := some 31, op := Op.load 23 (.tmp 30), type := _, pos := _, after := _, guard := _ }) rfl (fun K hK => ?_) ?_
          · go_simp
            refine hK.out _ _ hHeld (fun hHeld => ?_)
            clear hK K
            try simp only [Act.put, List.setIfInBounds_toArray, List.set_cons_zero, List.set_cons_succ]
            refine wpAnyH_ready (rs := [6]) (by kernel_rfl) (by simp) ?_
            refine AllReadyH.cons (o := { dst := some 36, op := Op.call { callee := .value (.tmp 32), args := #[.tmp 33, .tmp 35], argTypes := _ }, type := _, pos := _, after := _, guard := _ }) rfl (fun K hK => ?_) AllReadyH.nil
            go_simp
            refine (HC.out).mono ?_
            rintro e w5 ⟨vn2, va2, rfl, hs5, hk5, hl5⟩
            obtain ⟨an2, cn2, aa2, ca2, rfl, rfl⟩ := hs5.now.shape
            obtain ⟨hS5, v2, w6, ⟨la2, nl2, lc2, rfl⟩, hrun, hS6, ⟨g5, g5a⟩, g6, f6, l6, hEnd⟩ := HB.out w5 _ _ hs5 hk5 hl5
            have HEnd := Lib.hid hEnd
            clear hEnd hs5 hk5 hl5
            refine hK.out _ _ hS5 (fun hHeld => ?_)
            clear hK K
            try simp only [Act.put, List.setIfInBounds_toArray, List.set_cons_zero, List.set_cons_succ]
            refine wpAnyH_ready (rs := [7]) (by kernel_rfl) (by simp) ?_
            refine AllReadyH.cons (o := { dst := some 37, op := Op.buildSlice 23 1 #[(0, .tmp 36)], type := _, pos := _, after := _, guard := _ }) rfl (fun K hK => ?_) AllReadyH.nil
            go_simp
            refine hK.out _ _ (by obtain ⟨s0, s1, s2, s3⟩ := hS5; go_keep) (fun hHeld => ?_)
            clear hK K
            try simp only [Act.put, List.setIfInBounds_toArray, List.set_cons_zero, List.set_cons_succ]
            refine wpAnyH_ready (rs := [8]) (by kernel_rfl) (by simp) ?_
            refine AllReadyH.cons (o := { dst := some 38, op := Op.call { callee := .builtin .append, args := #[.tmp 31, .tmp 37], argTypes := _ }, type := _, pos := _, after := _, guard := _ }) rfl (fun K hK => ?_) AllReadyH.nil
            refine step_append_own rfl (.tmp 31) (.tmp 37) 23 rfl _ _ _ _ rfl rfl hrun ?_
            refine hK.out _ _ hS6.1 (fun hHeld => ?_)
            clear hK K
            try simp only [Act.put, List.setIfInBounds_toArray, List.set_cons_zero, List.set_cons_succ]
            refine wpAnyH_ready (rs := [9]) (by kernel_rfl) (by simp) ?_
            refine AllReadyH.cons (o := { dst := some 39, op := Op.fieldAddr 25 (.tmp 7) 2, type := _, pos := _, after := _, guard := _ }) rfl (fun K hK => ?_) AllReadyH.nil
            go_simp
            refine hK.out _ _ hS6.1 (fun hHeld => ?_)
            clear hK K
            try simp only [Act.put, List.setIfInBounds_toArray, List.set_cons_zero, List.set_cons_succ]
            refine wpAnyH_ready (rs := [10]) (by kernel_rfl) (by simp) ?_
            refine AllReadyH.cons (o := { dst := none, op := Op.store 23 (.tmp 39) (.tmp 38), type := _, pos := _, after := _, guard := _ }) rfl (fun K hK => ?_) AllReadyH.nil
            go_simp
            refine hK.out _ _ hS6.2 (fun hHeld => ?_)
            clear hK K
            refine wpAnyH_done (by kernel_rfl) ?_ _
            go_wp2
            go_roundw
            case rel => exact ⟨k + 1, _, _, _, by go_num, by omega, HEnd.out⟩
            case measure => simp [intOf]; omega
          refine AllReadyH.cons (o := { dst := some 36, op := Op.call { callee := .value (.tmp 32), args := #[.tmp 33, .tmp 35], argTypes := _ }, type := _, pos := _, after := _, guard := _ }) rfl (fun K hK => ?_) AllReadyH.nil
          go_simp
          refine (HC.out).mono ?_
          rintro e w5 ⟨vn2, va2, rfl, hs5, hk5, hl5⟩
          obtain ⟨an2, cn2, aa2, ca2, rfl, rfl⟩ := hs5.now.shape
          obtain ⟨hS5, v2, w6, ⟨la2, nl2, lc2, rfl⟩, hrun, hS6, ⟨g5, g5a⟩, g6, f6, l6, hEnd⟩ := HB.out w5 _ _ hs5 hk5 hl5
          have HEnd := Lib.hid hEnd
          clear hEnd hs5 hk5 hl5
          refine hK.out _ _ hS5 (fun hHeld => ?_)
          clear hK K
          try simp only [Act.put, List.setIfInBounds_toArray, List.set_cons_zero, List.set_cons_succ]
          refine wpAnyH_ready (rs := [1, 7]) (by kernel_rfl) (by simp) ?_
          refine AllReadyH.cons (o := { dst := some 31, op := Op.load 23 (.tmp 30), type := _, pos := _, after := _, guard := _ }) rfl (fun K hK => ?_) ?_
          · go_simp
            refine hK.out _ _ hHeld (fun hHeld => ?_)
            clear hK K
            try simp only [Act.put, List.setIfInBounds_toArray, List.set_cons_zero, List.set_cons_succ]
            refine wpAnyH_ready (rs := [7]) (by kernel_rfl) (by simp) ?_
            refine AllReadyH.cons (o := { dst := some 37, op := Op.buildSlice 23 1 #[(0, .tmp 36)], type := _, pos := _, after := _, guard := _ }) rfl (fun K hK => ?_) AllReadyH.nil
            go_simp
            refine hK.out _ _ (by obtain ⟨s0, s1, s2, s3⟩ := hS5; go_keep) (fun hHeld => ?_)
            clear hK K
            try simp only [Act.put, List.setIfInBounds_toArray, List.set_cons_zero, List.set_cons_succ]
            refine wpAnyH_ready (rs := [8]) (by kernel_rfl) (by simp) ?_
            refine AllReadyH.cons (o := { dst := some 38, op := Op.call { callee := .builtin .append, args := #[.tmp 31, .tmp 37], argTypes := _ }, type := _, pos := _, after := _, guard := _ }) rfl (fun K hK => ?_) AllReadyH.nil
            refine step_append_own rfl (.tmp 31) (.tmp 37) 23 rfl _ _ _ _ rfl rfl hrun ?_
            refine hK.out _ _ hS6.1 (fun hHeld => ?_)
            clear hK K
            try simp only [Act.put, List.setIfInBounds_toArray, List.set_cons_zero, List.set_cons_succ]
            refine wpAnyH_ready (rs := [9]) (by kernel_rfl) (by simp) ?_
            refine AllReadyH.cons (o := { dst := some 39, op := Op.fieldAddr 25 (.tmp 7) 2, type := _, pos := _, after := _, guard := _ }) rfl (fun K hK => ?_) AllReadyH.nil
            go_simp
            refine hK.out _ _ hS6.1 (fun hHeld => ?_)
            clear hK K
            try simp only [Act.put, List.setIfInBounds_toArray, List.set_cons_zero, List.set_cons_succ]
            refine wpAnyH_ready (rs := [10]) (by kernel_rfl) (by simp) ?_
            refine AllReadyH.cons (o := { dst := none, op := Op.store 23 (.tmp 39) (.tmp 38), type := _, pos := _, after := _, guard := _ }) rfl (fun K hK => ?_) AllReadyH.nil
            go_simp
            refine hK.out _ _ hS6.2 (fun hHeld => ?_)
            clear hK K
            refine wpAnyH_done (by kernel_rfl) ?_ _
            go_wp2
            go_roundw
            case rel => exact ⟨k + 1, _, _, _, by go_num, by omega, HEnd.out⟩
            case measure => simp [intOf]; omega
          refine AllReadyH.cons (o := { dst := some 37, op := Op.buildSlice 23 1 #[(0, .tmp 36)], type := _, pos := _, after := _, guard := _ }) rfl (fun K hK => ?_) AllReadyH.nil
          go_simp
          refine hK.out _ _ (by obtain ⟨s0, s1, s2, s3⟩ := hS5; go_keep) (fun hHeld => ?_)
          clear hK K
          try simp only [Act.put, List.setIfInBounds_toArray, List.set_cons_zero, List.set_cons_succ]
          refine wpAnyH_ready (rs := [1]) (by kernel_rfl) (by simp) ?_
          refine AllReadyH.cons (o := { dst := some 31, op := Op.load 23 (.tmp 30), type := _, pos := _, after := _, guard := _ }) rfl (fun K hK => ?_) AllReadyH.nil
          go_simp
          refine hK.out _ _ hHeld (fun hHeld => ?_)
          clear hK K
          try simp only [Act.put, List.setIfInBounds_toArray, List.set_cons_zero, List.set_cons_succ]
          refine wpAnyH_ready (rs := [8]) (by kernel_rfl) (by simp) ?_
          refine AllReadyH.cons (o := { dst := some 38, op := Op.call { callee := .builtin .append, args := #[.tmp 31, .tmp 37], argTypes := _ }, type := _, pos := _, after := _, guard := _ }) rfl (fun K hK => ?_) AllReadyH.nil
          refine step_append_own rfl (.tmp 31) (.tmp 37) 23 rfl _ _ _ _ rfl rfl hrun ?_
          refine hK.out _ _ hS6.1 (fun hHeld => ?_)
          clear hK K
          try simp only [Act.put, List.setIfInBounds_toArray, List.set_cons_zero, List.set_cons_succ]
          refine wpAnyH_ready (rs := [9]) (by kernel_rfl) (by simp) ?_
          refine AllReadyH.cons (o := { dst := some 39, op := Op.fieldAddr 25 (.tmp 7) 2, type := _, pos := _, after := _, guard := _ }) rfl (fun K hK => ?_) AllReadyH.nil
          go_simp
          refine hK.out _ _ hS6.1 (fun hHeld => ?_)
          clear hK K
          try simp only [Act.put, List.setIfInBounds_toArray, List.set_cons_zero, List.set_cons_succ]
          refine wpAnyH_ready (rs := [10]) (by kernel_rfl) (by simp) ?_
          refine AllReadyH.cons (o := { dst := none, op := Op.store 23 (.tmp 39) (.tmp 38), type := _, pos := _, after := _, guard := _ }) rfl (fun K hK => ?_) AllReadyH.nil
          go_simp
          refine hK.out _ _ hS6.2 (fun hHeld => ?_)
          clear hK K
          refine wpAnyH_done (by kernel_rfl) ?_ _
          go_wp2
          go_roundw
          case rel => exact ⟨k + 1, _, _, _, by go_num, by omega, HEnd.out⟩
          case measure => simp [intOf]; omega
        · have hkm : k = m := by omega
          subst hkm
          obtain ⟨la, lc, rfl⟩ := HRow.out.shape
          have HFin : Hid (∀ a b c', CopyIs L w (.mk kd ns ts) ce (.returned (.agg #[.int .i64 kd, (.slice na ns.length nc), .slice la xs.length lc])) (((wr.setCell ⟨w.heap.size + 1, 0, none⟩ a).setCell ⟨w.heap.size + 1, 1, none⟩ b).setCell ⟨w.heap.size + 1, 2, none⟩ c')) := Lib.hid (fun a b c' => by
            have K := keep3 wr (w.heap.size + 1) a b c'
            obtain ⟨lo, hi, n1, n2, n3, n4⟩ := HN.out.names
            have hs0 := HW0.out.2.2.2
            have hs1 := HN.out.below.size
            have hs2 := HK.out.size
            have hs3 := K.size
            have hLw := HPos.out.1
            have hG := HN.out.far
            have hGc := HGt.out
            refine ⟨_, .slice la xs.length lc, rfl, ⟨fun k hk => hk.2, fun W' hs hag => ?_⟩, ?_, ?_⟩
            · refine TyAt.of (n4 W' (by omega) fun k h1 h2 => ?_) ?_
              · rw [hag k ⟨by omega, by omega⟩, K.block k (by omega) (by simp; omega), HK.out.block k (by omega) (by simp; omega)]
              · have hT := HRow.out.tys (W' := W') (fun k h => h) (by omega) (fun k hE hl => by
                  rw [hag k ⟨by omega, by omega⟩, K.block k hl (by simp; omega)])
                rw [HX.out, List.take_of_length_le (by rw [HM.out]; omega)] at hT
                exact hT
            · refine (((Keeps.below' HW0.out.2.2.1 [L]).trans (Keeps.below' HN.out.below []) (by simp)).trans HK.out ?_).trans K ?_
              · intro x hx
                simp at hx
                rcases hx with rfl | rfl
                · exact .inl (by simp)
                · exact .inr (by omega)
              · intro x hx
                simp at hx
                exact .inr (by omega)
            · have h := HLr.out.keeps K (by simp; omega)
              rwa [HCur.out, List.drop_eq_nil_of_le (by rw [HM.out]; omega), sumF_nil, Nat.add_zero] at h)
          have g0 := HGr.out.cell 0
          have g1 := HGr.out.cell 1
          have g2 := HGr.out.cell 2
          have gl := HGr.out.lt
          have hr := (HW0.out.2.1.below HN.out.below HW0.out.2.1.lt).keeps HK.out (by have := HPos.out.1; have := HGn.out; simp; omega)
          have r0 := hr.cell 0
          have r1 := hr.cell 1
          have r2 := hr.cell 2
          have f0 := hr.frozen 0
          have f1 := hr.frozen 1
          have f2 := hr.frozen 2
          have rl := hr.lt
          have hGw := HGn.out.2.2.2.2
          simp only [List.getElem?_cons_zero, List.getElem?_cons_succ] at g0 g1 g2 r0 r1 r2
          clear hr HRow HLr HGr HX HCur hlt hk
          go_wp2
          exact bodyPost_ret (v := .agg #[.int .i64 kd, (.slice na ns.length nc), .slice la xs.length lc]) (by simp [results, Tryd.results62, go_sem, r0, r1, r2]) rfl (HFin.out _ _ _)
set_option maxRecDepth 100000 in
set_option maxHeartbeats 8000000 in
theorem dup_any (t : Ty) (vn va : Value) (w : World) (h : TyAt w vn va t) (hok : TyOk t) (hv : checkV t = true) :
    Calls Tryd.prog 42 #[.agg #[.int .i64 t.kind, vn, va]] w (FreshIs w t) := by
  have hmf : ∀ (fn : Fn) (first cap : Array Value) (w : World), (Instr.makeFunc fn first cap).run Tryd.prog w = .ok (.func fn first cap) w := fun _ _ _ _ => rfl
  obtain ⟨an, cn, aa, ca, rfl, rfl⟩ := h.shape
  obtain ⟨hb0, hb1, hb2, hb3, hBW, hsz⟩ := four_blocks w [.int .i64 t.kind, .slice an t.names.length cn, .slice aa t.args.length ca] [.int .i64 0, .slice none 0 0, .slice none 0 0] [.int .i64 4194304] [.func (.func 62) #[] #[.pointer (some ⟨w.heap.size + 1 + 1, 0, none⟩), .pointer (some ⟨w.heap.size + 1 + 1 + 1, 0, none⟩)]] 25 25 3 44 _ rfl
  obtain ⟨hvb, hvs⟩ := (check_iff t).1 hv
  have HVis := Lib.hid (copied_any 50 t 4194304 (w.heap.size + 1 + 1) (w.heap.size + 1 + 1 + 1) 1 w _ _ _ hvb (by omega) (by omega) (by omega) (by omega) h hok hBW (by omega) (by omega) hb2 hb3)
  have HBW := Lib.hid hBW
  have HSz := Lib.hid hsz
  clear hBW hsz h hok hv hvb hvs
  go_enter Tryd.func42, Tryd.ntmps42
  go_wp2_with fail
  change Calls _ _ _ (World.alloc (World.alloc (World.alloc (World.alloc w _) _) _) _) _
  generalize World.alloc (World.alloc (World.alloc (World.alloc w _) _) _) _ = W0 at hb0 hb1 hb2 hb3 HBW HSz HVis ⊢
  refine (HVis.out).mono ?_
  rintro e w1 ⟨vn, va, rfl, hs, hk, hl⟩
  obtain ⟨an', cn', aa', ca', rfl, rfl⟩ := hs.now.shape
  have hq := hb1.keeps hk (by simp)
  have z0 := hq.cell 0
  have z1 := hq.cell 1
  have z2 := hq.cell 2
  have f0 := hq.frozen 0
  have f1 := hq.frozen 1
  have f2 := hq.frozen 2
  have lq := hq.lt
  have HFin : Hid (∀ a b c, FreshIs w t (.returned (.agg #[.int .i64 t.kind, .slice an' t.names.length cn', .slice aa' t.args.length ca'])) (((w1.setCell ⟨w.heap.size + 1, 0, none⟩ a).setCell ⟨w.heap.size + 1, 1, none⟩ b).setCell ⟨w.heap.size + 1, 2, none⟩ c)) := Lib.hid (fun a b c => by
    have K := keep3 w1 (w.heap.size + 1) a b c
    have hs0 := HSz.out
    refine fresh_iff.2 ⟨_, _, rfl, (hs.keeps K (by intro x hx; simp at hx; omega)).sub (fun k hk => by have := K.size; omega) (fun k hk => hk.2), ?_⟩
    exact (HBW.out.trans (hk.toBelow w.heap.size HBW.out.size (by intro x hx; simp at hx; omega))).trans (K.toBelow w.heap.size (Nat.le_trans HBW.out.size hk.size) (by intro x hx; simp at hx; omega)))
  simp only [List.getElem?_cons_zero, List.getElem?_cons_succ] at z0 z1 z2
  clear hq hs hk hl hb0 hb1 hb2 hb3 HVis
  go_wp2
  exact bodyPost_ret (v := .agg #[.int .i64 t.kind, .slice an' t.names.length cn', .slice aa' t.args.length ca']) (by simp [results, Tryd.results42, go_sem, z0, z1, z2]) rfl (HFin.out _ _ _)
end TyD
end Go.Proofs.YtjddjiggelpdnaaDoor
