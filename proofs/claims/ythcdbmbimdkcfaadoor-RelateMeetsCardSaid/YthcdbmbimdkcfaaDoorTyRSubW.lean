/- Sub: the document's: flat, field. -/
import Derived.Test.YthcdbmbimdkcfaaDoorTyRPrec
namespace Go.Proofs.YthcdbmbimdkcfaaDoor
open Go.RowKit ObjM
namespace TyD
open LexD (nameB WTab)

set_option maxRecDepth 100000 in
set_option maxHeartbeats 1000000 in
theorem rflat10_any (t : Ty) (vn va : Value) (w : World) (h : TyAt w vn va t) : Calls Tryd.prog 46 #[.agg #[.int .i64 t.kind, vn, va]] w (BoolB w (flatB t.kind)) := by
  obtain ⟨an, cn, aa, ca, rfl, rfl⟩ := h.shape
  have HF := fun W => Lib.hid (refFlat_any t.kind W)
  generalize flatB t.kind = b at HF ⊢
  clear h
  go_enter Tryd.func46, Tryd.ntmps46
  go_wp2_with fail
  refine ((HF _).out).mono ?_
  rintro e w1 ⟨rfl, rfl⟩
  go_wp2
  go_ret
  exact ⟨rfl, (Below.refl _ _).alloc (Nat.le_refl _) _⟩
theorem TysAt.at_base {w W : World} {av : Option Addr} {cap n : Nat} {l : List Ty} (h : TysAt w (.slice av n cap) l) (hb : Below w.heap.size w W) (k : Nat) (hk : k < l.length) :
    ∃ b o vn va, av = some ⟨b, o, none⟩ ∧ b < W.heap.size ∧ W.cell? ⟨b, o + k * 3, none⟩ = some (.int .i64 l[k].kind) ∧ W.cell? ⟨b, o + k * 3 + 1, none⟩ = some vn ∧ W.cell? ⟨b, o + k * 3 + 2, none⟩ = some va ∧ TyAt w vn va l[k] := by
  obtain ⟨b, o, vn, va, e, hlt, c0, c1, c2, c3⟩ := h.at k hk
  exact ⟨b, o, vn, va, e, Nat.lt_of_lt_of_le hlt hb.size, (hb.cell (p := ⟨b, _, none⟩) hlt).trans c0, (hb.cell (p := ⟨b, _, none⟩) hlt).trans c1, (hb.cell (p := ⟨b, _, none⟩) hlt).trans c2, c3⟩
def lookD (ns : List ByteArray) (ts : List Ty) (s : ByteArray) : Option Ty := ((ns.zip ts).find? fun x => decide (x.1 = s)).map (·.2)
theorem lookD_drop {ns : List ByteArray} {ts : List Ty} {s : ByteArray} {k : Nat} (hn : k < ns.length) (ht : k < ts.length) : lookD (ns.drop k) (ts.drop k) s = if ns[k] = s then some ts[k] else lookD (ns.drop (k + 1)) (ts.drop (k + 1)) s := by
  rw [List.drop_eq_getElem_cons hn, List.drop_eq_getElem_cons ht]
  unfold lookD
  rw [List.zip_cons_cons, List.find?_cons]
  by_cases h : ns[k] = s
  · simp [h]
  · simp [h]
inductive FieldIs (w : World) : Option Ty → Ending → World → Prop
  | yes (x : Ty) (vn va : Value) (w' : World) : TyAt w' vn va x → Below w.heap.size w w' → FieldIs w (some x) (.returned (.tuple #[.agg #[.int .i64 x.kind, vn, va], .bool true])) w'
  | no (w' : World) : Below w.heap.size w w' → FieldIs w none (.returned (.tuple #[.agg #[.int .i64 0, .slice none 0 0, .slice none 0 0], .bool false])) w'
set_option maxRecDepth 100000 in
set_option maxHeartbeats 8000000 in
theorem field_any (t : Ty) (s : ByteArray) (vn va : Value) (w : World) (hok : TyOk t) (h : TyAt w vn va t) (hl : t.names.length = t.args.length) :
    Calls Tryd.prog 57 #[.agg #[.int .i64 t.kind, vn, va], .string s] w (FieldIs w (look t s)) := by
  obtain ⟨k, ns, ts⟩ := t
  obtain ⟨hn, ht⟩ := h.parts
  obtain ⟨_, ok1, _, ok3, ok4⟩ := hok.parts
  change Calls _ _ #[.agg #[.int .i64 k, vn, va], .string s] w (FieldIs w (lookD (ns.drop 0) (ts.drop 0) s))
  change ns.length = ts.length at hl
  obtain ⟨hh0, hh1, hbw, hsz⟩ := box2 w [.int .i64 k, vn, va] [.int .i64 0, .slice none 0 0, .slice none 0 0] 25 _ rfl
  have HN := Lib.hid (fun (W : World) (h : Below w.heap.size w W) => hn.below (Nat.le_refl _) h)
  have HT := Lib.hid ht
  obtain ⟨R, hR⟩ : ∃ R, lookD (ns.drop 0) (ts.drop 0) s = R := ⟨_, rfl⟩
  have HR := Lib.hid hR
  rw [hR]
  obtain ⟨an, cn, rfl⟩ := hn.shape
  obtain ⟨aa, ca, rfl⟩ := ht.shape
  obtain ⟨m, hm⟩ : ∃ m, ns.length = m := ⟨_, rfl⟩
  have HM := Lib.hid (⟨hm, hl.symm.trans hm⟩ : ns.length = m ∧ ts.length = m)
  have HBW := Lib.hid hbw
  have HH0 := Lib.hid hh0
  have HH1 := Lib.hid hh1
  have HSz := Lib.hid hsz
  rw [hm] at ok1 HBW HH0 HH1 HN HSz ⊢
  rw [hl.symm.trans hm] at HBW HH0 HH1 HT HSz ⊢
  clear h hn ht hok ok4 hbw hh0 hh1 hsz hm hl hR ok3
  go_enter Tryd.func57, Tryd.ntmps57
  go_wp2
  change Code.wp _ _ _ _ (World.alloc (World.alloc w _) _)
  generalize World.alloc (World.alloc w (.cells #[.int .i64 k, .slice an m cn, .slice aa m ca] 25)) (.cells #[.int .i64 0, .slice none 0 0, .slice none 0 0] 25) = w1 at HBW HH0 HH1 HSz ⊢
  generalize hA : w.heap.size = B0 at HH0 HH1 HSz ⊢
  have HAz := Lib.hid hA
  clear hA
  go_loopw [11] (fun i wr => ∃ j : Nat, i = .int .i64 (j : Int) ∧ j ≤ m ∧ Hid (wr = w1) ∧ Hid (lookD (ns.drop j) (ts.drop j) s = R)) (fun i _ => m - (intOf i).toNat)
  case atStart => exact ⟨0, rfl, by omega, Lib.hid rfl, HR⟩
  case round =>
    obtain ⟨j, rfl, hj, HW, HD⟩ := hrel
    obtain rfl := HW.out
    clear HW
    have x2 := HH0.out.cell 2
    have z0 := HH1.out.cell 0
    have z1 := HH1.out.cell 1
    have z2 := HH1.out.cell 2
    have f0 := HH1.out.frozen 0
    have f1 := HH1.out.frozen 1
    have f2 := HH1.out.frozen 2
    have lA := HH0.out.lt
    have lB := HH1.out.lt
    simp at x2 z0 z1 z2
    by_cases hlt : j < m
    · have hi1 : (j : Int) < (m : Int) := by omega
      have hjn : j < ns.length := by rw [HM.out.1]; exact hlt
      have hjt : j < ts.length := by rw [HM.out.2]; exact hlt
      obtain ⟨bs, os, rfl, hbs, c0⟩ := (HN.out _ HBW.out).at j hjn
      obtain ⟨bb, ob, un, ub, rfl, hbb, d0, d1, d2, d3⟩ := HT.out.at_base HBW.out j hjt
      have HD2 := Lib.hid (lookD_drop (s := s) hjn hjt)
      have HY := Lib.hid d3
      obtain ⟨bn2, dn2, bb2, db2, rfl, rfl⟩ := d3.shape
      generalize ts[j] = y at HD2 d0 d1 d2 d3 HY
      generalize ns[j] = q at HD2 c0
      clear d3 hjn hjt
      by_cases he : q = s
      · subst he
        have hb1 : (q.toList == q.toList) = true := by simp
        have HF : Hid (R = some y) := Lib.hid (by rw [← HD.out, HD2.out, if_pos rfl])
        obtain rfl := HF.out
        have HEnd : Hid (Below w.heap.size w (((wr.setCell ⟨B0 + 1, 0, none⟩ (.int .i64 y.kind)).setCell ⟨B0 + 1, 1, none⟩ (.slice bn2 y.names.length dn2)).setCell ⟨B0 + 1, 2, none⟩ (.slice bb2 y.args.length db2)) ∧ TyAt (((wr.setCell ⟨B0 + 1, 0, none⟩ (.int .i64 y.kind)).setCell ⟨B0 + 1, 1, none⟩ (.slice bn2 y.names.length dn2)).setCell ⟨B0 + 1, 2, none⟩ (.slice bb2 y.args.length db2)) (.slice bn2 y.names.length dn2) (.slice bb2 y.args.length db2) y) := Lib.hid (by
          have hb : Below w.heap.size w (((wr.setCell ⟨B0 + 1, 0, none⟩ (.int .i64 y.kind)).setCell ⟨B0 + 1, 1, none⟩ (.slice bn2 y.names.length dn2)).setCell ⟨B0 + 1, 2, none⟩ (.slice bb2 y.args.length db2)) := ((HBW.out.setCell (by simp [HAz.out]) _).setCell (by simp [HAz.out]) _).setCell (by simp [HAz.out]) _
          exact ⟨hb, HY.out.frame (Nat.le_refl _) hb⟩)
        clear HD HD2 HR HY
        go_wp2
        exact bodyPost_ret (v := .tuple #[.agg #[.int .i64 y.kind, .slice bn2 y.names.length dn2, .slice bb2 y.args.length db2], .bool true]) (by simp [results, Tryd.results57, go_sem, z0, z1, z2]) rfl (.yes _ _ _ _ HEnd.out.2 HEnd.out.1)
      · have hb1 : (q.toList == s.toList) = false := by
          rw [ByteArray.toList_eq, ByteArray.toList_eq]
          simp only [beq_eq_false_iff_ne, ne_eq]
          intro e
          exact he (ByteArray.ext (Array.ext' e))
        have HD3 : Hid (lookD (ns.drop (j + 1)) (ts.drop (j + 1)) s = R) := Lib.hid (by rw [← HD.out, HD2.out, if_neg he])
        clear HD HD2 he HY
        go_wp2
        go_roundw
        case rel => exact ⟨j + 1, by go_num, by omega, (by first | exact Lib.hid rfl | exact Lib.hid trivial), HD3⟩
        case measure => simp [intOf]; omega
    · have hjm : m = j := by omega
      have HF : Hid (R = none) := Lib.hid (by rw [← HD.out, List.drop_eq_nil_of_le (by rw [HM.out.1]; omega)]; rfl)
      obtain rfl := HF.out
      subst hjm
      have HEnd : Hid (Below w.heap.size w (((wr.setCell ⟨B0 + 1, 0, none⟩ (.int .i64 0)).setCell ⟨B0 + 1, 1, none⟩ (.slice none 0 0)).setCell ⟨B0 + 1, 2, none⟩ (.slice none 0 0))) := Lib.hid (((HBW.out.setCell (by simp [HAz.out]) _).setCell (by simp [HAz.out]) _).setCell (by simp [HAz.out]) _)
      clear HD HR
      go_wp2
      exact bodyPost_ret (v := .tuple #[.agg #[.int .i64 0, .slice none 0 0, .slice none 0 0], .bool false]) (by simp [results, Tryd.results57, go_sem, z0, z1, z2]) rfl (.no _ HEnd.out)
theorem andr_fin : ∀ y : Fin 128, (bits BinOp.and IntKind.i64 (y.val : Int) 16 != 0) = maskB 16 y.val := by decide +kernel
theorem tab_ok : TyOk (.mk 5 [] []) := .mk _ _ _ (by omega) (by simp) (by simp) (by simp) (by simp)
theorem drop_all {f : ByteArray × Ty → Bool} {a : List ByteArray} {b : List Ty} {k : Nat} (ha : k < a.length) (hb : k < b.length) : ((a.drop k).zip (b.drop k)).all f = (f (a[k], b[k]) && ((a.drop (k + 1)).zip (b.drop (k + 1))).all f) := zipDrop_all ha hb
end TyD
end Go.Proofs.YthcdbmbimdkcfaaDoor

namespace Go.Proofs.YthcdbmbimdkcfaaDoor
open Go.RowKit ObjM
namespace TyD
open LexD (nameB WTab)

def lkB (o : Option Ty) (y : Ty) : Bool := match o with | none => false | some x => sameV x y
set_option maxRecDepth 100000 in
set_option maxHeartbeats 32000000 in
theorem rsub88 (r : Nat) (a b : Ty) (vn va un ua : Value) (w : World) (ak : a.kind = 8) (bk : b.kind = 8) (hva : Ok (r + 1) a) (hvb : Ok (r + 1) b) (oka : TyOk a) (okb : TyOk b) (ha : TyAt w vn va a) (hb : TyAt w un ua b) :
    Calls Tryd.prog 34 #[.agg #[.int .i64 a.kind, vn, va], .agg #[.int .i64 b.kind, un, ua]] w (BoolB w (subB (r + 1) a b)) := by
  obtain ⟨hh0, hh1, hbw, hsz⟩ := box2 w [.int .i64 a.kind, vn, va] [.int .i64 b.kind, un, ua] 25 _ rfl
  have HTa := Lib.hid (fun (W : World) (h : Below w.heap.size w W) => ha.frame (Nat.le_refl _) h)
  have HTb := Lib.hid (fun (W : World) (h : Below w.heap.size w W) => hb.frame (Nat.le_refl _) h)
  have HK5 := Lib.hid (fun (W : World) (h : Below w.heap.size w W) => refKinds_any (.mk 5 [] []) (.slice none 0 0) (.slice none 0 0) W tab_ok (TyAt.of (StrsAt.nil W) (TysAt.nil W)))
  rw [show kindsC (.mk 5 [] []) = 16 by decide +kernel] at HK5
  have HFa := Lib.hid (fun (W : World) (h : Below w.heap.size w W) => rflat10_any a vn va W (HTa.out _ h))
  have HFb := Lib.hid (fun (W : World) (h : Below w.heap.size w W) => rflat10_any b un ua W (HTb.out _ h))
  rw [show flatB a.kind = false by rw [ak]; decide] at HFa
  rw [show flatB b.kind = false by rw [bk]; decide] at HFb
  have HR : Hid (subB (r + 1) a b = fieldsB sameV a b) := Lib.hid (by show (if b.kind = 0 then true else if a.kind = 0 then false else if a.kind = 8 ∧ b.kind = 8 then fieldsB sameV a b else _) = _; rw [if_neg (by omega), if_neg (by omega), if_pos ⟨ak, bk⟩])
  have HNb := Lib.hid (fun (W : World) (h : Below w.heap.size w W) => (show StrsAt W un b.names by obtain ⟨k, ns, ts⟩ := b; exact (hb.frame (Nat.le_refl _) h).parts.1))
  have HAb := Lib.hid (show TysAt w ua b.args by obtain ⟨k, ns, ts⟩ := b; exact hb.parts.2)
  have HFd2 := Lib.hid (fun (s : ByteArray) (W : World) (h : Below w.heap.size w W) => field_any a s vn va W oka (HTa.out _ h) (hva.shape ak).1)
  have HLn := Lib.hid (hvb.shape bk).1
  have HOa := Lib.hid (okArg oka)
  have HOb := Lib.hid (okArg okb)
  have HLb : Hid (b.args.length ≤ 140737488355328 ∧ b.names.length ≤ 140737488355328) := Lib.hid (by obtain ⟨k, ns, ts⟩ := b; exact ⟨okb.parts.2.2.2.1, okb.parts.2.1⟩)
  obtain ⟨R, hR⟩ : ∃ R, subB (r + 1) a b = R := ⟨_, rfl⟩
  rw [hR] at HR ⊢
  clear hR
  have e1 : (b.kind == 0) = false := by simp; omega
  have e8 : (a.kind == 8) = true := by simpa using ak
  have f8 : (b.kind == 8) = true := by simpa using bk
  have HF : Hid (R = ((b.names.drop 0).zip (b.args.drop 0)).all fun x => match look a x.1 with | none => false | some y => sameV y x.2) := Lib.hid (by rw [HR.out]; rfl)
  have hbl := HLb.out.2
  have hbi : (b.names.length : Int) ≤ 140737488355328 := by omega
  clear HR
  obtain ⟨an, cn, aa, ca, rfl, rfl⟩ := ha.shape
  obtain ⟨bn, dn, bb, db, rfl, rfl⟩ := hb.shape
  have HAf : Hid (∀ W, Below (w.heap.size + 1 + 1) ((w.alloc (.cells #[.int .i64 a.kind, .slice an a.names.length cn, .slice aa a.args.length ca] 25)).alloc (.cells #[.int .i64 b.kind, .slice bn b.names.length dn, .slice bb b.args.length db] 25)) W → (W.cell? ⟨w.heap.size, 0, none⟩ = some (.int .i64 a.kind) ∧ W.cell? ⟨w.heap.size, 1, none⟩ = some (.slice an a.names.length cn) ∧ W.cell? ⟨w.heap.size, 2, none⟩ = some (.slice aa a.args.length ca) ∧ W.cell? ⟨w.heap.size + 1, 0, none⟩ = some (.int .i64 b.kind) ∧ W.cell? ⟨w.heap.size + 1, 1, none⟩ = some (.slice bn b.names.length dn) ∧ W.cell? ⟨w.heap.size + 1, 2, none⟩ = some (.slice bb b.args.length db) ∧ w.heap.size < W.heap.size ∧ w.heap.size + 1 < W.heap.size) ∧ Below w.heap.size w W) := Lib.hid (fun W h => by
    have g0 := hh0.below h (by omega)
    have g1 := hh1.below h (by omega)
    exact ⟨⟨g0.cell 0, g0.cell 1, g0.cell 2, g1.cell 0, g1.cell 1, g1.cell 2, g0.lt, g1.lt⟩, hbw.trans (h.mono (by omega))⟩)
  have HB0 : Hid (Below (w.heap.size + 1 + 1) ((w.alloc (.cells #[.int .i64 a.kind, .slice an a.names.length cn, .slice aa a.args.length ca] 25)).alloc (.cells #[.int .i64 b.kind, .slice bn b.names.length dn, .slice bb b.args.length db] 25)) ((w.alloc (.cells #[.int .i64 a.kind, .slice an a.names.length cn, .slice aa a.args.length ca] 25)).alloc (.cells #[.int .i64 b.kind, .slice bn b.names.length dn, .slice bb b.args.length db] 25))) := Lib.hid (Below.refl _ _)
  have HW0 := Lib.hid (HAf.out _ HB0.out).2
  have HSz : Hid (((w.alloc (.cells #[.int .i64 a.kind, .slice an a.names.length cn, .slice aa a.args.length ca] 25)).alloc (.cells #[.int .i64 b.kind, .slice bn b.names.length dn, .slice bb b.args.length db] 25)).heap.size = w.heap.size + 1 + 1) := Lib.hid hsz
  have HFx : Hid (∀ W W', Below (w.heap.size + 1 + 1) ((w.alloc (.cells #[.int .i64 a.kind, .slice an a.names.length cn, .slice aa a.args.length ca] 25)).alloc (.cells #[.int .i64 b.kind, .slice bn b.names.length dn, .slice bb b.args.length db] 25)) W → Below W.heap.size W W' → Below (w.heap.size + 1 + 1) ((w.alloc (.cells #[.int .i64 a.kind, .slice an a.names.length cn, .slice aa a.args.length ca] 25)).alloc (.cells #[.int .i64 b.kind, .slice bn b.names.length dn, .slice bb b.args.length db] 25)) W') := Lib.hid (fun W W' h1 h2 => h1.trans (h2.mono (by have := h1.size; rw [HSz.out] at this; exact this)))
  clear ha hb oka okb hva hvb hh0 hh1 hbw hsz ak bk
  go_enter Tryd.func34, Tryd.ntmps34
  go_wp2_with fail
  refine (HK5.out _ HW0.out).mono ?_
  rintro e w1 ⟨rfl, hb⟩
  have HB1 := Lib.hid (HFx.out _ _ HB0.out hb)
  obtain ⟨⟨x0, x1, x2, y0, y1, y2, lA, lB⟩, hw⟩ := HAf.out _ HB1.out
  have HW1 := Lib.hid hw
  clear hb hw
  go_wp2_with fail
  refine (HFa.out _ HW1.out).mono ?_
  rintro e w2 ⟨rfl, hb⟩
  have HB2 := Lib.hid (HFx.out _ _ HB1.out hb)
  clear x0 x1 x2 y0 y1 y2 lA lB
  obtain ⟨⟨x0, x1, x2, y0, y1, y2, lA, lB⟩, hw⟩ := HAf.out _ HB2.out
  have HW2 := Lib.hid hw
  clear hb hw
  go_wp2_with fail
  refine (HFb.out _ HW2.out).mono ?_
  rintro e w3 ⟨rfl, hb⟩
  have HB3 := Lib.hid (HFx.out _ _ HB2.out hb)
  clear x0 x1 x2 y0 y1 y2 lA lB
  obtain ⟨⟨x0, x1, x2, y0, y1, y2, lA, lB⟩, hw⟩ := HAf.out _ HB3.out
  have HW3 := Lib.hid hw
  clear hb hw
  go_wp2
  clear x0 x1 x2 y0 y1 y2 lA lB
  go_loopw [61] (fun i wr => ∃ j : Nat, i = .int .i64 (j : Int) ∧ j ≤ b.names.length ∧ Hid (Below (w.heap.size + 1 + 1) (((w.alloc (.cells #[.int .i64 a.kind, .slice an a.names.length cn, .slice aa a.args.length ca] 25)).alloc (.cells #[.int .i64 b.kind, .slice bn b.names.length dn, .slice bb b.args.length db] 25))) wr) ∧ Hid (R = ((b.names.drop j).zip (b.args.drop j)).all fun x => match look a x.1 with | none => false | some y => sameV y x.2)) (fun i _ => b.names.length - (intOf i).toNat)
  case atStart => exact ⟨0, rfl, by omega, HB3, HF⟩
  case round =>
    obtain ⟨j, rfl, hj, HB, HD⟩ := hrel
    obtain ⟨⟨x0, x1, x2, y0, y1, y2, lA, lB⟩, hw⟩ := HAf.out _ HB.out
    have HWr := Lib.hid hw
    clear hw
    by_cases hlt : j < b.names.length
    · have hi1 : (j : Int) < (b.names.length : Int) := by omega
      have hjt : j < b.args.length := by have := HLn.out; omega
      have hji : (j : Int) < (b.args.length : Int) := by omega
      have HD2 := Lib.hid (drop_all (f := fun x => match look a x.1 with | none => false | some y => sameV y x.2) hlt hjt)
      obtain ⟨bs, os, rfl, hbs, c0⟩ := (HNb.out _ HWr.out).at j hlt
      have HFx4 := Lib.hid (HFd2.out b.names[j] wr HWr.out)
      have HMm : Hid (∀ x, look a b.names[j] = some x → TyOk x) := Lib.hid (fun x h => HOa.out x (zip_mem2 (look_mem h)).2)
      obtain ⟨lk, hlk⟩ : ∃ lk, look a b.names[j] = lk := ⟨_, rfl⟩
      rw [hlk] at HFx4 HMm
      have HLk := Lib.hid hlk
      have HDj : Hid (R = (lkB lk b.args[j] && ((b.names.drop (j + 1)).zip (b.args.drop (j + 1))).all fun x => match look a x.1 with | none => false | some y => sameV y x.2)) := Lib.hid (by rw [HD.out, HD2.out, ← hlk]; rfl)
      clear hlk HD HD2 HLk
      generalize b.names[j] = s at c0 HFx4
      go_wp2_with fail
      refine (HFx4.out).mono ?_
      intro e w4 hfi
      cases hfi with
      | yes x vn4 va4 _ hx hb4 =>
        obtain ⟨xn, xc, xa, xd, rfl, rfl⟩ := hx.shape
        have HB4 := Lib.hid (HFx.out _ _ HB.out hb4)
        have hb5 : Below w4.heap.size w4 (w4.alloc (.cells #[.int .i64 x.kind, .slice xn x.names.length xc, .slice xa x.args.length xd] 25)) := (Below.refl _ w4).alloc (Nat.le_refl _) _
        have HB5 := Lib.hid (HFx.out _ _ HB4.out hb5)
        have h8 := (Has.new w4 25 [.int .i64 x.kind, .slice xn x.names.length xc, .slice xa x.args.length xd])
        have hx5 := hx.frame (Nat.le_refl _) hb5
        clear hx hb4 x0 x1 x2 y0 y1 y2 lA lB c0 HFx4
        obtain ⟨⟨x0, x1, x2, y0, y1, y2, lA, lB⟩, hw5⟩ := HAf.out _ HB5.out
        have HW5 := Lib.hid hw5
        have HOx := Lib.hid (HMm.out x rfl)
        obtain ⟨b4, o4, un4, ub4, rfl, hbb, d0, d1, d2, d3⟩ := HAb.out.at_base hw5 j hjt
        have HSa := Lib.hid (refSame_any x b.args[j] _ _ _ _ (w4.alloc (.cells #[.int .i64 x.kind, .slice xn x.names.length xc, .slice xa x.args.length xd] 25)).drew HOx.out (HOb.out _ (List.getElem_mem hjt)) (hx5.frame (Nat.le_refl _) (Below.refl _ _).drew) (d3.frame (Nat.le_refl _) hw5.drew))
        obtain ⟨bn2, dn2, bb2, db2, rfl, rfl⟩ := d3.shape
        generalize b.args[j] = y at HDj d0 d1 d2 d3 HSa
        obtain ⟨z, hz⟩ : ∃ z, sameV x y = z := ⟨_, rfl⟩
        have HD3 : Hid (R = (z && ((b.names.drop (j + 1)).zip (b.args.drop (j + 1))).all fun x => match look a x.1 with | none => false | some y => sameV y x.2)) := Lib.hid (by rw [HDj.out, ← hz]; rfl)
        rw [hz] at HSa
        have H8 := Lib.hid h8
        clear d3 hz HDj hx5 hw5 h8 hb5
        go_wp2
        change Code.wp _ _ _ _ (World.alloc w4 _)
        generalize World.alloc w4 (.cells #[.int .i64 x.kind, .slice xn x.names.length xc, .slice xa x.args.length xd] 25) = w5 at *
        generalize w4.heap.size = B4 at *
        have g0 := H8.out.cell 0
        have g1 := H8.out.cell 1
        have g2 := H8.out.cell 2
        have gl := H8.out.lt
        simp at g0 g1 g2
        go_still_tail 9, (by kernel_rfl)
        change wpList _ _ _ _ _ w5.drew
        go_wp2_with fail
        refine (HSa.out).mono ?_
        rintro e w6 ⟨rfl, hb6⟩
        have HB6 := Lib.hid (HFx.out _ _ HB5.out ((Below.refl _ _).drew.trans hb6))
        have HB6r := Lib.hid (HAf.out _ HB6.out).2
        clear hb6
        cases z
        · have HF3 : Hid (R = false) := Lib.hid (by rw [HD3.out]; rfl)
          obtain rfl := HF3.out
          clear HD3 HF
          go_wp2
          go_ret
          exact ⟨rfl, HB6r.out⟩
        · have HD4 : Hid (R = ((b.names.drop (j + 1)).zip (b.args.drop (j + 1))).all fun x => match look a x.1 with | none => false | some y => sameV y x.2) := Lib.hid (by rw [HD3.out]; rfl)
          clear HD3
          go_wp2
          go_roundw
          case rel => exact ⟨j + 1, by go_num, by omega, HB6, HD4⟩
          case measure => simp [intOf]; omega
      | no _ hb4 =>
        have HB4 := Lib.hid (HFx.out _ _ HB.out hb4)
        have hb5 : Below w4.heap.size w4 (w4.alloc (.cells #[.int .i64 0, .slice none 0 0, .slice none 0 0] 25)) := (Below.refl _ w4).alloc (Nat.le_refl _) _
        have HB5 := Lib.hid (HFx.out _ _ HB4.out hb5)
        have HW5 := Lib.hid (HAf.out _ HB5.out).2
        have HF2 : Hid (R = false) := Lib.hid (by rw [HDj.out]; rfl)
        obtain rfl := HF2.out
        clear HDj HF hb5
        go_wp2
        go_quiet (fail)
        go_wp2
        go_ret
        exact ⟨rfl, drewN_below HW5.out _⟩
    · have hjm : b.names.length = j := by omega
      have HF2 : Hid (R = true) := Lib.hid (by rw [HD.out, List.drop_eq_nil_of_le (by omega)]; rfl)
      obtain rfl := HF2.out
      have hi1 : ¬ (j : Int) < (b.names.length : Int) := by omega
      clear HD HF
      go_wp2
      go_ret
      exact ⟨rfl, HWr.out⟩
end TyD
end Go.Proofs.YthcdbmbimdkcfaaDoor

namespace Go.Proofs.YthcdbmbimdkcfaaDoor
open Go.RowKit ObjM
namespace TyD
open LexD (nameB WTab)

set_option maxRecDepth 100000 in
set_option maxHeartbeats 32000000 in
theorem rsub99 (r : Nat) (a b : Ty) (vn va un ua : Value) (w : World) (ak : a.kind = 9) (bk : b.kind = 9) (hlen : a.args.length = b.args.length) (hva : Ok (r + 1) a) (hvb : Ok (r + 1) b) (oka : TyOk a) (okb : TyOk b) (ha : TyAt w vn va a) (hb : TyAt w un ua b)
    (ih : ∀ (a b : Ty) (vn va un ua : Value) (w : World), Ok r a → Ok r b → TyOk a → TyOk b → TyAt w vn va a → TyAt w un ua b →
      Calls Tryd.prog 34 #[.agg #[.int .i64 a.kind, vn, va], .agg #[.int .i64 b.kind, un, ua]] w (BoolB w (subB r a b))) :
    Calls Tryd.prog 34 #[.agg #[.int .i64 a.kind, vn, va], .agg #[.int .i64 b.kind, un, ua]] w (BoolB w (subB (r + 1) a b)) := by
  obtain ⟨hh0, hh1, hbw, hsz⟩ := box2 w [.int .i64 a.kind, vn, va] [.int .i64 b.kind, un, ua] 25 _ rfl
  have HTa := Lib.hid (fun (W : World) (h : Below w.heap.size w W) => ha.frame (Nat.le_refl _) h)
  have HTb := Lib.hid (fun (W : World) (h : Below w.heap.size w W) => hb.frame (Nat.le_refl _) h)
  have HK5 := Lib.hid (fun (W : World) (h : Below w.heap.size w W) => refKinds_any (.mk 5 [] []) (.slice none 0 0) (.slice none 0 0) W tab_ok (TyAt.of (StrsAt.nil W) (TysAt.nil W)))
  rw [show kindsC (.mk 5 [] []) = 16 by decide +kernel] at HK5
  have HFa := Lib.hid (fun (W : World) (h : Below w.heap.size w W) => rflat10_any a vn va W (HTa.out _ h))
  have HFb := Lib.hid (fun (W : World) (h : Below w.heap.size w W) => rflat10_any b un ua W (HTb.out _ h))
  rw [show flatB a.kind = false by rw [ak]; decide] at HFa
  rw [show flatB b.kind = false by rw [bk]; decide] at HFb
  have HR : Hid (subB (r + 1) a b = arrowB (subB r) a.args b.args) := Lib.hid (by show (if b.kind = 0 then true else if a.kind = 0 then false else if a.kind = 8 ∧ b.kind = 8 then fieldsB sameV a b else if a.kind = 9 ∧ b.kind = 9 then arrowB (subB r) a.args b.args else _) = _; rw [if_neg (by omega), if_neg (by omega), if_neg (by omega), if_pos ⟨ak, bk⟩])
  have HAa := Lib.hid (show TysAt w va a.args by obtain ⟨k, ns, ts⟩ := a; exact ha.parts.2)
  have HAb := Lib.hid (show TysAt w ua b.args by obtain ⟨k, ns, ts⟩ := b; exact hb.parts.2)
  have HIH : Hid (∀ (x y : Ty) (vn va un ua : Value) (W : World), (x ∈ a.args ∧ y ∈ b.args ∨ x ∈ b.args ∧ y ∈ a.args) → TyAt W vn va x → TyAt W un ua y → Calls Tryd.prog 34 #[.agg #[.int .i64 x.kind, vn, va], .agg #[.int .i64 y.kind, un, ua]] W (BoolB W (subB r x y))) := Lib.hid (fun x y vn va un ua W h h1 h2 => by
    rcases h with ⟨hx, hy⟩ | ⟨hx, hy⟩
    · exact ih x y vn va un ua W (hva.pred x hx) (hvb.pred y hy) (okArg oka x hx) (okArg okb y hy) h1 h2
    · exact ih x y vn va un ua W (hvb.pred x hx) (hva.pred y hy) (okArg okb x hx) (okArg oka y hy) h1 h2)
  obtain ⟨m, hm⟩ : ∃ m, a.args.length = m + 1 := ⟨a.args.length - 1, by have := (hva.func ak).2; omega⟩
  have hm' := hlen.symm.trans hm
  have HLm := Lib.hid hm
  have HLm' := Lib.hid hm'
  have HLa : Hid (a.args.length ≤ 140737488355328) := Lib.hid (by obtain ⟨k, ns, ts⟩ := a; exact oka.parts.2.2.2.1)
  have hmi : (m : Int) ≤ 140737488355328 := by have := HLa.out; omega
  have HF : Hid (subB (r + 1) a b = (((a.args.dropLast.drop 0).zip (b.args.dropLast.drop 0)).all (fun x => subB r x.2 x.1) && subB r (a.args.getLastD anyT) (b.args.getLastD anyT))) := Lib.hid (by rw [HR.out]; unfold arrowB; rw [decide_eq_true hlen]; rfl)
  obtain ⟨R, hR⟩ : ∃ R, subB (r + 1) a b = R := ⟨_, rfl⟩
  rw [hR] at HF ⊢
  clear hR HR
  have e1 : (b.kind == 0) = false := by simp; omega
  have e8 : (a.kind == 8) = false := by simp; omega
  have e9 : (a.kind == 9) = true := by simpa using ak
  have f9 : (b.kind == 9) = true := by simpa using bk
  obtain ⟨an, cn, aa, ca, rfl, rfl⟩ := ha.shape
  obtain ⟨bn, dn, bb, db, rfl, rfl⟩ := hb.shape
  have HAf : Hid (∀ W, Below (w.heap.size + 1 + 1) ((w.alloc (.cells #[.int .i64 a.kind, .slice an a.names.length cn, .slice aa a.args.length ca] 25)).alloc (.cells #[.int .i64 b.kind, .slice bn b.names.length dn, .slice bb b.args.length db] 25)) W → (W.cell? ⟨w.heap.size, 0, none⟩ = some (.int .i64 a.kind) ∧ W.cell? ⟨w.heap.size, 1, none⟩ = some (.slice an a.names.length cn) ∧ W.cell? ⟨w.heap.size, 2, none⟩ = some (.slice aa a.args.length ca) ∧ W.cell? ⟨w.heap.size + 1, 0, none⟩ = some (.int .i64 b.kind) ∧ W.cell? ⟨w.heap.size + 1, 1, none⟩ = some (.slice bn b.names.length dn) ∧ W.cell? ⟨w.heap.size + 1, 2, none⟩ = some (.slice bb b.args.length db) ∧ w.heap.size < W.heap.size ∧ w.heap.size + 1 < W.heap.size) ∧ Below w.heap.size w W) := Lib.hid (fun W h => by
    have g0 := hh0.below h (by omega)
    have g1 := hh1.below h (by omega)
    exact ⟨⟨g0.cell 0, g0.cell 1, g0.cell 2, g1.cell 0, g1.cell 1, g1.cell 2, g0.lt, g1.lt⟩, hbw.trans (h.mono (by omega))⟩)
  have HB0 : Hid (Below (w.heap.size + 1 + 1) ((w.alloc (.cells #[.int .i64 a.kind, .slice an a.names.length cn, .slice aa a.args.length ca] 25)).alloc (.cells #[.int .i64 b.kind, .slice bn b.names.length dn, .slice bb b.args.length db] 25)) ((w.alloc (.cells #[.int .i64 a.kind, .slice an a.names.length cn, .slice aa a.args.length ca] 25)).alloc (.cells #[.int .i64 b.kind, .slice bn b.names.length dn, .slice bb b.args.length db] 25))) := Lib.hid (Below.refl _ _)
  have HW0 := Lib.hid (HAf.out _ HB0.out).2
  have HSz : Hid (((w.alloc (.cells #[.int .i64 a.kind, .slice an a.names.length cn, .slice aa a.args.length ca] 25)).alloc (.cells #[.int .i64 b.kind, .slice bn b.names.length dn, .slice bb b.args.length db] 25)).heap.size = w.heap.size + 1 + 1) := Lib.hid hsz
  have HFx : Hid (∀ W W', Below (w.heap.size + 1 + 1) ((w.alloc (.cells #[.int .i64 a.kind, .slice an a.names.length cn, .slice aa a.args.length ca] 25)).alloc (.cells #[.int .i64 b.kind, .slice bn b.names.length dn, .slice bb b.args.length db] 25)) W → Below W.heap.size W W' → Below (w.heap.size + 1 + 1) ((w.alloc (.cells #[.int .i64 a.kind, .slice an a.names.length cn, .slice aa a.args.length ca] 25)).alloc (.cells #[.int .i64 b.kind, .slice bn b.names.length dn, .slice bb b.args.length db] 25)) W') := Lib.hid (fun W W' h1 h2 => h1.trans (h2.mono (by have := h1.size; rw [HSz.out] at this; exact this)))
  rw [hm] at HAf HB0 HW0 HSz HFx ⊢
  rw [hm'] at HAf HB0 HW0 HSz HFx ⊢
  have hne : (((m + 1 : Nat) : Int) == ((m + 1 : Nat) : Int)) = true := by simp
  have hsub : ((m + 1 : Nat) : Int) - 1 = (m : Int) := by omega
  rw [hm] at HTa HAa HFa
  rw [hm'] at HTb HAb
  clear ha hb oka okb hva hvb hh0 hh1 hbw hsz ak bk ih hlen hm hm'
  go_enter Tryd.func34, Tryd.ntmps34
  go_wp2_with fail
  refine (HK5.out _ HW0.out).mono ?_
  rintro e w1 ⟨rfl, hb⟩
  have HB1 := Lib.hid (HFx.out _ _ HB0.out hb)
  obtain ⟨⟨x0, x1, x2, y0, y1, y2, lA, lB⟩, hw⟩ := HAf.out _ HB1.out
  have HW1 := Lib.hid hw
  clear hb hw
  go_wp2_with fail
  refine (HFa.out _ HW1.out).mono ?_
  rintro e w2 ⟨rfl, hb⟩
  have HB2 := Lib.hid (HFx.out _ _ HB1.out hb)
  clear x0 x1 x2 y0 y1 y2 lA lB
  obtain ⟨⟨x0, x1, x2, y0, y1, y2, lA, lB⟩, hw⟩ := HAf.out _ HB2.out
  have HW2 := Lib.hid hw
  clear hb hw
  go_wp2
  clear x0 x1 x2 y0 y1 y2 lA lB
  go_loopw [11] (fun i wr => ∃ j : Nat, i = .int .i64 (j : Int) ∧ j ≤ m ∧ Hid (Below (w.heap.size + 1 + 1) (((w.alloc (.cells #[.int .i64 a.kind, .slice an a.names.length cn, .slice aa (m + 1) ca] 25)).alloc (.cells #[.int .i64 b.kind, .slice bn b.names.length dn, .slice bb (m + 1) db] 25))) wr) ∧ Hid (R = (((a.args.dropLast.drop j).zip (b.args.dropLast.drop j)).all (fun x => subB r x.2 x.1) && subB r (a.args.getLastD anyT) (b.args.getLastD anyT)))) (fun i _ => m - (intOf i).toNat)
  case atStart => exact ⟨0, rfl, by omega, HB2, HF⟩
  case round =>
    obtain ⟨j, rfl, hj, HB, HD⟩ := hrel
    obtain ⟨⟨x0, x1, x2, y0, y1, y2, lA, lB⟩, hbr⟩ := HAf.out _ HB.out
    have HBr := Lib.hid hbr
    clear hbr x0 x1 y0 y1
    have hdw : Below wr.heap.size wr wr.drew := (Below.refl _ _).drew
    by_cases hlt : j < m
    · have hi1 : (j : Int) < (m : Int) := by omega
      have hi2 : (j : Int) < ((m + 1 : Nat) : Int) := by omega
      have hi3 : (j : Int) < (m : Int) + 1 := by omega
      have hjt : j < a.args.length := by rw [HLm.out]; omega
      have hjt' : j < b.args.length := by rw [HLm'.out]; omega
      have HD2 := Lib.hid (arrowDrop (p := subB r) (ts := a.args) (us := b.args) (j := j) (by rw [HLm.out]; omega) (by rw [HLm'.out]; omega))
      obtain ⟨ba, oa, vn, va, rfl, hba, c0, c1, c2, c3⟩ := HAa.out.at_base HBr.out j hjt
      obtain ⟨bb, ob, un, ub, rfl, hbb, d0, d1, d2, d3⟩ := HAb.out.at_base HBr.out j hjt'
      have HC := Lib.hid (HIH.out b.args[j] a.args[j] un ub vn va wr.drew (.inr ⟨List.getElem_mem hjt', List.getElem_mem hjt⟩) (d3.frame (Nat.le_refl _) HBr.out.drew) (c3.frame (Nat.le_refl _) HBr.out.drew))
      obtain ⟨an2, cn2, ab2, cb2, rfl, rfl⟩ := c3.shape
      obtain ⟨bn2, dn2, bb2, db2, rfl, rfl⟩ := d3.shape
      generalize a.args[j] = x at HD2 c0 c1 c2 c3 HC
      generalize b.args[j] = y at HD2 d0 d1 d2 d3 HC
      obtain ⟨z, hz⟩ : ∃ z, subB r y x = z := ⟨_, rfl⟩
      rw [hz] at HC HD2
      clear c3 d3 hjt hjt' hz hdw
      go_wp2
      go_still_tail 10, (by kernel_rfl)
      change wpList _ _ _ _ _ wr.drew
      go_wp2_with fail
      refine (HC.out).mono ?_
      rintro e w4 ⟨rfl, hb4⟩
      have HB4 := Lib.hid (HFx.out _ _ HB.out ((Below.refl wr.heap.size wr).drew.trans hb4))
      have HB4r := Lib.hid (HAf.out _ HB4.out).2
      clear hb4
      cases z
      · have HF3 : Hid (R = false) := Lib.hid (by rw [HD.out, HD2.out]; rfl)
        obtain rfl := HF3.out
        clear HD HD2 HF
        go_wp2
        go_ret
        exact ⟨rfl, HB4r.out⟩
      · have HD4 : Hid (R = (((a.args.dropLast.drop (j + 1)).zip (b.args.dropLast.drop (j + 1))).all (fun x => subB r x.2 x.1) && subB r (a.args.getLastD anyT) (b.args.getLastD anyT))) := Lib.hid (by rw [HD.out, HD2.out]; rfl)
        clear HD HD2
        go_wp2
        go_roundw
        case rel => exact ⟨j + 1, by go_num, by omega, HB4, HD4⟩
        case measure => simp [intOf]; omega
    · have hjm : m = j := by omega
      subst hjm
      have hjt : m < a.args.length := by rw [HLm.out]; omega
      have hjt' : m < b.args.length := by rw [HLm'.out]; omega
      have hi3 : (m : Int) < (m : Int) + 1 := by omega
      have HF3 : Hid (R = subB r a.args[m] b.args[m]) := Lib.hid (by
        rw [HD.out, List.drop_eq_nil_of_le (by simp [HLm.out]), List.drop_eq_nil_of_le (by simp [HLm'.out]), last_at HLm.out, last_at HLm'.out]
        rfl)
      obtain ⟨ba, oa, vn, va, rfl, hba, c0, c1, c2, c3⟩ := HAa.out.at_base HBr.out m hjt
      obtain ⟨bb, ob, un, ub, rfl, hbb, d0, d1, d2, d3⟩ := HAb.out.at_base HBr.out m hjt'
      have HC := Lib.hid (HIH.out a.args[m] b.args[m] vn va un ub wr.drew (.inl ⟨List.getElem_mem hjt, List.getElem_mem hjt'⟩) (c3.frame (Nat.le_refl _) HBr.out.drew) (d3.frame (Nat.le_refl _) HBr.out.drew))
      obtain ⟨an2, cn2, ab2, cb2, rfl, rfl⟩ := c3.shape
      obtain ⟨bn2, dn2, bb2, db2, rfl, rfl⟩ := d3.shape
      generalize a.args[m] = x at HF3 c0 c1 c2 c3 HC
      generalize b.args[m] = y at HF3 d0 d1 d2 d3 HC
      obtain ⟨z, hz⟩ : ∃ z, subB r x y = z := ⟨_, rfl⟩
      rw [hz] at HC HF3
      obtain rfl := HF3.out
      clear c3 d3 hjt hjt' hz hdw HD HF
      go_wp2
      go_still_tail 10, (by kernel_rfl)
      change wpList _ _ _ _ _ wr.drew
      go_wp2_with fail
      refine (HC.out).mono ?_
      rintro e w4 ⟨rfl, hb4⟩
      have HB4 := Lib.hid (HBr.out.drew.trans (hb4.mono HBr.out.drew.size))
      clear hb4
      go_wp2
      go_ret
      exact ⟨rfl, HB4.out⟩
end TyD
end Go.Proofs.YthcdbmbimdkcfaaDoor

namespace Go.Proofs.YthcdbmbimdkcfaaDoor
open Go.RowKit ObjM
namespace TyD
open LexD (nameB WTab)

set_option maxRecDepth 100000 in
set_option maxHeartbeats 32000000 in
theorem refSub_any : ∀ (r : Nat) (a b : Ty) (vn va un ua : Value) (w : World), Ok r a → Ok r b → TyOk a → TyOk b → TyAt w vn va a → TyAt w un ua b →
    Calls Tryd.prog 34 #[.agg #[.int .i64 a.kind, vn, va], .agg #[.int .i64 b.kind, un, ua]] w (BoolB w (subB r a b)) := by
  intro r
  induction r with
  | zero =>
    intro a b vn va un ua w hv
    cases hv.valid
  | succ r ih =>
    intro a b vn va un ua w hva hvb oka okb ha hb
    have ka := hva.kind
    have kb := hvb.kind
    have H88 := Lib.hid (fun (h8 : a.kind = 8 ∧ b.kind = 8) => rsub88 r a b vn va un ua w h8.1 h8.2 hva hvb oka okb ha hb)
    have H99 := Lib.hid (fun (h9 : a.kind = 9 ∧ b.kind = 9) (hl : a.args.length = b.args.length) => rsub99 r a b vn va un ua w h9.1 h9.2 hl hva hvb oka okb ha hb ih)
    obtain ⟨R, hR⟩ : ∃ R, subB (r + 1) a b = R := ⟨_, rfl⟩
    have HRZ := Lib.hid hR
    rw [hR] at H88 H99 ⊢
    clear hR
    obtain ⟨hh0, hh1, hbw, hsz⟩ := box2 w [.int .i64 a.kind, vn, va] [.int .i64 b.kind, un, ua] 25 _ rfl
    have HTa := Lib.hid (fun (W : World) (h : Below w.heap.size w W) => ha.frame (Nat.le_refl _) h)
    have HTb := Lib.hid (fun (W : World) (h : Below w.heap.size w W) => hb.frame (Nat.le_refl _) h)
    have HK5 := Lib.hid (fun (W : World) (h : Below w.heap.size w W) => refKinds_any (.mk 5 [] []) (.slice none 0 0) (.slice none 0 0) W tab_ok (TyAt.of (StrsAt.nil W) (TysAt.nil W)))
    rw [show kindsC (.mk 5 [] []) = 16 by decide +kernel] at HK5
    have HFa := Lib.hid (fun (W : World) (h : Below w.heap.size w W) => rflat10_any a vn va W (HTa.out _ h))
    have HFb := Lib.hid (fun (W : World) (h : Below w.heap.size w W) => rflat10_any b un ua W (HTb.out _ h))
    have HKa := Lib.hid (fun (W : World) (h : Below w.heap.size w W) => refKinds_any a vn va W oka (HTa.out _ h))
    have HKb := Lib.hid (fun (W : World) (h : Below w.heap.size w W) => refKinds_any b un ua W okb (HTb.out _ h))
    have HMk : Hid ((bits BinOp.andNot IntKind.i64 (kindsC a : Int) (kindsC b : Int) == 0) = maskB (kindsV a) (kindsV b)) := Lib.hid (by
      rw [mask_bits (kindsC_lt a) (kindsC_lt b)]
      unfold kindsC
      rw [if_pos hva.check, if_pos hvb.check])
    have HM7 : Hid ((bits BinOp.and IntKind.i64 (kindsC b : Int) 16 != 0) = maskB 16 (kindsV b)) := Lib.hid (by
      have e : kindsC b = kindsV b := by unfold kindsC; rw [if_pos hvb.check]
      exact (andr_fin ⟨kindsC b, kindsC_lt b⟩).trans (by show maskB 16 (kindsC b) = _; rw [e]))
    have HK16 : Hid (a.kind = 8 → kindsV a = 16) := Lib.hid kinds_shape
    have HR : Hid (subB (r + 1) a b = if b.kind = 0 then true else if a.kind = 0 then false else if a.kind = 8 ∧ b.kind = 8 then fieldsB sameV a b else if a.kind = 9 ∧ b.kind = 9 then arrowB (subB r) a.args b.args
      else if a.kind ≤ 8 then decide (b.kind ≤ 7) && maskB (kindsV a) (kindsV b) else false) := Lib.hid rfl
    have HNb := Lib.hid (fun (W : World) (h : Below w.heap.size w W) => (show StrsAt W un b.names by obtain ⟨k, ns, ts⟩ := b; exact (hb.frame (Nat.le_refl _) h).parts.1))
    have HAa := Lib.hid (show TysAt w va a.args by obtain ⟨k, ns, ts⟩ := a; exact ha.parts.2)
    have HAb := Lib.hid (show TysAt w ua b.args by obtain ⟨k, ns, ts⟩ := b; exact hb.parts.2)
    have HFd := Lib.hid (fun (h8 : a.kind = 8) (s : ByteArray) (W : World) (h : Below w.heap.size w W) => field_any a s vn va W oka (HTa.out _ h) (hva.shape h8).1)
    have HSh := Lib.hid (fun (h8 : b.kind = 8) => (hvb.shape h8).1)
    have HFu := Lib.hid (fun (h9 : a.kind = 9) => (hva.func h9).2)
    have HOa := Lib.hid (okArg oka)
    have HOb := Lib.hid (okArg okb)
    have HPa := Lib.hid hva.pred
    have HPb := Lib.hid hvb.pred
    have HIH := Lib.hid ih
    have HLa : Hid (a.args.length ≤ 140737488355328) := Lib.hid (by obtain ⟨k, ns, ts⟩ := a; exact oka.parts.2.2.2.1)
    have HLb : Hid (b.args.length ≤ 140737488355328 ∧ b.names.length ≤ 140737488355328) := Lib.hid (by obtain ⟨k, ns, ts⟩ := b; exact ⟨okb.parts.2.2.2.1, okb.parts.2.1⟩)
    rw [HRZ.out] at HR
    obtain ⟨fa, hfa⟩ : ∃ fa, flatB a.kind = fa := ⟨_, rfl⟩
    obtain ⟨fb, hfb⟩ : ∃ fb, flatB b.kind = fb := ⟨_, rfl⟩
    rw [hfa] at HFa
    rw [hfb] at HFb
    have hfa2 : fa = true ↔ a.kind ≤ 7 := by rw [← hfa]; unfold flatB; simp; omega
    have hfb2 : fb = true ↔ b.kind ≤ 7 := by rw [← hfb]; unfold flatB; simp; omega
    clear hfa hfb
    obtain ⟨an, cn, aa, ca, rfl, rfl⟩ := ha.shape
    obtain ⟨bn, dn, bb, db, rfl, rfl⟩ := hb.shape
    have HAf : Hid (∀ W, Below (w.heap.size + 1 + 1) ((w.alloc (.cells #[.int .i64 a.kind, .slice an a.names.length cn, .slice aa a.args.length ca] 25)).alloc (.cells #[.int .i64 b.kind, .slice bn b.names.length dn, .slice bb b.args.length db] 25)) W → (W.cell? ⟨w.heap.size, 0, none⟩ = some (.int .i64 a.kind) ∧ W.cell? ⟨w.heap.size, 1, none⟩ = some (.slice an a.names.length cn) ∧ W.cell? ⟨w.heap.size, 2, none⟩ = some (.slice aa a.args.length ca) ∧ W.cell? ⟨w.heap.size + 1, 0, none⟩ = some (.int .i64 b.kind) ∧ W.cell? ⟨w.heap.size + 1, 1, none⟩ = some (.slice bn b.names.length dn) ∧ W.cell? ⟨w.heap.size + 1, 2, none⟩ = some (.slice bb b.args.length db) ∧ w.heap.size < W.heap.size ∧ w.heap.size + 1 < W.heap.size) ∧ Below w.heap.size w W) := Lib.hid (fun W h => by
      have g0 := hh0.below h (by omega)
      have g1 := hh1.below h (by omega)
      exact ⟨⟨g0.cell 0, g0.cell 1, g0.cell 2, g1.cell 0, g1.cell 1, g1.cell 2, g0.lt, g1.lt⟩, hbw.trans (h.mono (by omega))⟩)
    have HB0 : Hid (Below (w.heap.size + 1 + 1) ((w.alloc (.cells #[.int .i64 a.kind, .slice an a.names.length cn, .slice aa a.args.length ca] 25)).alloc (.cells #[.int .i64 b.kind, .slice bn b.names.length dn, .slice bb b.args.length db] 25)) ((w.alloc (.cells #[.int .i64 a.kind, .slice an a.names.length cn, .slice aa a.args.length ca] 25)).alloc (.cells #[.int .i64 b.kind, .slice bn b.names.length dn, .slice bb b.args.length db] 25))) := Lib.hid (Below.refl _ _)
    have HW0 := Lib.hid (HAf.out _ HB0.out).2
    have HSz : Hid (((w.alloc (.cells #[.int .i64 a.kind, .slice an a.names.length cn, .slice aa a.args.length ca] 25)).alloc (.cells #[.int .i64 b.kind, .slice bn b.names.length dn, .slice bb b.args.length db] 25)).heap.size = w.heap.size + 1 + 1) := Lib.hid hsz
    have HFx : Hid (∀ W W', Below (w.heap.size + 1 + 1) ((w.alloc (.cells #[.int .i64 a.kind, .slice an a.names.length cn, .slice aa a.args.length ca] 25)).alloc (.cells #[.int .i64 b.kind, .slice bn b.names.length dn, .slice bb b.args.length db] 25)) W → Below W.heap.size W W' → Below (w.heap.size + 1 + 1) ((w.alloc (.cells #[.int .i64 a.kind, .slice an a.names.length cn, .slice aa a.args.length ca] 25)).alloc (.cells #[.int .i64 b.kind, .slice bn b.names.length dn, .slice bb b.args.length db] 25)) W') := Lib.hid (fun W W' h1 h2 => h1.trans (h2.mono (by have := h1.size; rw [HSz.out] at this; exact this)))
    clear ha hb oka okb hva hvb ih hh0 hh1 hbw hsz HNb HAa HAb HFd HSh HFu HOa HOb HPa HPb HIH HLa HLb
    by_cases b0 : b.kind = 0
    · have e1 : (b.kind == 0) = true := by simpa using b0
      have HF : Hid (R = true) := Lib.hid (by rw [HR.out, if_pos b0])
      obtain rfl := HF.out
      clear HR
      clear b0 ka kb hfa2 hfb2
      go_enter Tryd.func34, Tryd.ntmps34
      go_wp2_with fail
      refine (HK5.out _ HW0.out).mono ?_
      rintro e w1 ⟨rfl, hb⟩
      have HB1 := Lib.hid (HFx.out _ _ HB0.out hb)
      obtain ⟨⟨x0, x1, x2, y0, y1, y2, lA, lB⟩, hw⟩ := HAf.out _ HB1.out
      have HW1 := Lib.hid hw
      clear hb hw
      go_wp2
      go_ret
      exact ⟨rfl, HW1.out⟩
    have e1 : (b.kind == 0) = false := by simpa using b0
    have HRb : Hid (R = if a.kind = 0 then false else if a.kind = 8 ∧ b.kind = 8 then fieldsB sameV a b else if a.kind = 9 ∧ b.kind = 9 then arrowB (subB r) a.args b.args
      else if a.kind ≤ 8 then decide (b.kind ≤ 7) && maskB (kindsV a) (kindsV b) else false) := Lib.hid (by rw [HR.out, if_neg b0])
    clear HR
    have HR := HRb
    clear HRb
    by_cases ta : a.kind ≤ 7
    · obtain rfl : fa = true := hfa2.2 ta
      by_cases tb : b.kind ≤ 7
      · obtain rfl : fb = true := hfb2.2 tb
        by_cases a0 : a.kind = 0
        · have e2 : (a.kind != 0) = false := by simpa using a0
          have HF : Hid (R = false) := Lib.hid (by rw [HR.out, if_pos a0])
          obtain rfl := HF.out
          clear HR
          clear a0 b0 ka kb hfa2 hfb2 ta tb
          go_enter Tryd.func34, Tryd.ntmps34
          go_wp2_with fail
          refine (HK5.out _ HW0.out).mono ?_
          rintro e w1 ⟨rfl, hb⟩
          have HB1 := Lib.hid (HFx.out _ _ HB0.out hb)
          obtain ⟨⟨x0, x1, x2, y0, y1, y2, lA, lB⟩, hw⟩ := HAf.out _ HB1.out
          have HW1 := Lib.hid hw
          clear hb hw
          go_wp2_with fail
          refine (HFa.out _ HW1.out).mono ?_
          rintro e w2 ⟨rfl, hb⟩
          have HB2 := Lib.hid (HFx.out _ _ HB1.out hb)
          clear x0 x1 x2 y0 y1 y2 lA lB
          obtain ⟨⟨x0, x1, x2, y0, y1, y2, lA, lB⟩, hw⟩ := HAf.out _ HB2.out
          have HW2 := Lib.hid hw
          clear hb hw
          go_wp2_with fail
          refine (HFb.out _ HW2.out).mono ?_
          rintro e w3 ⟨rfl, hb⟩
          have HB3 := Lib.hid (HFx.out _ _ HB2.out hb)
          clear x0 x1 x2 y0 y1 y2 lA lB
          obtain ⟨⟨x0, x1, x2, y0, y1, y2, lA, lB⟩, hw⟩ := HAf.out _ HB3.out
          have HW3 := Lib.hid hw
          clear hb hw
          go_wp2
          go_quiet (fail)
          go_wp2
          go_ret
          exact ⟨rfl, drewN_below HW3.out _⟩
        · have e2 : (a.kind != 0) = true := by simpa using a0
          have hmk := HMk.out
          have HF : Hid (R = maskB (kindsV a) (kindsV b)) := Lib.hid (by rw [HR.out, if_neg a0, if_neg (by omega), if_neg (by omega), if_pos (by omega), decide_eq_true tb]; rfl)
          obtain rfl := HF.out
          clear HR
          generalize maskB (kindsV a) (kindsV b) = rm at hmk ⊢
          generalize (kindsC a : Int) = xa at HKa hmk
          generalize (kindsC b : Int) = xb at HKb hmk
          clear a0 b0 ka kb hfa2 hfb2 ta tb HMk HM7
          go_enter Tryd.func34, Tryd.ntmps34
          go_wp2_with fail
          refine (HK5.out _ HW0.out).mono ?_
          rintro e w1 ⟨rfl, hb⟩
          have HB1 := Lib.hid (HFx.out _ _ HB0.out hb)
          obtain ⟨⟨x0, x1, x2, y0, y1, y2, lA, lB⟩, hw⟩ := HAf.out _ HB1.out
          have HW1 := Lib.hid hw
          clear hb hw
          go_wp2_with fail
          refine (HFa.out _ HW1.out).mono ?_
          rintro e w2 ⟨rfl, hb⟩
          have HB2 := Lib.hid (HFx.out _ _ HB1.out hb)
          clear x0 x1 x2 y0 y1 y2 lA lB
          obtain ⟨⟨x0, x1, x2, y0, y1, y2, lA, lB⟩, hw⟩ := HAf.out _ HB2.out
          have HW2 := Lib.hid hw
          clear hb hw
          go_wp2_with fail
          refine (HFb.out _ HW2.out).mono ?_
          rintro e w3 ⟨rfl, hb⟩
          have HB3 := Lib.hid (HFx.out _ _ HB2.out hb)
          clear x0 x1 x2 y0 y1 y2 lA lB
          obtain ⟨⟨x0, x1, x2, y0, y1, y2, lA, lB⟩, hw⟩ := HAf.out _ HB3.out
          have HW3 := Lib.hid hw
          clear hb hw
          have HW : Hid (∀ W, Below w3.heap.size w3 W → (fun W' => W'.cell? ⟨w.heap.size, 0, none⟩ = some (.int .i64 a.kind) ∧ W'.cell? ⟨w.heap.size, 1, none⟩ = some (.slice an a.names.length cn) ∧ W'.cell? ⟨w.heap.size, 2, none⟩ = some (.slice aa a.args.length ca) ∧ W'.cell? ⟨w.heap.size + 1, 0, none⟩ = some (.int .i64 b.kind) ∧ W'.cell? ⟨w.heap.size + 1, 1, none⟩ = some (.slice bn b.names.length dn) ∧ W'.cell? ⟨w.heap.size + 1, 2, none⟩ = some (.slice bb b.args.length db)) W ∧ Below w.heap.size w W) := Lib.hid (fun W h => by
            obtain ⟨⟨g0, g1, g2, g3, g4, g5, g6, g7⟩, g8⟩ := HAf.out W (HFx.out _ _ HB3.out h)
            exact ⟨⟨g0, g1, g2, g3, g4, g5⟩, g8⟩)
          go_wp2
          first | (go_region_held3 (fun W' => W'.cell? ⟨w.heap.size, 0, none⟩ = some (.int .i64 a.kind) ∧ W'.cell? ⟨w.heap.size, 1, none⟩ = some (.slice an a.names.length cn) ∧ W'.cell? ⟨w.heap.size, 2, none⟩ = some (.slice aa a.args.length ca) ∧ W'.cell? ⟨w.heap.size + 1, 0, none⟩ = some (.int .i64 b.kind) ∧ W'.cell? ⟨w.heap.size + 1, 1, none⟩ = some (.slice bn b.names.length dn) ∧ W'.cell? ⟨w.heap.size + 1, 2, none⟩ = some (.slice bb b.args.length db))
            (first | exact (HW.out _ (Below.refl _ _).drew).1 | exact (HW.out _ p2).1 | exact (HW.out _ p1).1 | skip)
            (first
              | (go_at_call 48
                 with_reducible refine (HKa.out _ (HW.out _ (Below.refl _ _).drew).2).mono ?_
                 rintro e w6 ⟨rfl, hb6⟩
                 have p1 := ((Below.refl w3.heap.size w3).drew).trans hb6)
              | (go_at_call 48
                 with_reducible refine (HKb.out _ (HW.out _ p1).2).mono ?_
                 rintro e w7 ⟨rfl, hb7⟩
                 have p2 := p1.trans (hb7.mono p1.size)))) | fail
          all_goals
            go_wp2
            go_ret
            exact ⟨rfl, (HW.out _ p2).2⟩
      · obtain rfl : fb = false := by cases fb with | false => rfl | true => exact absurd (hfb2.1 rfl) tb
        have e8 : (a.kind == 8) = false := by simp; omega
        have e9 : (a.kind == 9) = false := by simp; omega
        have HF : Hid (R = false) := Lib.hid (by rw [HR.out]; by_cases a0 : a.kind = 0; rw [if_pos a0]; rw [if_neg a0, if_neg (by omega), if_neg (by omega), if_pos (by omega), decide_eq_false tb]; rfl)
        obtain rfl := HF.out
        clear HR
        clear b0 ka kb hfa2 hfb2 ta tb
        go_enter Tryd.func34, Tryd.ntmps34
        go_wp2_with fail
        refine (HK5.out _ HW0.out).mono ?_
        rintro e w1 ⟨rfl, hb⟩
        have HB1 := Lib.hid (HFx.out _ _ HB0.out hb)
        obtain ⟨⟨x0, x1, x2, y0, y1, y2, lA, lB⟩, hw⟩ := HAf.out _ HB1.out
        have HW1 := Lib.hid hw
        clear hb hw
        go_wp2_with fail
        refine (HFa.out _ HW1.out).mono ?_
        rintro e w2 ⟨rfl, hb⟩
        have HB2 := Lib.hid (HFx.out _ _ HB1.out hb)
        clear x0 x1 x2 y0 y1 y2 lA lB
        obtain ⟨⟨x0, x1, x2, y0, y1, y2, lA, lB⟩, hw⟩ := HAf.out _ HB2.out
        have HW2 := Lib.hid hw
        clear hb hw
        go_wp2_with fail
        refine (HFb.out _ HW2.out).mono ?_
        rintro e w3 ⟨rfl, hb⟩
        have HB3 := Lib.hid (HFx.out _ _ HB2.out hb)
        clear x0 x1 x2 y0 y1 y2 lA lB
        obtain ⟨⟨x0, x1, x2, y0, y1, y2, lA, lB⟩, hw⟩ := HAf.out _ HB3.out
        have HW3 := Lib.hid hw
        clear hb hw
        go_wp2
        go_ret
        exact ⟨rfl, HW3.out⟩
    obtain rfl : fa = false := by cases fa with | false => rfl | true => exact absurd (hfa2.1 rfl) ta
    by_cases a8 : a.kind = 8
    · have e8 : (a.kind == 8) = true := by simpa using a8
      have e9 : (a.kind == 9) = false := by simp; omega
      by_cases tb : b.kind ≤ 7
      · obtain rfl : fb = true := hfb2.2 tb
        have hm7 := HM7.out
        have HF : Hid (R = maskB 16 (kindsV b)) := Lib.hid (by rw [HR.out, if_neg (by omega), if_neg (by omega), if_neg (by omega), if_pos (by omega), decide_eq_true tb, HK16.out a8]; rfl)
        obtain rfl := HF.out
        clear HR
        generalize maskB 16 (kindsV b) = rm at hm7 ⊢
        generalize (kindsC b : Int) = xb at HKb hm7
        clear a8 b0 ka kb hfa2 hfb2 ta tb HMk HM7
        go_enter Tryd.func34, Tryd.ntmps34
        go_wp2_with fail
        refine (HK5.out _ HW0.out).mono ?_
        rintro e w1 ⟨rfl, hb⟩
        have HB1 := Lib.hid (HFx.out _ _ HB0.out hb)
        obtain ⟨⟨x0, x1, x2, y0, y1, y2, lA, lB⟩, hw⟩ := HAf.out _ HB1.out
        have HW1 := Lib.hid hw
        clear hb hw
        go_wp2_with fail
        refine (HFa.out _ HW1.out).mono ?_
        rintro e w2 ⟨rfl, hb⟩
        have HB2 := Lib.hid (HFx.out _ _ HB1.out hb)
        clear x0 x1 x2 y0 y1 y2 lA lB
        obtain ⟨⟨x0, x1, x2, y0, y1, y2, lA, lB⟩, hw⟩ := HAf.out _ HB2.out
        have HW2 := Lib.hid hw
        clear hb hw
        go_wp2_with fail
        refine (HFb.out _ HW2.out).mono ?_
        rintro e w3 ⟨rfl, hb⟩
        have HB3 := Lib.hid (HFx.out _ _ HB2.out hb)
        clear x0 x1 x2 y0 y1 y2 lA lB
        obtain ⟨⟨x0, x1, x2, y0, y1, y2, lA, lB⟩, hw⟩ := HAf.out _ HB3.out
        have HW3 := Lib.hid hw
        clear hb hw
        go_wp2_with fail
        refine (HKb.out _ HW3.out).mono ?_
        rintro e w4 ⟨rfl, hb⟩
        have HB4 := Lib.hid (HFx.out _ _ HB3.out hb)
        clear x0 x1 x2 y0 y1 y2 lA lB
        obtain ⟨⟨x0, x1, x2, y0, y1, y2, lA, lB⟩, hw⟩ := HAf.out _ HB4.out
        have HW4 := Lib.hid hw
        clear hb hw
        go_wp2
        go_ret
        exact ⟨rfl, HW4.out⟩
      obtain rfl : fb = false := by cases fb with | false => rfl | true => exact absurd (hfb2.1 rfl) tb
      by_cases b8 : b.kind = 8
      · exact H88.out ⟨a8, b8⟩
      have f8 : (b.kind == 8) = false := by simpa using b8
      have HF : Hid (R = false) := Lib.hid (by rw [HR.out, if_neg (by omega), if_neg (by omega), if_neg (by omega), if_pos (by omega), decide_eq_false (by omega)]; rfl)
      obtain rfl := HF.out
      clear HR
      clear a8 b8 b0 ka kb hfa2 hfb2 HMk HM7
      go_enter Tryd.func34, Tryd.ntmps34
      go_wp2_with fail
      refine (HK5.out _ HW0.out).mono ?_
      rintro e w1 ⟨rfl, hb⟩
      have HB1 := Lib.hid (HFx.out _ _ HB0.out hb)
      obtain ⟨⟨x0, x1, x2, y0, y1, y2, lA, lB⟩, hw⟩ := HAf.out _ HB1.out
      have HW1 := Lib.hid hw
      clear hb hw
      go_wp2_with fail
      refine (HFa.out _ HW1.out).mono ?_
      rintro e w2 ⟨rfl, hb⟩
      have HB2 := Lib.hid (HFx.out _ _ HB1.out hb)
      clear x0 x1 x2 y0 y1 y2 lA lB
      obtain ⟨⟨x0, x1, x2, y0, y1, y2, lA, lB⟩, hw⟩ := HAf.out _ HB2.out
      have HW2 := Lib.hid hw
      clear hb hw
      go_wp2_with fail
      refine (HFb.out _ HW2.out).mono ?_
      rintro e w3 ⟨rfl, hb⟩
      have HB3 := Lib.hid (HFx.out _ _ HB2.out hb)
      clear x0 x1 x2 y0 y1 y2 lA lB
      obtain ⟨⟨x0, x1, x2, y0, y1, y2, lA, lB⟩, hw⟩ := HAf.out _ HB3.out
      have HW3 := Lib.hid hw
      clear hb hw
      go_wp2
      go_ret
      exact ⟨rfl, HW3.out⟩
    have a9 : a.kind = 9 := by omega
    have e8 : (a.kind == 8) = false := by simp; omega
    have e9 : (a.kind == 9) = true := by simpa using a9
    by_cases b9 : b.kind = 9
    · have f9 : (b.kind == 9) = true := by simpa using b9
      by_cases hlen : a.args.length = b.args.length
      · exact H99.out ⟨a9, b9⟩ hlen
      have hln : ((a.args.length : Int) == (b.args.length : Int)) = false := by simp; omega
      have HF : Hid (R = false) := Lib.hid (by rw [HR.out, if_neg (by omega), if_neg (by omega), if_pos ⟨a9, b9⟩]; unfold arrowB; rw [decide_eq_false hlen]; rfl)
      obtain rfl := HF.out
      clear HR
      clear a9 b9 b0 ka kb hfa2 hfb2 HMk HM7 hlen
      go_enter Tryd.func34, Tryd.ntmps34
      go_wp2_with fail
      refine (HK5.out _ HW0.out).mono ?_
      rintro e w1 ⟨rfl, hb⟩
      have HB1 := Lib.hid (HFx.out _ _ HB0.out hb)
      obtain ⟨⟨x0, x1, x2, y0, y1, y2, lA, lB⟩, hw⟩ := HAf.out _ HB1.out
      have HW1 := Lib.hid hw
      clear hb hw
      go_wp2_with fail
      refine (HFa.out _ HW1.out).mono ?_
      rintro e w2 ⟨rfl, hb⟩
      have HB2 := Lib.hid (HFx.out _ _ HB1.out hb)
      clear x0 x1 x2 y0 y1 y2 lA lB
      obtain ⟨⟨x0, x1, x2, y0, y1, y2, lA, lB⟩, hw⟩ := HAf.out _ HB2.out
      have HW2 := Lib.hid hw
      clear hb hw
      go_wp2
      go_ret
      exact ⟨rfl, HW2.out⟩
    have f9 : (b.kind == 9) = false := by simpa using b9
    have HF : Hid (R = false) := Lib.hid (by rw [HR.out, if_neg (by omega), if_neg (by omega), if_neg (by omega), if_neg (by omega)])
    obtain rfl := HF.out
    clear HR
    clear a9 b9 b0 ka kb hfa2 hfb2 HMk HM7
    go_enter Tryd.func34, Tryd.ntmps34
    go_wp2_with fail
    refine (HK5.out _ HW0.out).mono ?_
    rintro e w1 ⟨rfl, hb⟩
    have HB1 := Lib.hid (HFx.out _ _ HB0.out hb)
    obtain ⟨⟨x0, x1, x2, y0, y1, y2, lA, lB⟩, hw⟩ := HAf.out _ HB1.out
    have HW1 := Lib.hid hw
    clear hb hw
    go_wp2_with fail
    refine (HFa.out _ HW1.out).mono ?_
    rintro e w2 ⟨rfl, hb⟩
    have HB2 := Lib.hid (HFx.out _ _ HB1.out hb)
    clear x0 x1 x2 y0 y1 y2 lA lB
    obtain ⟨⟨x0, x1, x2, y0, y1, y2, lA, lB⟩, hw⟩ := HAf.out _ HB2.out
    have HW2 := Lib.hid hw
    clear hb hw
    go_wp2
    go_ret
    exact ⟨rfl, HW2.out⟩
end TyD
end Go.Proofs.YthcdbmbimdkcfaaDoor
