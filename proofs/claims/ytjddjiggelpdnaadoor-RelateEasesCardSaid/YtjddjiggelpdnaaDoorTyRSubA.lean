/- Sub: the document's: flat, field. -/
import Derived.Test.YtjddjiggelpdnaaDoorTyRTopP
namespace Go.Proofs.YtjddjiggelpdnaaDoor
open Go.RowKit ObjM
namespace TyD
open LexD (nameB WTab)

set_option maxRecDepth 100000 in
set_option maxHeartbeats 1000000 in
theorem rflat10_any (t : Ty) (vn va : Value) (w : World) (h : TyAt w vn va t) : Calls Tryd.prog 46 #[.agg #[.int .i64 t.kind, vn, va]] w (BoolB w (flatB t.kind)) := by
  obtain ⟨an, cn, aa, ca, rfl, rfl⟩ := h.shape
  have HF := fun W => Lib.hid (refFlat_any t.kind W)
  generalize flatB t.kind = b at HF ⊢
  clear h
  go_enter Tryd.func46, Tryd.ntmps46
  go_wp2_with fail
  refine ((HF _).out).mono ?_
  rintro e w1 ⟨rfl, rfl⟩
  go_wp2
  go_ret
  exact ⟨rfl, (Below.refl _ _).alloc (Nat.le_refl _) _⟩
theorem TysAt.at_base {w W : World} {av : Option Addr} {cap n : Nat} {l : List Ty} (h : TysAt w (.slice av n cap) l) (hb : Below w.heap.size w W) (k : Nat) (hk : k < l.length) :
    ∃ b o vn va, av = some ⟨b, o, none⟩ ∧ b < W.heap.size ∧ W.cell? ⟨b, o + k * 3, none⟩ = some (.int .i64 l[k].kind) ∧ W.cell? ⟨b, o + k * 3 + 1, none⟩ = some vn ∧ W.cell? ⟨b, o + k * 3 + 2, none⟩ = some va ∧ TyAt w vn va l[k] := by
  obtain ⟨b, o, vn, va, e, hlt, c0, c1, c2, c3⟩ := h.at k hk
  exact ⟨b, o, vn, va, e, Nat.lt_of_lt_of_le hlt hb.size, (hb.cell (p := ⟨b, _, none⟩) hlt).trans c0, (hb.cell (p := ⟨b, _, none⟩) hlt).trans c1, (hb.cell (p := ⟨b, _, none⟩) hlt).trans c2, c3⟩
def lookD (ns : List ByteArray) (ts : List Ty) (s : ByteArray) : Option Ty := ((ns.zip ts).find? fun x => decide (x.1 = s)).map (·.2)
theorem lookD_drop {ns : List ByteArray} {ts : List Ty} {s : ByteArray} {k : Nat} (hn : k < ns.length) (ht : k < ts.length) : lookD (ns.drop k) (ts.drop k) s = if ns[k] = s then some ts[k] else lookD (ns.drop (k + 1)) (ts.drop (k + 1)) s := by
  rw [List.drop_eq_getElem_cons hn, List.drop_eq_getElem_cons ht]
  unfold lookD
  rw [List.zip_cons_cons, List.find?_cons]
  by_cases h : ns[k] = s
  · simp [h]
  · simp [h]
inductive FieldIs (w : World) : Option Ty → Ending → World → Prop
  | yes (x : Ty) (vn va : Value) (w' : World) : TyAt w' vn va x → Below w.heap.size w w' → FieldIs w (some x) (.returned (.tuple #[.agg #[.int .i64 x.kind, vn, va], .bool true])) w'
  | no (w' : World) : Below w.heap.size w w' → FieldIs w none (.returned (.tuple #[.agg #[.int .i64 0, .slice none 0 0, .slice none 0 0], .bool false])) w'
set_option maxRecDepth 100000 in
set_option maxHeartbeats 8000000 in
theorem field_any (t : Ty) (s : ByteArray) (vn va : Value) (w : World) (hok : TyOk t) (h : TyAt w vn va t) (hl : t.names.length = t.args.length) :
    Calls Tryd.prog 57 #[.agg #[.int .i64 t.kind, vn, va], .string s] w (FieldIs w (look t s)) := by
  obtain ⟨k, ns, ts⟩ := t
  obtain ⟨hn, ht⟩ := h.parts
  obtain ⟨_, ok1, _, ok3, ok4⟩ := hok.parts
  change Calls _ _ #[.agg #[.int .i64 k, vn, va], .string s] w (FieldIs w (lookD (ns.drop 0) (ts.drop 0) s))
  change ns.length = ts.length at hl
  obtain ⟨hh0, hh1, hbw, hsz⟩ := box2 w [.int .i64 k, vn, va] [.int .i64 0, .slice none 0 0, .slice none 0 0] 25 _ rfl
  have HN := Lib.hid (fun (W : World) (h : Below w.heap.size w W) => hn.below (Nat.le_refl _) h)
  have HT := Lib.hid ht
  obtain ⟨R, hR⟩ : ∃ R, lookD (ns.drop 0) (ts.drop 0) s = R := ⟨_, rfl⟩
  have HR := Lib.hid hR
  rw [hR]
  obtain ⟨an, cn, rfl⟩ := hn.shape
  obtain ⟨aa, ca, rfl⟩ := ht.shape
  obtain ⟨m, hm⟩ : ∃ m, ns.length = m := ⟨_, rfl⟩
  have HM := Lib.hid (⟨hm, hl.symm.trans hm⟩ : ns.length = m ∧ ts.length = m)
  have HBW := Lib.hid hbw
  have HH0 := Lib.hid hh0
  have HH1 := Lib.hid hh1
  have HSz := Lib.hid hsz
  rw [hm] at ok1 HBW HH0 HH1 HN HSz ⊢
  rw [hl.symm.trans hm] at HBW HH0 HH1 HT HSz ⊢
  clear h hn ht hok ok4 hbw hh0 hh1 hsz hm hl hR ok3
  go_enter Tryd.func57, Tryd.ntmps57
  go_wp2
  change Code.wp _ _ _ _ (World.alloc (World.alloc w _) _)
  generalize World.alloc (World.alloc w (.cells #[.int .i64 k, .slice an m cn, .slice aa m ca] 25)) (.cells #[.int .i64 0, .slice none 0 0, .slice none 0 0] 25) = w1 at HBW HH0 HH1 HSz ⊢
  generalize hA : w.heap.size = B0 at HH0 HH1 HSz ⊢
  have HAz := Lib.hid hA
  clear hA
  go_loopw [11] (fun i wr => ∃ j : Nat, i = .int .i64 (j : Int) ∧ j ≤ m ∧ Hid (wr = w1) ∧ Hid (lookD (ns.drop j) (ts.drop j) s = R)) (fun i _ => m - (intOf i).toNat)
  case atStart => exact ⟨0, rfl, by omega, Lib.hid rfl, HR⟩
  case round =>
    obtain ⟨j, rfl, hj, HW, HD⟩ := hrel
    obtain rfl := HW.out
    clear HW
    have x2 := HH0.out.cell 2
    have z0 := HH1.out.cell 0
    have z1 := HH1.out.cell 1
    have z2 := HH1.out.cell 2
    have f0 := HH1.out.frozen 0
    have f1 := HH1.out.frozen 1
    have f2 := HH1.out.frozen 2
    have lA := HH0.out.lt
    have lB := HH1.out.lt
    simp at x2 z0 z1 z2
    by_cases hlt : j < m
    · have hi1 : (j : Int) < (m : Int) := by omega
      have hjn : j < ns.length := by rw [HM.out.1]; exact hlt
      have hjt : j < ts.length := by rw [HM.out.2]; exact hlt
      obtain ⟨bs, os, rfl, hbs, c0⟩ := (HN.out _ HBW.out).at j hjn
      obtain ⟨bb, ob, un, ub, rfl, hbb, d0, d1, d2, d3⟩ := HT.out.at_base HBW.out j hjt
      have HD2 := Lib.hid (lookD_drop (s := s) hjn hjt)
      have HY := Lib.hid d3
      obtain ⟨bn2, dn2, bb2, db2, rfl, rfl⟩ := d3.shape
      generalize ts[j] = y at HD2 d0 d1 d2 d3 HY
      generalize ns[j] = q at HD2 c0
      clear d3 hjn hjt
      by_cases he : q = s
      · subst he
        have hb1 : (q.toList == q.toList) = true := by simp
        have HF : Hid (R = some y) := Lib.hid (by rw [← HD.out, HD2.out, if_pos rfl])
        obtain rfl := HF.out
        have HEnd : Hid (Below w.heap.size w (((wr.setCell ⟨B0 + 1, 0, none⟩ (.int .i64 y.kind)).setCell ⟨B0 + 1, 1, none⟩ (.slice bn2 y.names.length dn2)).setCell ⟨B0 + 1, 2, none⟩ (.slice bb2 y.args.length db2)) ∧ TyAt (((wr.setCell ⟨B0 + 1, 0, none⟩ (.int .i64 y.kind)).setCell ⟨B0 + 1, 1, none⟩ (.slice bn2 y.names.length dn2)).setCell ⟨B0 + 1, 2, none⟩ (.slice bb2 y.args.length db2)) (.slice bn2 y.names.length dn2) (.slice bb2 y.args.length db2) y) := Lib.hid (by
          have hb : Below w.heap.size w (((wr.setCell ⟨B0 + 1, 0, none⟩ (.int .i64 y.kind)).setCell ⟨B0 + 1, 1, none⟩ (.slice bn2 y.names.length dn2)).setCell ⟨B0 + 1, 2, none⟩ (.slice bb2 y.args.length db2)) := ((HBW.out.setCell (by simp [HAz.out]) _).setCell (by simp [HAz.out]) _).setCell (by simp [HAz.out]) _
          exact ⟨hb, HY.out.frame (Nat.le_refl _) hb⟩)
        clear HD HD2 HR HY
        go_wp2
        exact bodyPost_ret (v := .tuple #[.agg #[.int .i64 y.kind, .slice bn2 y.names.length dn2, .slice bb2 y.args.length db2], .bool true]) (by simp [results, Tryd.results57, go_sem, z0, z1, z2]) rfl (.yes _ _ _ _ HEnd.out.2 HEnd.out.1)
      · have hb1 : (q.toList == s.toList) = false := by
          rw [ByteArray.toList_eq, ByteArray.toList_eq]
          simp only [beq_eq_false_iff_ne, ne_eq]
          intro e
          exact he (ByteArray.ext (Array.ext' e))
        have HD3 : Hid (lookD (ns.drop (j + 1)) (ts.drop (j + 1)) s = R) := Lib.hid (by rw [← HD.out, HD2.out, if_neg he])
        clear HD HD2 he HY
        go_wp2
        go_roundw
        case rel => exact ⟨j + 1, by go_num, by omega, (by first | exact Lib.hid rfl | exact Lib.hid trivial), HD3⟩
        case measure => simp [intOf]; omega
    · have hjm : m = j := by omega
      have HF : Hid (R = none) := Lib.hid (by rw [← HD.out, List.drop_eq_nil_of_le (by rw [HM.out.1]; omega)]; rfl)
      obtain rfl := HF.out
      subst hjm
      have HEnd : Hid (Below w.heap.size w (((wr.setCell ⟨B0 + 1, 0, none⟩ (.int .i64 0)).setCell ⟨B0 + 1, 1, none⟩ (.slice none 0 0)).setCell ⟨B0 + 1, 2, none⟩ (.slice none 0 0))) := Lib.hid (((HBW.out.setCell (by simp [HAz.out]) _).setCell (by simp [HAz.out]) _).setCell (by simp [HAz.out]) _)
      clear HD HR
      go_wp2
      exact bodyPost_ret (v := .tuple #[.agg #[.int .i64 0, .slice none 0 0, .slice none 0 0], .bool false]) (by simp [results, Tryd.results57, go_sem, z0, z1, z2]) rfl (.no _ HEnd.out)
theorem and_fin : ∀ y : Fin 128, (bits BinOp.and IntKind.i64 (y.val : Int) 16 != 0) = maskB 16 y.val := by decide +kernel
theorem tab_ok : TyOk (.mk 5 [] []) := .mk _ _ _ (by omega) (by simp) (by simp) (by simp) (by simp)
theorem drop_all {f : ByteArray × Ty → Bool} {a : List ByteArray} {b : List Ty} {k : Nat} (ha : k < a.length) (hb : k < b.length) : ((a.drop k).zip (b.drop k)).all f = (f (a[k], b[k]) && ((a.drop (k + 1)).zip (b.drop (k + 1))).all f) := zipDrop_all ha hb
end TyD
end Go.Proofs.YtjddjiggelpdnaaDoor
