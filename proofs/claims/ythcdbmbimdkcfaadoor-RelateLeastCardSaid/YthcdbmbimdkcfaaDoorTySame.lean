/- Whether types are alike: the program's answer and the document's. -/
import Derived.Test.YthcdbmbimdkcfaaDoorTyRef
namespace Go.Proofs.YthcdbmbimdkcfaaDoor
open Go.RowKit ObjM
namespace TyD
open LexD (nameB WTab)

theorem names_eq {a b : List ByteArray} {j : Nat} (ha : j < a.length) (hb : j < b.length) (h : a.take j = b.take j) (he : a[j].toList = b[j].toList) : a.take (j + 1) = b.take (j + 1) := by
  have e : a[j] = b[j] := by
    rw [ByteArray.toList_eq, ByteArray.toList_eq] at he
    exact ByteArray.ext (Array.ext' he)
  rw [List.take_succ_eq_append_getElem ha, List.take_succ_eq_append_getElem hb, h, e]
theorem names_all {a b : List ByteArray} (hl : a.length = b.length) (h : a.take a.length = b.take a.length) : a = b := by
  rw [List.take_length, hl, List.take_length] at h
  exact h
theorem names_ne {a b : List ByteArray} {j : Nat} (ha : j < a.length) (hb : j < b.length) (he : ¬ a[j].toList = b[j].toList) : ¬ a = b := by
  intro e
  subst e
  exact he rfl
set_option maxRecDepth 100000 in
set_option maxHeartbeats 8000000 in
theorem strsEqual_any (a b : List ByteArray) (va vb : Value) (w : World) (ha : StrsAt w va a) (hb : StrsAt w vb b) (hla : a.length ≤ 140737488355328) (_hlb : b.length ≤ 140737488355328) :
    Calls Tryd.prog 75 #[va, vb] w (BoolB w (decide (a = b))) := by
  obtain ⟨av, ca, rfl⟩ := ha.shape
  obtain ⟨bv, cb, rfl⟩ := hb.shape
  have HA := Lib.hid (fun (W : World) (h : Below w.heap.size w W) => ha.below (Nat.le_refl _) h)
  have HB := Lib.hid (fun (W : World) (h : Below w.heap.size w W) => hb.below (Nat.le_refl _) h)
  clear ha hb
  by_cases hl : a.length = b.length
  · obtain ⟨m, hm⟩ : ∃ m, b.length = m := ⟨_, rfl⟩
    have hma : a.length = m := by omega
    have HM := Lib.hid (⟨hma, hm⟩ : _ ∧ _)
    have hne : ((m : Int) != (m : Int)) = false := by simp
    obtain ⟨R, hR⟩ : ∃ R, decide (a = b) = R := ⟨_, rfl⟩
    have HR := Lib.hid hR
    go_enter Tryd.func75, Tryd.ntmps75
    rw [hm, hma, hR]
    rw [hma] at hla
    clear hl hm hma _hlb hR
    go_wp2
    go_loopw [13] (fun i wr => ∃ k : Nat, i = .int .i64 (k : Int) ∧ k ≤ m ∧ Below w.heap.size w wr ∧ Hid (a.take k = b.take k)) (fun i _ => m - (intOf i).toNat)
    case atStart => exact ⟨0, rfl, by omega, Below.refl _ _, Lib.hid rfl⟩
    case round =>
      obtain ⟨k, rfl, hk, hBl, HD⟩ := hrel
      have HBl := Lib.hid hBl
      clear hBl
      by_cases hlt : k < m
      · have hi1 : (k : Int) < (m : Int) := by omega
        have hka : k < a.length := by rw [HM.out.1]; exact hlt
        have hkb : k < b.length := by rw [HM.out.2]; exact hlt
        obtain ⟨ba, oa, rfl, hba, c0⟩ := (HA.out _ HBl.out).at k hka
        obtain ⟨bb, ob, rfl, hbb, d0⟩ := (HB.out _ HBl.out).at k hkb
        have HN := Lib.hid (names_eq hka hkb HD.out)
        have HX := Lib.hid (names_ne hka hkb)
        generalize a[k] = x at c0 HN HX
        generalize b[k] = y at d0 HN HX
        by_cases he : x.toList = y.toList
        · have h1 : (x.toList == y.toList) = true := by simpa using he
          have HN2 := Lib.hid (HN.out he)
          clear HN HX he
          go_wp2
          go_quiet (fail)
          go_wp2
          go_roundw
          case rel => exact ⟨k + 1, by go_num, by omega, drewN_below HBl.out _, HN2⟩
          case measure => simp [intOf]; omega
        · have h1 : (x.toList == y.toList) = false := by simpa using he
          have HF : Hid (R = false) := Lib.hid (by rw [← HR.out]; exact decide_eq_false (HX.out he))
          obtain rfl := HF.out
          clear HN HX he HR
          go_wp2
          go_quiet (fail)
          go_wp2
          go_ret
          exact ⟨rfl, drewN_below HBl.out _⟩
      · have hkm : k = m := by omega
        have HF : Hid (R = true) := Lib.hid (by rw [← HR.out]; exact decide_eq_true (names_all (by rw [HM.out.1, HM.out.2]) (by rw [HM.out.1, ← hkm]; exact HD.out)))
        obtain rfl := HF.out
        subst hkm
        clear HR
        go_wp2
        go_ret
        exact ⟨rfl, HBl.out⟩
  · have hne : ((a.length : Int) != (b.length : Int)) = true := by simp; omega
    have HF : Hid (decide (a = b) = false) := Lib.hid (decide_eq_false (fun e => hl (by rw [e])))
    rw [HF.out]
    clear HF
    go_enter Tryd.func75, Tryd.ntmps75
    go_wp2
    go_ret
    exact ⟨rfl, Below.refl _ _⟩
def zipB (r : Nat) (a b : List Ty) : Bool := decide (a.length = b.length) && (a.zip b).all fun x => eqF r x.1 x.2
theorem zip_drop {r : Nat} {a b : List Ty} {k : Nat} (ha : k < a.length) (hb : k < b.length) : (((a.drop k).zip (b.drop k)).all fun x => eqF r x.1 x.2) = (eqF r a[k] b[k] && ((a.drop (k + 1)).zip (b.drop (k + 1))).all fun x => eqF r x.1 x.2) := by
  rw [List.drop_eq_getElem_cons ha, List.drop_eq_getElem_cons hb]
  rfl
/-- A function of two types that lie in memory. -/
def Tells2 (f : FuncId) (p : Ty → Ty → Bool) (ts us : List Ty) : Prop :=
  ∀ (x y : Ty) (vn va un ua : Value) (W : World), x ∈ ts → y ∈ us → TyAt W vn va x → TyAt W un ua y → Calls Tryd.prog f #[.agg #[.int .i64 x.kind, vn, va], .agg #[.int .i64 y.kind, un, ua]] W (BoolB W (p x y))
set_option maxRecDepth 100000 in
set_option maxHeartbeats 16000000 in
theorem equalFunc_any (r : Nat) (a b : List Ty) (va vb : Value) (w : World) (ha : TysAt w va a) (hb : TysAt w vb b) (hla : a.length ≤ 140737488355328) (_hlb : b.length ≤ 140737488355328) (hf : Tells2 74 (eqF r) a b) :
    Calls Tryd.prog 90 #[va, vb, .func (.func 74) #[] #[]] w (BoolB w (zipB r a b)) := by
  obtain ⟨av, ca, rfl⟩ := ha.shape
  obtain ⟨bv, cb, rfl⟩ := hb.shape
  have HA := Lib.hid (fun (W : World) (h : Below w.heap.size w W) => ha.below (Nat.le_refl _) h)
  have HB := Lib.hid (fun (W : World) (h : Below w.heap.size w W) => hb.below (Nat.le_refl _) h)
  have HFn := Lib.hid hf
  clear ha hb hf
  by_cases hl : a.length = b.length
  · obtain ⟨m, hm⟩ : ∃ m, b.length = m := ⟨_, rfl⟩
    have hma : a.length = m := by omega
    have HM := Lib.hid (⟨hma, hm⟩ : _ ∧ _)
    have hne : ((m : Int) != (m : Int)) = false := by simp
    have HR : Hid (zipB r a b = ((a.drop 0).zip (b.drop 0)).all fun x => eqF r x.1 x.2) := Lib.hid (by unfold zipB; rw [decide_eq_true hl]; rfl)
    generalize zipB r a b = R at HR ⊢
    go_enter Tryd.func90, Tryd.ntmps90
    rw [hm, hma]
    rw [hma] at hla
    clear hl hm hma _hlb
    go_wp2
    go_loopw [17] (fun i wr => ∃ k : Nat, i = .int .i64 (k : Int) ∧ k ≤ m ∧ Below w.heap.size w wr ∧ Hid (R = ((a.drop k).zip (b.drop k)).all fun x => eqF r x.1 x.2)) (fun i _ => m - (intOf i).toNat)
    case atStart => exact ⟨0, rfl, by omega, Below.refl _ _, HR⟩
    case round =>
      obtain ⟨k, rfl, hk, hBl, HD⟩ := hrel
      have HBl := Lib.hid hBl
      have hszr := hBl.size
      clear hBl
      by_cases hlt : k < m
      · have hi1 : (k : Int) < (m : Int) := by omega
        have hka : k < a.length := by rw [HM.out.1]; exact hlt
        have hkb : k < b.length := by rw [HM.out.2]; exact hlt
        have HD2 := Lib.hid (zip_drop (r := r) hka hkb)
        obtain ⟨ba, oa, vn, vb, rfl, hba, c0, c1, c2, c3⟩ := (HA.out _ HBl.out).at k hka
        obtain ⟨bb, ob, un, ub, rfl, hbb, d0, d1, d2, d3⟩ := (HB.out _ HBl.out).at k hkb
        have HBn : Hid (Below wr.heap.size wr ((wr.alloc (.cells #[.int .i64 a[k].kind, vn, vb] 25)).alloc (.cells #[.int .i64 b[k].kind, un, ub] 25))) := Lib.hid (by
          repeat (first | exact Below.refl _ _ | refine Below.alloc ?_ (by simp; try omega) _))
        have HS := Lib.hid (HFn.out a[k] b[k] vn vb un ub ((wr.alloc (.cells #[.int .i64 a[k].kind, vn, vb] 25)).alloc (.cells #[.int .i64 b[k].kind, un, ub] 25)) (List.getElem_mem hka) (List.getElem_mem hkb) (c3.frame (Nat.le_refl _) HBn.out) (d3.frame (Nat.le_refl _) HBn.out))
        have HB2 := Lib.hid (HBl.out.trans (HBn.out.mono hszr))
        obtain ⟨an, cn, ab, cb', rfl, rfl⟩ := c3.shape
        obtain ⟨bn, dn, bb', db', rfl, rfl⟩ := d3.shape
        generalize a[k] = x at HD2 HS c0 c1 c2 c3 HBn HB2
        generalize b[k] = y at HD2 HS d0 d1 d2 d3 HBn HB2
        obtain ⟨q, hq⟩ : ∃ q, eqF r x y = q := ⟨_, rfl⟩
        rw [hq] at HS HD2
        clear c3 d3 hq hka hkb
        go_wp2_with fail
        refine (HS.out).mono ?_
        rintro e w3 ⟨rfl, hb3⟩
        have HB3 := Lib.hid (HB2.out.trans (hb3.mono HB2.out.size))
        clear hb3
        cases q
        · have HF : Hid (R = false) := Lib.hid (by rw [HD.out, HD2.out]; rfl)
          obtain rfl := HF.out
          clear HD HD2 HR
          go_wp2
          go_ret
          exact ⟨rfl, HB3.out⟩
        · have HD3 : Hid (R = ((a.drop (k + 1)).zip (b.drop (k + 1))).all fun x => eqF r x.1 x.2) := Lib.hid (by rw [HD.out, HD2.out]; rfl)
          clear HD HD2
          go_wp2
          go_roundw
          case rel => exact ⟨k + 1, by go_num, by omega, HB3.out, HD3⟩
          case measure => simp [intOf]; omega
      · have hkm : k = m := by omega
        have HF : Hid (R = true) := Lib.hid (by
          rw [HD.out, List.drop_eq_nil_of_le (by rw [HM.out.1]; omega), List.drop_eq_nil_of_le (by rw [HM.out.2]; omega)]
          rfl)
        obtain rfl := HF.out
        subst hkm
        clear HR HD
        go_wp2
        go_ret
        exact ⟨rfl, HBl.out⟩
  · have hne : ((a.length : Int) != (b.length : Int)) = true := by simp; omega
    have HF : Hid (zipB r a b = false) := Lib.hid (by unfold zipB; rw [decide_eq_false hl]; rfl)
    rw [HF.out]
    clear HF
    go_enter Tryd.func90, Tryd.ntmps90
    go_wp2
    go_ret
    exact ⟨rfl, Below.refl _ _⟩
theorem box2 (w : World) (c0 c1 : List Value) (t : TypeId) (W : World) (hW : W = (w.alloc (.cells c0.toArray t)).alloc (.cells c1.toArray t)) :
    Has W w.heap.size t c0 ∧ Has W (w.heap.size + 1) t c1 ∧ Below w.heap.size w W ∧ W.heap.size = w.heap.size + 1 + 1 := by
  subst hW
  have k : ∀ (W : World) (o : Go.Obj), KeepsT [] W (W.alloc o) := fun W o => (KeepsT.refl [] W).alloc o
  refine ⟨?_, ?_, ?_, by simp⟩
  · exact (Has.new w t c0).keepsT (k _ _) (by simp)
  · have h := Has.new (w.alloc (.cells c0.toArray t)) t c1
    simpa only [World.size_alloc] using h
  · repeat (first | exact Below.refl _ _ | refine Below.alloc ?_ (by simp; try omega) _)
set_option maxRecDepth 100000 in
set_option maxHeartbeats 16000000 in
theorem alike_any : ∀ (r : Nat) (a b : Ty) (vn va un ua : Value) (w : World), validB r a = true → TyOk a → TyOk b → TyAt w vn va a → TyAt w un ua b →
    Calls Tryd.prog 74 #[.agg #[.int .i64 a.kind, vn, va], .agg #[.int .i64 b.kind, un, ua]] w (BoolB w (eqF r a b)) := by
  intro r
  induction r with
  | zero =>
    intro a b vn va un ua w hv
    cases hv
  | succ r ih =>
    intro a b vn va un ua w hv oka okb ha hb
    obtain ⟨k, ns, ts⟩ := a
    obtain ⟨k', ns', ts'⟩ := b
    obtain ⟨-, r', hr', hvp⟩ := valid_parts hv
    injection hr' with hr'
    subst hr'
    obtain ⟨hn, ht⟩ := ha.parts
    obtain ⟨hn', ht'⟩ := hb.parts
    obtain ⟨_, ok1, _, ok3, ok4⟩ := oka.parts
    obtain ⟨_, ok1', _, ok3', ok4'⟩ := okb.parts
    change Calls _ _ #[.agg #[.int .i64 k, vn, va], .agg #[.int .i64 k', un, ua]] w _
    obtain ⟨hh0, hh1, hbw, hsz⟩ := box2 w [.int .i64 k, vn, va] [.int .i64 k', un, ua] 25 _ rfl
    have HSt := fun (W : World) (h : Below w.heap.size w W) => Lib.hid (strsEqual_any ns ns' vn un W (hn.below (Nat.le_refl _) h) (hn'.below (Nat.le_refl _) h) ok1 ok1')
    have HEq := fun (W : World) (h : Below w.heap.size w W) => Lib.hid (equalFunc_any r ts ts' va ua W (ht.below (Nat.le_refl _) h) (ht'.below (Nat.le_refl _) h) ok3 ok3' (fun x y vn va un ua W hx hy h1 h2 => ih x y vn va un ua W (hvp x hx) (ok4 x hx) (ok4' y hy) h1 h2))
    have HR : Hid (eqF (r + 1) (.mk k ns ts) (.mk k' ns' ts') = (decide (k = k') && decide (ns = ns') && zipB r ts ts')) := Lib.hid (by
      unfold zipB
      rw [eqF]
      simp only [Bool.and_assoc])
    generalize eqF (r + 1) (.mk k ns ts) (.mk k' ns' ts') = R at HR ⊢
    generalize zipB r ts ts' = z at HR HEq
    generalize decide (ns = ns') = y at HR HSt
    obtain ⟨an, cn, rfl⟩ := hn.shape
    obtain ⟨bn, dn, rfl⟩ := hn'.shape
    obtain ⟨at_, ct, rfl⟩ := ht.shape
    obtain ⟨bt, dt, rfl⟩ := ht'.shape
    have HBW := Lib.hid hbw
    have HH0 := Lib.hid hh0
    have HH1 := Lib.hid hh1
    have HSz := Lib.hid hsz
    clear hn ht hn' ht' ha hb oka okb ok4 ok4' hvp hv ih hbw hh0 hh1 hsz
    by_cases hk : k = k'
    · subst hk
      rw [decide_eq_true rfl] at HR
      cases y
      · have HF : Hid (R = false) := Lib.hid (by rw [HR.out]; rfl)
        obtain rfl := HF.out
        clear HR
        go_enter Tryd.func74, Tryd.ntmps74
        go_wp2_with fail
        refine ((HSt _ HBW.out).out).mono ?_
        rintro e w2 ⟨rfl, hb2⟩
        have HB2 := Lib.hid (HBW.out.trans (hb2.mono HBW.out.size))
        clear hb2
        go_wp2
        go_ret
        exact ⟨rfl, HB2.out⟩
      · have HF : Hid (R = z) := Lib.hid (by rw [HR.out]; simp)
        obtain rfl := HF.out
        clear HR
        cases R
        all_goals
          go_enter Tryd.func74, Tryd.ntmps74
          go_wp2_with fail
          refine ((HSt _ HBW.out).out).mono ?_
          rintro e w2 ⟨rfl, hb2⟩
          have HB2 := Lib.hid (HBW.out.trans (hb2.mono HBW.out.size))
          have h0 := HH0.out.below hb2 HH0.out.lt
          have h1 := HH1.out.below hb2 HH1.out.lt
          have x0 := h0.cell 2
          have x1 := h1.cell 2
          have l0 := h0.lt
          have l1 := h1.lt
          simp at x0 x1
          clear hb2 h0 h1
          go_wp2_with fail
          refine ((HEq _ HB2.out).out).mono ?_
          rintro e w3 ⟨rfl, hb3⟩
          have HB3 := Lib.hid (HB2.out.trans (hb3.mono HB2.out.size))
          clear hb3
          go_wp2
          go_ret
          exact ⟨rfl, HB3.out⟩
    · have hkb : (k == k') = false := by simpa using hk
      have HF : Hid (R = false) := Lib.hid (by rw [HR.out, decide_eq_false hk]; rfl)
      obtain rfl := HF.out
      clear HR hk
      go_enter Tryd.func74, Tryd.ntmps74
      go_wp2
      go_ret
      exact ⟨rfl, HBW.out⟩
end TyD
end Go.Proofs.YthcdbmbimdkcfaaDoor
