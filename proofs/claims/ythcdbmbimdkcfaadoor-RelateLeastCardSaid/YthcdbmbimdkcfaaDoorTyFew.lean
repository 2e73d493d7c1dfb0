/- How many parts a type has, as the statements count them. -/
import Derived.Test.YthcdbmbimdkcfaaDoorTyVag
namespace Go.Proofs.YthcdbmbimdkcfaaDoor
open Go.RowKit ObjM
namespace TyD
open LexD (nameB WTab)

def w64 (n : Int) : Int := wrap64 n
theorem w64_range (n : Int) : -9223372036854775808 ≤ w64 n ∧ w64 n ≤ 9223372036854775807 := by
  unfold w64 wrap64
  omega
def namesN (ns : List ByteArray) (n : Int) : Int := ns.foldl (fun m s => w64 (m + (s.size : Int) / 100)) n
def countF : Nat → Ty → Int → Int
  | 0, _, _ => 1000
  | r + 1, .mk _ ns ts, n => ts.foldl (fun m a => if 500 < m then m else countF r a m) (namesN ns (w64 (n + (1 + (ns.length : Int)))))
def fewV (t : Ty) : Bool := decide (countF 61 t 0 ≤ 500)
theorem namesN_range (ns : List ByteArray) (n : Int) (h : -9223372036854775808 ≤ n ∧ n ≤ 9223372036854775807) : -9223372036854775808 ≤ namesN ns n ∧ namesN ns n ≤ 9223372036854775807 := by
  unfold namesN
  induction ns generalizing n with
  | nil => exact h
  | cons s r ih => exact ih _ (w64_range _)
theorem countF_range : ∀ (r : Nat) (t : Ty) (n : Int), -9223372036854775808 ≤ countF r t n ∧ countF r t n ≤ 9223372036854775807
  | 0, _, _ => by unfold countF; omega
  | r + 1, .mk _ ns ts, n => by
    rw [countF]
    have key : ∀ (l : List Ty) (m : Int), (-9223372036854775808 ≤ m ∧ m ≤ 9223372036854775807) → -9223372036854775808 ≤ l.foldl (fun m a => if 500 < m then m else countF r a m) m ∧ l.foldl (fun m a => if 500 < m then m else countF r a m) m ≤ 9223372036854775807 := by
      intro l
      induction l with
      | nil => intro m h; exact h
      | cons a l ih =>
        intro m h
        rw [List.foldl_cons]
        apply ih
        split
        · exact h
        · exact countF_range r a m
    exact key ts _ (namesN_range ns _ (w64_range _))
theorem namesN_drop {ns : List ByteArray} {k : Nat} {m : Int} (hk : k < ns.length) : namesN (ns.drop k) m = namesN (ns.drop (k + 1)) (w64 (m + (ns[k].size : Int) / 100)) := by
  unfold namesN
  rw [List.drop_eq_getElem_cons hk]
  rfl
theorem count_drop {r : Nat} {ts : List Ty} {k : Nat} {m : Int} (hk : k < ts.length) : (ts.drop k).foldl (fun m a => if 500 < m then m else countF r a m) m = (ts.drop (k + 1)).foldl (fun m a => if 500 < m then m else countF r a m) (if 500 < m then m else countF r ts[k] m) := by
  rw [List.drop_eq_getElem_cons hk]
  rfl
theorem count_stay {r : Nat} : ∀ (l : List Ty) (m : Int), 500 < m → l.foldl (fun m a => if 500 < m then m else countF r a m) m = m
  | [], _, _ => rfl
  | a :: l, m, h => by
    rw [List.foldl_cons, if_pos h]
    exact count_stay l m h
set_option maxRecDepth 100000 in
set_option maxHeartbeats 16000000 in
theorem count_any : ∀ (r : Nat) (t : Ty) (vn va : Value) (n d : Int) (w : World), d + (r : Int) = 61 → r ≤ 61 → (-9223372036854775808 ≤ n ∧ n ≤ 9223372036854775807) → TyOk t → TyAt w vn va t →
    Calls Tryd.prog 52 #[.agg #[.int .i64 t.kind, vn, va], .int .i64 n, .int .i64 d] w (IntB w (countF r t n)) := by
  intro r
  induction r with
  | zero =>
    intro t vn va n d w hd hr hn0 hok h
    obtain ⟨kd, ns, ts⟩ := t
    obtain ⟨hn, ht⟩ := h.parts
    obtain ⟨_, ok1, ok2, ok3, ok4⟩ := hok.parts
    change Calls _ _ #[.agg #[.int .i64 kd, vn, va], _, _] w _
    have hbw : Below w.heap.size w (w.alloc (.cells #[.int .i64 kd, vn, va] 25)) := (Below.refl _ w).alloc (Nat.le_refl _) _
    have HNs := Lib.hid (fun (W : World) (hb : Below w.heap.size w W) => hn.below (Nat.le_refl _) hb)
    have HT := Lib.hid (fun (W : World) (hb : Below w.heap.size w W) => ht.below (Nat.le_refl _) hb)
    have HOs := Lib.hid ok2
    have HO4 := Lib.hid ok4
    have HN := Lib.hid (Has.new w 25 [.int .i64 kd, vn, va])
    obtain ⟨an, cn, rfl⟩ := hn.shape
    obtain ⟨aa, ca, rfl⟩ := ht.shape
    have HBW := Lib.hid hbw
    obtain ⟨q, hq⟩ : ∃ q, ns.length = q := ⟨_, rfl⟩
    have HLn := Lib.hid hq
    obtain ⟨m, hm⟩ : ∃ m, ts.length = m := ⟨_, rfl⟩
    have HM := Lib.hid hm
    rw [hq] at ok1
    rw [hm] at ok3
    have hqi : (q : Int) ≤ 140737488355328 := by omega
    have hmi : (m : Int) ≤ 140737488355328 := by omega
    have hn1 := hn0.1
    have hn2 := hn0.2
    have hd2 : (60 : Int) < d := by omega
    clear h hn ht hok ok4 hbw hq ok2 hn0 hm HT HO4
    change Calls _ _ _ w (IntB w 1000)
    go_enter Tryd.func52, Tryd.ntmps52
    rw [HLn.out, HM.out]
    rw [HLn.out, HM.out] at HBW HN
    go_wp2
    change Code.wp _ _ _ _ (World.alloc w _)
    obtain ⟨n0, hn0⟩ : ∃ n0, wrap64 (n + (1 + (q : Int))) = n0 := ⟨_, rfl⟩
    have hr0 : -9223372036854775808 ≤ n0 ∧ n0 ≤ 9223372036854775807 := by rw [← hn0]; exact w64_range _
    have HA0 : Hid (namesN (ns.drop 0) n0 = namesN ns n0) := Lib.hid rfl
    rw [hn0]
    clear hn0
    generalize World.alloc w (.cells #[.int .i64 kd, .slice an q cn, .slice aa m ca] 25) = w1 at HBW HN ⊢
    have HN2 : Hid (Has w1 w.heap.size 25 [.int .i64 kd, .slice an q cn, .slice aa m ca]) := HN
    generalize hA : w.heap.size = A at HN2 ⊢
    have HAz := Lib.hid hA
    clear hA
    go_loopw [20, 1] (fun i mm wr => ∃ (k : Nat) (x : Int), i = .int .i64 (k : Int) ∧ mm = .int .i64 x ∧ k ≤ q ∧ -9223372036854775808 ≤ x ∧ x ≤ 9223372036854775807 ∧ Hid (wr = w1) ∧ Hid (namesN (ns.drop k) x = namesN ns n0)) (fun i _ _ => q - (intOf i).toNat)
    case atStart => exact ⟨0, n0, rfl, rfl, by omega, hr0.1, hr0.2, Lib.hid rfl, HA0⟩
    case round =>
      obtain ⟨k, x, rfl, rfl, hk, hx1, hx2, HW, HD⟩ := hrel
      obtain rfl := HW.out
      clear HW
      have n1 := HN2.out.cell 1
      have n2 := HN2.out.cell 2
      have ln := HN2.out.lt
      simp at n1 n2
      by_cases hlt : k < q
      · have hi1 : (k : Int) < (q : Int) := by omega
        have hkl : k < ns.length := by rw [HLn.out]; exact hlt
        have HD2 := Lib.hid (namesN_drop (m := x) hkl)
        obtain ⟨b, o, rfl, hb, c0⟩ := (HNs.out _ HBW.out).at k hkl
        have hsz := HOs.out _ (List.getElem_mem hkl)
        generalize ns[k] = s at c0 HD2 hsz
        have hszi : (s.size : Int) ≤ 140737488355328 := by omega
        have hrw := w64_range (x + (s.size : Int) / 100)
        have HD3 : Hid (namesN (ns.drop (k + 1)) (w64 (x + (s.size : Int) / 100)) = namesN ns n0) := Lib.hid (by rw [← HD.out, HD2.out])
        clear HD HD2 n1 n2
        go_wp2
        go_roundw
        case rel => exact ⟨k + 1, w64 (x + (s.size : Int) / 100), by go_num, rfl, by omega, hrw.1, hrw.2, (by first | exact Lib.hid rfl | exact Lib.hid trivial), HD3⟩
        case measure => simp [intOf]; omega
      · have hkq : q = k := by omega
        have HX : Hid (x = namesN ns n0) := Lib.hid (by rw [← HD.out, List.drop_eq_nil_of_le (by rw [HLn.out]; omega)]; rfl)
        subst hkq
        clear HD
        go_wp2
        go_ret
        exact ⟨rfl, HBW.out⟩
  | succ r ih =>
    intro t vn va n d w hd hr hn0 hok h
    obtain ⟨kd, ns, ts⟩ := t
    obtain ⟨hn, ht⟩ := h.parts
    obtain ⟨_, ok1, ok2, ok3, ok4⟩ := hok.parts
    change Calls _ _ #[.agg #[.int .i64 kd, vn, va], _, _] w _
    have hbw : Below w.heap.size w (w.alloc (.cells #[.int .i64 kd, vn, va] 25)) := (Below.refl _ w).alloc (Nat.le_refl _) _
    have HNs := Lib.hid (fun (W : World) (hb : Below w.heap.size w W) => hn.below (Nat.le_refl _) hb)
    have HT := Lib.hid (fun (W : World) (hb : Below w.heap.size w W) => ht.below (Nat.le_refl _) hb)
    have HOs := Lib.hid ok2
    have HO4 := Lib.hid ok4
    have HN := Lib.hid (Has.new w 25 [.int .i64 kd, vn, va])
    obtain ⟨an, cn, rfl⟩ := hn.shape
    obtain ⟨aa, ca, rfl⟩ := ht.shape
    have HBW := Lib.hid hbw
    obtain ⟨q, hq⟩ : ∃ q, ns.length = q := ⟨_, rfl⟩
    have HLn := Lib.hid hq
    obtain ⟨m, hm⟩ : ∃ m, ts.length = m := ⟨_, rfl⟩
    have HM := Lib.hid hm
    rw [hq] at ok1
    rw [hm] at ok3
    have hqi : (q : Int) ≤ 140737488355328 := by omega
    have hmi : (m : Int) ≤ 140737488355328 := by omega
    have hn1 := hn0.1
    have hn2 := hn0.2
    have hd2 : ¬ (60 : Int) < d := by omega
    have hd3 : d ≤ 60 := by omega
    have hd4 : 0 ≤ d := by omega
    have HIH := Lib.hid ih
    have HPos := Lib.hid (⟨hd, hr⟩ : d + ((r + 1 : Nat) : Int) = 61 ∧ r + 1 ≤ 61)
    have HRg := Lib.hid (countF_range r)
    have HR : Hid (countF (r + 1) (.mk kd ns ts) n = ts.foldl (fun m a => if 500 < m then m else countF r a m) (namesN ns (w64 (n + (1 + (q : Int)))))) := Lib.hid (by rw [← hq]; rfl)
    generalize countF (r + 1) (.mk kd ns ts) n = R at HR ⊢
    clear h hn ht hok ok4 hbw hq ok2 hn0 hm hd hr ih
    go_enter Tryd.func52, Tryd.ntmps52
    rw [HLn.out, HM.out]
    rw [HLn.out, HM.out] at HBW HN
    go_wp2
    change Code.wp _ _ _ _ (World.alloc w _)
    obtain ⟨n0, hn0⟩ : ∃ n0, wrap64 (n + (1 + (q : Int))) = n0 := ⟨_, rfl⟩
    have hr0 : -9223372036854775808 ≤ n0 ∧ n0 ≤ 9223372036854775807 := by rw [← hn0]; exact w64_range _
    have HA0 : Hid (namesN (ns.drop 0) n0 = namesN ns n0) := Lib.hid rfl
    have HR := Lib.hid (show R = ts.foldl (fun m a => if 500 < m then m else countF r a m) (namesN ns n0) by rw [HR.out]; unfold w64; rw [hn0])
    rw [hn0]
    clear hn0
    generalize World.alloc w (.cells #[.int .i64 kd, .slice an q cn, .slice aa m ca] 25) = w1 at HBW HN ⊢
    have HN2 : Hid (Has w1 w.heap.size 25 [.int .i64 kd, .slice an q cn, .slice aa m ca]) := HN
    generalize hA : w.heap.size = A at HN2 ⊢
    have HAz := Lib.hid hA
    clear hA
    go_loopw [20, 1] (fun i mm wr => ∃ (k : Nat) (x : Int), i = .int .i64 (k : Int) ∧ mm = .int .i64 x ∧ k ≤ q ∧ -9223372036854775808 ≤ x ∧ x ≤ 9223372036854775807 ∧ Hid (wr = w1) ∧ Hid (namesN (ns.drop k) x = namesN ns n0)) (fun i _ _ => q - (intOf i).toNat)
    case atStart => exact ⟨0, n0, rfl, rfl, by omega, hr0.1, hr0.2, Lib.hid rfl, HA0⟩
    case round =>
      obtain ⟨k, x, rfl, rfl, hk, hx1, hx2, HW, HD⟩ := hrel
      obtain rfl := HW.out
      clear HW
      have n1 := HN2.out.cell 1
      have n2 := HN2.out.cell 2
      have ln := HN2.out.lt
      simp at n1 n2
      by_cases hlt : k < q
      · have hi1 : (k : Int) < (q : Int) := by omega
        have hkl : k < ns.length := by rw [HLn.out]; exact hlt
        have HD2 := Lib.hid (namesN_drop (m := x) hkl)
        obtain ⟨b, o, rfl, hb, c0⟩ := (HNs.out _ HBW.out).at k hkl
        have hsz := HOs.out _ (List.getElem_mem hkl)
        generalize ns[k] = s at c0 HD2 hsz
        have hszi : (s.size : Int) ≤ 140737488355328 := by omega
        have hrw := w64_range (x + (s.size : Int) / 100)
        have HD3 : Hid (namesN (ns.drop (k + 1)) (w64 (x + (s.size : Int) / 100)) = namesN ns n0) := Lib.hid (by rw [← HD.out, HD2.out])
        clear HD HD2 n1 n2
        go_wp2
        go_roundw
        case rel => exact ⟨k + 1, w64 (x + (s.size : Int) / 100), by go_num, rfl, by omega, hrw.1, hrw.2, (by first | exact Lib.hid rfl | exact Lib.hid trivial), HD3⟩
        case measure => simp [intOf]; omega
      · have hkq : q = k := by omega
        have HX : Hid (x = namesN ns n0) := Lib.hid (by rw [← HD.out, List.drop_eq_nil_of_le (by rw [HLn.out]; omega)]; rfl)
        subst hkq
        clear HD
        have HRx : Hid ((ts.drop 0).foldl (fun m a => if 500 < m then m else countF r a m) x = R) := Lib.hid (by rw [HR.out, ← HX.out]; rfl)
        clear HR HX
        go_wp2
        go_loopw [35, 1] (fun i mm wr2 => ∃ (k : Nat) (x : Int), i = .int .i64 (k : Int) ∧ mm = .int .i64 x ∧ k ≤ m ∧ -9223372036854775808 ≤ x ∧ x ≤ 9223372036854775807 ∧ Hid (Below w.heap.size w wr2) ∧ Hid ((ts.drop k).foldl (fun m a => if 500 < m then m else countF r a m) x = R)) (fun i _ _ => m - (intOf i).toNat)
        case atStart => exact ⟨0, x, rfl, rfl, by omega, hx1, hx2, HBW, HRx⟩
        case round =>
          clear n1 n2 ln hx1 hx2 HRx
          obtain ⟨k, x, rfl, rfl, hk, hx1, hx2, HB, HD⟩ := hrel
          by_cases hlt : k < m
          · have hi1 : (k : Int) < (m : Int) := by omega
            have hkl : k < ts.length := by rw [HM.out]; exact hlt
            have HD2 := Lib.hid (count_drop (r := r) (m := x) hkl)
            have HSt := Lib.hid (count_stay (r := r) (ts.drop k) x)
            obtain ⟨b, o, vn2, va2, rfl, hb, c0, c1, c2, c3⟩ := (HT.out _ HB.out).at k hkl
            have hKA : Below wr.heap.size wr (wr.alloc (.cells #[.int .i64 ts[k].kind, vn2, va2] 25)) := (Below.refl _ wr).alloc (Nat.le_refl _) _
            have HC3 := Lib.hid (HIH.out ts[k] vn2 va2 x (d + 1) (wr.alloc (.cells #[.int .i64 ts[k].kind, vn2, va2] 25)) (by have := HPos.out; omega) (by have := HPos.out; omega) ⟨hx1, hx2⟩ (HO4.out _ (List.getElem_mem hkl)) (c3.frame (Nat.le_refl _) hKA))
            have hrg := HRg.out ts[k] x
            have HKA := Lib.hid hKA
            obtain ⟨an2, cn2, ab2, cb2, rfl, rfl⟩ := c3.shape
            generalize ts[k] = y at HD2 c0 c1 c2 c3 HC3 HKA hrg
            generalize countF r y x = z at HD2 HC3 hrg
            have HBA := Lib.hid (HB.out.trans (HKA.out.mono HB.out.size))
            clear c3 hkl hKA
            by_cases h5 : 500 < x
            · have HE : Hid (R = x) := Lib.hid (by rw [← HD.out, HSt.out h5])
              obtain rfl := HE.out
              clear HD HD2 HSt HC3
              go_wp2
              go_ret
              exact ⟨rfl, HBA.out⟩
            · have HD3 : Hid ((ts.drop (k + 1)).foldl (fun m a => if 500 < m then m else countF r a m) z = R) := Lib.hid (by rw [← HD.out, HD2.out, if_neg h5])
              clear HD HD2 HSt
              go_wp2_with fail
              refine (HC3.out).mono ?_
              rintro e w3 ⟨rfl, hb3⟩
              have HB3 := Lib.hid (HB.out.trans ((HKA.out.trans (hb3.mono (by simp))).mono HB.out.size))
              clear hb3 HC3
              go_wp2
              go_roundw
              case rel => exact ⟨k + 1, z, by go_num, rfl, by omega, hrg.1, hrg.2, HB3, HD3⟩
              case measure => simp [intOf]; omega
          · have hkm : m = k := by omega
            have HE : Hid (R = x) := Lib.hid (by rw [← HD.out, List.drop_eq_nil_of_le (by rw [HM.out]; omega)]; rfl)
            obtain rfl := HE.out
            subst hkm
            clear HD
            go_wp2
            go_ret
            exact ⟨rfl, HB.out⟩
set_option maxRecDepth 100000 in
set_option maxHeartbeats 4000000 in
theorem few_any (t : Ty) (vn va : Value) (w : World) (hok : TyOk t) (h : TyAt w vn va t) :
    Calls Tryd.prog 30 #[.agg #[.int .i64 t.kind, vn, va]] w (BoolB w (fewV t)) := by
  have hbw : Below w.heap.size w (w.alloc (.cells #[.int .i64 t.kind, vn, va] 25)) := (Below.refl _ w).alloc (Nat.le_refl _) _
  have HC := Lib.hid (count_any 61 t vn va 0 0 _ (by omega) (by omega) (by omega) hok (h.frame (Nat.le_refl _) hbw))
  have HR : Hid (fewV t = decide (countF 61 t 0 ≤ 500)) := Lib.hid rfl
  generalize fewV t = R at HR ⊢
  have HBW := Lib.hid hbw
  obtain ⟨an, cn, aa, ca, rfl, rfl⟩ := h.shape
  generalize countF 61 t 0 = z at HC HR
  clear h hok hbw
  go_enter Tryd.func30, Tryd.ntmps30
  go_wp2_with fail
  refine (HC.out).mono ?_
  rintro e w3 ⟨rfl, hb3⟩
  have HB3 := Lib.hid (HBW.out.trans (hb3.mono (by simp)))
  clear hb3
  go_wp2
  go_ret
  exact ⟨by rw [HR.out]; rfl, HB3.out⟩
end TyD
end Go.Proofs.YthcdbmbimdkcfaaDoor
