/- Which types may be: the document's check. -/
import Derived.Test.YthcdbmbimdkcfaaDoorTyCheck
namespace Go.Proofs.YthcdbmbimdkcfaaDoor
open Go.RowKit ObjM
namespace TyD
open LexD (nameB refName_fn)

inductive RefIs (w : World) : Option Nat → Ending → World → Prop
  | ok (n : Nat) (w' : World) : Below w.heap.size w w' → RefIs w (some n) (.returned (.tuple #[.int .i64 (n : Int), .bool true])) w'
  | no (n : Int) (w' : World) : Below w.heap.size w w' → RefIs w none (.returned (.tuple #[.int .i64 n, .bool false])) w'
theorem ref_bound : ∀ (r : Nat) (t : Ty) (c n : Nat), TyOk t → c ≤ 200000000000000 → refT r t c = some n → n ≤ 200000000000000
  | 0, _, _, _, _, _, h => by cases h
  | r + 1, .mk k ns ts, c, n, hok, hc, h => by
    obtain ⟨_, _, _, hl, hok4⟩ := hok.parts
    have key : ∀ (l : List Ty) (c n : Nat), (∀ a ∈ l, TyOk a) → c ≤ 200000000000000 → l.foldlM (fun c a => refT r a c) c = some n → n ≤ 200000000000000 := by
      intro l
      induction l with
      | nil =>
        intro c n _ hc h
        rw [List.foldlM_nil] at h
        injection h with h
        omega
      | cons a l ih =>
        intro c n ho hc h
        rw [List.foldlM_cons] at h
        obtain ⟨m, h1, h2⟩ := Option.bind_eq_some_iff.1 h
        exact ih m n (fun b hb => ho b (by simp [hb])) (ref_bound r a c m (ho a (by simp)) hc h1) h2
    rw [refT] at h
    split at h
    · rename_i hc1
      rw [decide_eq_true_eq] at hc1
      split at h
      · split at h
        · injection h with h
          omega
        · cases h
      · split at h
        · split at h
          · exact key _ _ _ hok4 (by omega) h
          · cases h
        · split at h
          · split at h
            · exact key _ _ _ hok4 (by omega) h
            · cases h
          · split at h
            · injection h with h
              omega
            · cases h
    · cases h
theorem refFold_drop {r : Nat} {ts : List Ty} {k c : Nat} (hk : k < ts.length) : (ts.drop k).foldlM (fun c a => refT r a c) c = (refT r ts[k] c).bind fun c => (ts.drop (k + 1)).foldlM (fun c a => refT r a c) c := by
  rw [List.drop_eq_getElem_cons hk]
  rfl
theorem bare_drop {ts : List Ty} {k : Nat} (hk : k < ts.length) : memBare (ts.drop k) = (decide (ts[k].names.length = 0) && decide (ts[k].args.length = 0) && memBare (ts.drop (k + 1))) := by
  rw [List.drop_eq_getElem_cons hk]
  rfl
theorem flats_no {ts : List Ty} {k : Nat} (hk : k < ts.length) (h : flatB ts[k].kind = false) : (ts.all fun a => flatB a.kind) = false := by
  cases e : ts.all fun a => flatB a.kind with
  | false => rfl
  | true =>
    rw [List.all_eq_true] at e
    rw [e _ (List.getElem_mem hk)] at h
    cases h
theorem flats_of {ts : List Ty} (h : ∀ (i : Nat) (hi : i < ts.length), flatB ts[i].kind = true) : (ts.all fun a => flatB a.kind) = true := by
  rw [List.all_eq_true]
  intro a ha
  obtain ⟨i, hi, rfl⟩ := List.getElem_of_mem ha
  exact h i hi
set_option maxRecDepth 100000 in
set_option maxHeartbeats 32000000 in
theorem refVisit_any : ∀ (r : Nat) (t : Ty) (c : Nat) (d : Int) (w0 w : World) (vn va : Value), d + (r : Int) = 51 → r ≤ 51 → c ≤ 200000000000000 → TyAt w0 vn va t → TyOk t → Below w0.heap.size w0 w →
    Calls Tryd.prog 51 #[.agg #[.int .i64 t.kind, vn, va], .int .i64 d, .int .i64 (c : Int)] w (RefIs w (refT r t c)) := by
  intro r
  induction r with
  | zero =>
    intro t c d w0 w vn va hd hr hc h hok hB
    obtain ⟨an, cn, aa, ca, rfl, rfl⟩ := h.shape
    have hd2 : (50 : Int) < d := by omega
    have hci : (c : Int) ≤ 200000000000000 := by omega
    have HK : Hid (Below w.heap.size w (w.alloc (.cells #[.int .i64 t.kind, .slice an t.names.length cn, .slice aa t.args.length ca] 25))) := Lib.hid ((Below.refl _ w).alloc (Nat.le_refl _) _)
    clear h hok hB
    rw [refT]
    go_enter Tryd.func51, Tryd.ntmps51
    go_wp2
    exact bodyPost_ret (v := .tuple #[.int .i64 ((c : Int) + 1), .bool false]) (by simp [results, Tryd.results51, go_sem]) rfl (.no _ _ HK.out)
  | succ r ih =>
    intro t c d w0 w vn va hd hr hc h hok hB
    obtain ⟨kd, ns, ts⟩ := t
    obtain ⟨hn, ha⟩ := h.parts
    obtain ⟨hkk, ok1, ok2, ok3, ok4⟩ := hok.parts
    change Calls _ _ #[.agg #[.int .i64 kd, vn, va], _, _] w _
    obtain ⟨an, cn, rfl⟩ := hn.shape
    obtain ⟨aa, ca, rfl⟩ := ha.shape
    have hd2 : ¬ (50 : Int) < d := by omega
    have hd3 : d ≤ 50 := by omega
    have hd4 : 0 ≤ d := by omega
    have hci : (c : Int) ≤ 200000000000000 := by omega
    have h11 : Below w.heap.size w (w.alloc (.cells #[.int .i64 kd, .slice an ns.length cn, .slice aa ts.length ca] 25)) := (Below.refl _ w).alloc (Nat.le_refl _) _
    have HB01 := Lib.hid (hB.trans (h11.mono hB.size))
    have HB11 := Lib.hid h11
    have HN1 := Lib.hid (Has.new w 25 [.int .i64 kd, .slice an ns.length cn, .slice aa ts.length ca])
    have HS := Lib.hid (fun (W : World) (hb : Below w0.heap.size w0 W) => hn.below (Nat.le_refl _) hb)
    have HV := Lib.hid (fun (W : World) (hb : Below w0.heap.size w0 W) => ha.below (Nat.le_refl _) hb)
    have HOk := Lib.hid ok4
    have HOs := Lib.hid ok2
    have HPos := Lib.hid (⟨hd, hr⟩ : d + ((r + 1 : Nat) : Int) = 51 ∧ r + 1 ≤ 51)
    have HIH := Lib.hid ih
    have HR : Hid (refT (r + 1) (.mk kd ns ts) c = if decide (c + 1 ≤ 10000) then
      if kd = 7 then if (decide (1 ≤ r) || decide (ts.length = 0)) && memB 0 ts && memBare ts && decide (ns.length = 0) && decide (2 ≤ ts.length) then some (c + 1 + ts.length) else none
      else if kd = 8 then if decide (ns.length = ts.length) && risingB ns && ts.all (fun a => flatB a.kind) then ts.foldlM (fun c a => refT r a c) (c + 1) else none
      else if kd = 9 then if decide (ns.length = 0) && decide (1 ≤ ts.length) then ts.foldlM (fun c a => refT r a c) (c + 1) else none
      else if flatB kd && decide (ns.length = 0) && decide (ts.length = 0) then some (c + 1) else none
      else none) := Lib.hid rfl
    generalize refT (r + 1) (.mk kd ns ts) c = R at HR ⊢
    clear h hok hB hn ha ok2 ok4 ih hd hr h11
    by_cases hc1 : c + 1 ≤ 10000
    · have hc1i : ¬ (10000 : Int) < (c : Int) + 1 := by omega
      have HR2 := HR.out
      rw [decide_eq_true hc1, if_pos rfl] at HR2
      have HR3 := Lib.hid HR2
      clear HR2 HR
      obtain ⟨n, hn⟩ : ∃ n, ns.length = n := ⟨_, rfl⟩
      obtain ⟨m, hm⟩ : ∃ m, ts.length = m := ⟨_, rfl⟩
      have HNn := Lib.hid hn
      have HM := Lib.hid hm
      rw [hn] at ok1 HN1 HR3 HB01 HB11
      rw [hm] at ok3 HN1 HR3 HB01 HB11
      have hnI : (n : Int) ≤ 140737488355328 := by omega
      have hmI : (m : Int) ≤ 140737488355328 := by omega
      by_cases k7 : kd = 7
      · subst k7
        have HQ : Hid (R = if (decide (1 ≤ r) || decide (m = 0)) && memB 0 ts && memBare ts && decide (n = 0) && decide (2 ≤ m) then some (c + 1 + m) else none) := Lib.hid (by rw [HR3.out, if_pos rfl])
        clear HR3 HS HIH HOk HOs
        go_enter Tryd.func51, Tryd.ntmps51
        rw [hn, hm]
        go_wp2
        clear hn hm
        change Code.wp _ _ _ _ (World.alloc w _)
        generalize World.alloc w (.cells #[.int .i64 7, .slice an n cn, .slice aa m ca] 25) = w1 at HN1 HB01 HB11 ⊢
        generalize w.heap.size = N at HN1 ⊢
        go_loopw [53, 8, 2] (fun i la mn wr => ∃ (k : Nat) (l : Int), i = .int .i64 (k : Int) ∧ la = .int .i64 l ∧ mn = .int .i64 ((c : Int) + 1 + (k : Int)) ∧ k ≤ m ∧ Hid (Below w1.heap.size w1 wr) ∧ Hid ((memB l (ts.drop k) && memBare (ts.drop k)) = (memB 0 ts && memBare ts)) ∧ (k = 0 ∨ 1 ≤ r)) (fun i _ _ _ => m - (intOf i).toNat)
        case atStart => exact ⟨0, 0, rfl, rfl, by go_num, by omega, Lib.hid (Below.refl _ _), Lib.hid rfl, .inl rfl⟩
        case round =>
          obtain ⟨k, l, rfl, rfl, rfl, hk, HB, HQ2, hk1⟩ := hrel
          have hkI : (k : Int) ≤ 140737488355328 := by omega
          by_cases hlt : k < m
          · have hi1 : (k : Int) < (m : Int) := by omega
            have hkl : k < ts.length := by rw [HM.out]; exact hlt
            have HBw := Lib.hid (HB01.out.trans (HB.out.mono HB01.out.size))
            obtain ⟨b, o, vn, vb, rfl, hb, g0, g1, g2, g3⟩ := (HV.out _ HBw.out).at k hkl
            obtain ⟨an', cn', ab, cb, rfl, rfl⟩ := g3.shape
            have HD2 := Lib.hid (memB_drop (la := l) hkl)
            have HD3 := Lib.hid (bare_drop hkl)
            generalize ts[k] = x at HD2 HD3 g0 g1 g2 g3
            obtain ⟨x, xn, xa⟩ := x
            change wr.cell? ⟨b, o + k * 3, none⟩ = some (.int .i64 x) at g0
            change wr.cell? ⟨b, o + k * 3 + 1, none⟩ = some (.slice an' xn.length cn') at g1
            change wr.cell? ⟨b, o + k * 3 + 2, none⟩ = some (.slice ab xa.length cb) at g2
            change Hid (memB l (ts.drop k) = (decide (l < x) && decide (x ≤ 6) && memB x (ts.drop (k + 1)))) at HD2
            change Hid (memBare (ts.drop k) = (decide (xn.length = 0) && decide (xa.length = 0) && memBare (ts.drop (k + 1)))) at HD3
            generalize xn.length = p at *
            generalize xa.length = q at *
            have HBn := Lib.hid (HB11.out.trans ((HB.out.alloc HB.out.size (.cells #[.int .i64 x, .slice an' p cn', .slice ab q cb] 25)).mono HB11.out.size))
            have HBn1 := Lib.hid (HB.out.alloc HB.out.size (.cells #[.int .i64 x, .slice an' p cn', .slice ab q cb] 25))
            clear g3 hkl
            by_cases hr1 : 1 ≤ r
            · have hd50 : ¬ (50 : Int) ≤ d := by have := HPos.out; omega
              have HNo : Hid ((memB l (ts.drop k) && memBare (ts.drop k)) = false → R = none) := Lib.hid (fun h => by
                rw [HQ2.out] at h
                rw [HQ.out]
                have h2 : ((decide (1 ≤ r) || decide (m = 0)) && memB 0 ts && memBare ts && decide (n = 0) && decide (2 ≤ m)) = false := by
                  rw [Bool.and_assoc _ (memB 0 ts) (memBare ts), h]
                  simp
                rw [h2]
                rfl)
              rw [HD2.out, HD3.out] at HNo HQ2
              by_cases h1 : x ≤ l
              · have HF : Hid (R = none) := Lib.hid (HNo.out (by rw [decide_eq_false (by omega)]; rfl))
                obtain rfl := HF.out
                clear HD2 HD3 HNo HQ2 HQ
                go_wp2
                exact bodyPost_ret (v := .tuple #[.int .i64 ((c : Int) + 1 + (k : Int)), .bool false]) (by simp [results, Tryd.results51, go_sem]) rfl (.no _ _ HBn.out)
              by_cases h2 : 6 < x
              · have HF : Hid (R = none) := Lib.hid (HNo.out (by rw [decide_eq_false (show ¬ x ≤ 6 by omega)]; simp))
                obtain rfl := HF.out
                clear HD2 HD3 HNo HQ2 HQ
                go_wp2
                exact bodyPost_ret (v := .tuple #[.int .i64 ((c : Int) + 1 + (k : Int)), .bool false]) (by simp [results, Tryd.results51, go_sem]) rfl (.no _ _ HBn.out)
              by_cases h3 : 0 < p
              · have h3i : (0 : Int) < (p : Int) := by omega
                have HF : Hid (R = none) := Lib.hid (HNo.out (by rw [decide_eq_false (show ¬ p = 0 by omega)]; simp))
                obtain rfl := HF.out
                clear HD2 HD3 HNo HQ2 HQ
                go_wp2
                exact bodyPost_ret (v := .tuple #[.int .i64 ((c : Int) + 1 + (k : Int)), .bool false]) (by simp [results, Tryd.results51, go_sem]) rfl (.no _ _ HBn.out)
              by_cases h4 : 0 < q
              · have h4i : (0 : Int) < (q : Int) := by omega
                have h3i : ¬ (0 : Int) < (p : Int) := by omega
                have HF : Hid (R = none) := Lib.hid (HNo.out (by rw [decide_eq_false (show ¬ q = 0 by omega)]; simp))
                obtain rfl := HF.out
                clear HD2 HD3 HNo HQ2 HQ
                go_wp2
                exact bodyPost_ret (v := .tuple #[.int .i64 ((c : Int) + 1 + (k : Int)), .bool false]) (by simp [results, Tryd.results51, go_sem]) rfl (.no _ _ HBn.out)
              · have h4i : ¬ (0 : Int) < (q : Int) := by omega
                have h3i : ¬ (0 : Int) < (p : Int) := by omega
                have HQ3 : Hid ((memB x (ts.drop (k + 1)) && memBare (ts.drop (k + 1))) = (memB 0 ts && memBare ts)) := Lib.hid (by
                  rw [← HQ2.out, decide_eq_true (show l < x by omega), decide_eq_true (show x ≤ 6 by omega), decide_eq_true (show p = 0 by omega), decide_eq_true (show q = 0 by omega)]
                  simp)
                clear HD2 HD3 HNo HQ2
                go_wp2
                go_roundw
                case rel => exact ⟨k + 1, x, by go_num, rfl, by go_num, by omega, HBn1, HQ3, .inr hr1⟩
                case measure => simp [intOf]; omega
            · have hd50 : (50 : Int) ≤ d := by have := HPos.out; omega
              have HF : Hid (R = none) := Lib.hid (by rw [HQ.out, decide_eq_false hr1, decide_eq_false (show ¬ m = 0 by omega)]; rfl)
              obtain rfl := HF.out
              clear HD2 HD3 HQ2 HQ
              go_wp2
              exact bodyPost_ret (v := .tuple #[.int .i64 ((c : Int) + 1 + (k : Int)), .bool false]) (by simp [results, Tryd.results51, go_sem]) rfl (.no _ _ HBn.out)
          · have hkm : k = m := by omega
            have HQ3 : Hid ((memB 0 ts && memBare ts) = true) := Lib.hid (by
              rw [← HQ2.out, List.drop_eq_nil_of_le (by rw [HM.out]; omega)]
              rfl)
            have HN2 := HN1.out.below HB.out HN1.out.lt
            have n1 := HN2.cell 1
            have n2 := HN2.cell 2
            have ln := HN2.lt
            simp at n1 n2
            have HQ4 : Hid (R = if decide (n = 0) && decide (2 ≤ m) then some (c + 1 + m) else none) := Lib.hid (by
              rw [HQ.out, Bool.and_assoc (_ || _) (memB 0 ts), HQ3.out, Bool.and_true]
              by_cases hm2 : 2 ≤ m
              · rw [decide_eq_true (show 1 ≤ r by omega)]
                rfl
              · rw [decide_eq_false hm2, Bool.and_false, Bool.and_false])
            clear HN2 HQ HQ2 HQ3
            subst hkm
            by_cases h0 : n = 0
            · subst h0
              by_cases h2 : 2 ≤ k
              · have h2b : decide ((2 : Int) ≤ (k : Int)) = true := by simp; omega
                have HF : Hid (R = some (c + 1 + k)) := Lib.hid (by rw [HQ4.out, decide_eq_true h2]; rfl)
                obtain rfl := HF.out
                clear HQ4
                go_wp2
                go_quiet (fail)
                go_wp2
                have hc2 : ((c : Int) + 1 + (k : Int)) = ((c + 1 + k : Nat) : Int) := by omega
                exact bodyPost_ret (v := .tuple #[.int .i64 ((c : Int) + 1 + (k : Int)), .bool true]) (by simp [results, Tryd.results51, go_sem]) rfl (by rw [hc2]; exact .ok _ _ (drewN_below (HB11.out.trans (HB.out.mono HB11.out.size)) _))
              · have h2b : decide ((2 : Int) ≤ (k : Int)) = false := by simp; omega
                have HF : Hid (R = none) := Lib.hid (by rw [HQ4.out, decide_eq_false h2]; rfl)
                obtain rfl := HF.out
                clear HQ4
                go_wp2
                go_quiet (fail)
                go_wp2
                exact bodyPost_ret (v := .tuple #[.int .i64 ((c : Int) + 1 + (k : Int)), .bool false]) (by simp [results, Tryd.results51, go_sem]) rfl (.no _ _ (drewN_below (HB11.out.trans (HB.out.mono HB11.out.size)) _))
            · have h0b : ((n : Int) == 0) = false := by simp; omega
              have HF : Hid (R = none) := Lib.hid (by rw [HQ4.out, decide_eq_false h0]; rfl)
              obtain rfl := HF.out
              clear HQ4
              go_wp2
              go_quiet (fail)
              go_wp2
              exact bodyPost_ret (v := .tuple #[.int .i64 ((c : Int) + 1 + (k : Int)), .bool false]) (by simp [results, Tryd.results51, go_sem]) rfl (.no _ _ (drewN_below (HB11.out.trans (HB.out.mono HB11.out.size)) _))

      · by_cases k8 : kd = 8
        · subst k8
          have HQ : Hid (R = if decide (n = m) && risingB ns && ts.all (fun a => flatB a.kind) then ts.foldlM (fun c a => refT r a c) (c + 1) else none) := Lib.hid (by rw [HR3.out, if_neg (by omega), if_pos rfl])
          clear HR3
          by_cases h0 : n = m
          · subst h0
            have h0b : ((n : Int) != (n : Int)) = false := by simp
            have HNo : Hid (risingB ns = false ∨ (ts.all fun a => flatB a.kind) = false → R = none) := Lib.hid (fun h => by
              rw [HQ.out]
              rcases h with h | h <;> rw [h] <;> simp)
            have HYes : Hid (risingB ns = true → (ts.all fun a => flatB a.kind) = true → R = ts.foldlM (fun c a => refT r a c) (c + 1)) := Lib.hid (fun h h' => by
              rw [HQ.out, h, h']
              simp)
            clear HQ
            go_enter Tryd.func51, Tryd.ntmps51
            rw [hn, hm]
            clear hn hm
            go_wp2
            change Code.wp _ _ _ _ (World.alloc w _)
            generalize World.alloc w (.cells #[.int .i64 8, .slice an n cn, .slice aa n ca] 25) = w1 at HN1 HB01 HB11 ⊢
            generalize w.heap.size = N at HN1 ⊢
            go_loopw [112] (fun i wr => ∃ k : Nat, i = .int .i64 (k : Int) ∧ k ≤ n ∧ Hid (Below w1.heap.size w1 wr) ∧ Hid (risingK ns k = true) ∧ Hid (∀ (j : Nat) (hj : j < ts.length), j < k → flatB ts[j].kind = true)) (fun i _ => n - (intOf i).toNat)
            case atStart => exact ⟨0, rfl, by omega, Lib.hid (Below.refl _ _), Lib.hid rfl, Lib.hid (fun j hj h => by omega)⟩
            case round =>
              obtain ⟨k, rfl, hk, HB, HK, HFs⟩ := hrel
              by_cases hlt : k < n
              · have hi1 : (k : Int) < (n : Int) := by omega
                have hkl : k < ns.length := by rw [HNn.out]; exact hlt
                have hkt : k < ts.length := by rw [HM.out]; exact hlt
                have HBw := Lib.hid (HB01.out.trans (HB.out.mono HB01.out.size))
                obtain ⟨b, o, rfl, hb, c0⟩ := (HS.out _ HBw.out).at k hkl
                obtain ⟨b2, o2, vn, va, rfl, hb2, g0, g1, g2, g3⟩ := (HV.out _ HBw.out).at k hkt
                have HSz := Lib.hid (HOs.out _ (List.getElem_mem hkl))
                have HO : Hid (okAt ns k = (nameB ns[k] && (decide (k = 0) || decide ((ns.getD (k - 1) ⟨#[]⟩).data.toList < ns[k].data.toList)))) := Lib.hid (by
                  unfold okAt
                  simp only [List.getD, List.getElem?_eq_getElem hkl, Option.getD_some]
                  rfl)
                have HNm := fun W => Lib.hid (refName_fn ns[k] HSz.out W)
                have HAf : Hid (∀ W, Below wr.heap.size wr W → W.cell? ⟨N, 1, none⟩ = some (.slice (some ⟨b, o, none⟩) n cn) ∧ W.cell? ⟨N, 2, none⟩ = some (.slice (some ⟨b2, o2, none⟩) n ca) ∧ W.cell? ⟨b2, o2 + k * 3, none⟩ = some (.int .i64 ts[k].kind) ∧ N < W.heap.size) := Lib.hid (fun W hW => by
                  have HN2 := HN1.out.below (HB.out.trans (hW.mono HB.out.size)) HN1.out.lt
                  exact ⟨HN2.cell 1, HN2.cell 2, (hW.cell (p := ⟨b2, _, none⟩) hb2).trans g0, HN2.lt⟩)
                have HP : Hid (1 ≤ k → (ns.getD (k - 1) ⟨#[]⟩) = ns[k - 1]'(by omega) ∧ ∀ W, Below wr.heap.size wr W → W.cell? ⟨b, o + (k - 1), none⟩ = some (.string (ns[k - 1]'(by omega)))) := Lib.hid (fun h1 => ⟨by simp only [List.getD, List.getElem?_eq_getElem (show k - 1 < ns.length by omega), Option.getD_some], fun W hW => by
                  obtain ⟨b2, o2, e, _, c⟩ := (HS.out W (HBw.out.trans (hW.mono HBw.out.size))).at (k - 1) (by omega)
                  injection e with e
                  injection e with e1 e2
                  subst e1 e2
                  exact c⟩)
                have HFl := fun W => Lib.hid (refFlat_any ts[k].kind W)
                have HFn : Hid (flatB ts[k].kind = false → R = none) := Lib.hid (fun h => HNo.out (.inr (flats_no hkt h)))
                have HFy : Hid (flatB ts[k].kind = true → ∀ (j : Nat) (hj : j < ts.length), j < k + 1 → flatB ts[j].kind = true) := Lib.hid (fun h j hj h2 => by
                  by_cases e : j = k
                  · subst e
                    exact h
                  · exact HFs.out j hj (by omega))
                generalize ts[k].kind = kx at HAf HFl HFn HFy g0
                obtain ⟨fq, hfq⟩ : ∃ fq, flatB kx = fq := ⟨_, rfl⟩
                rw [hfq] at HFl HFn HFy
                generalize ns[k] = s at c0 HSz HO HNm
                obtain ⟨q, hq⟩ : ∃ q, nameB s = q := ⟨_, rfl⟩
                rw [hq] at HO HNm
                clear hq hfq g0 g1 g2 g3
                cases q
                · have HF : Hid (R = none) := Lib.hid (HNo.out (.inl (rising_no hkl (by rw [HO.out]; rfl))))
                  obtain rfl := HF.out
                  clear HP HO hkl hkt HFn HFy
                  go_wp2_with fail
                  refine ((HNm _).out).mono ?_
                  rintro e w3 ⟨rfl, hb3⟩
                  have HB3 := Lib.hid (HB.out.trans (hb3.mono HB.out.size))
                  clear hb3
                  go_wp2
                  exact bodyPost_ret (v := .tuple #[.int .i64 ((c : Int) + 1), .bool false]) (by simp [results, Tryd.results51, go_sem]) rfl (.no _ _ (HB11.out.trans (HB3.out.mono HB11.out.size)))
                · by_cases h0 : k = 0
                  · subst h0
                    rw [Nat.add_zero] at c0
                    have HRn : Hid (risingK ns (0 + 1) = true) := Lib.hid (rising_next HK.out (by rw [HO.out]; rfl))
                    clear HP HO hkl hkt
                    go_wp2_with fail
                    refine ((HNm _).out).mono ?_
                    rintro e w3 ⟨rfl, hb3⟩
                    have HB3 := Lib.hid (HB.out.trans (hb3.mono HB.out.size))
                    obtain ⟨n1, n2, gk, ln⟩ := HAf.out w3 hb3
                    rw [show 0 * 3 = 0 by rfl, Nat.add_zero] at gk
                    clear hb3
                    cases fq
                    · have HF : Hid (R = none) := Lib.hid (HFn.out rfl)
                      obtain rfl := HF.out
                      clear HFn HFy
                      go_wp2_with fail
                      refine ((HFl _).out).mono ?_
                      rintro e w4 ⟨rfl, rfl⟩
                      go_wp2
                      exact bodyPost_ret (v := .tuple #[.int .i64 ((c : Int) + 1), .bool false]) (by simp [results, Tryd.results51, go_sem]) rfl (.no _ _ (HB11.out.trans (HB3.out.mono HB11.out.size)))
                    · have HFz := Lib.hid (HFy.out rfl)
                      clear HFn HFy
                      go_wp2_with fail
                      refine ((HFl _).out).mono ?_
                      rintro e w4 ⟨rfl, rfl⟩
                      go_wp2
                      go_roundw
                      case rel => exact ⟨0 + 1, by go_num, by omega, HB3, HRn, HFz⟩
                      case measure => simp [intOf]; omega
                  · obtain ⟨e1, e2⟩ := HP.out (by omega)
                    have HO2 := HO.out
                    rw [e1, decide_eq_false h0, Bool.true_and, Bool.false_or] at HO2
                    have HO3 := Lib.hid HO2
                    have HE := Lib.hid e2
                    have hle := le_str s (ns[k - 1]'(by omega))
                    obtain ⟨j, rfl⟩ : ∃ j, k = j + 1 := ⟨k - 1, by omega⟩
                    simp only [Nat.add_sub_cancel] at HO3 HE hle
                    generalize ns[j]'(by omega) = p at HO3 HE hle
                    obtain ⟨lt, hlt2⟩ : ∃ lt, decide (p.data.toList < s.data.toList) = lt := ⟨_, rfl⟩
                    rw [hlt2] at HO3 hle
                    have hj0 : (0 : Int) < ((j + 1 : Nat) : Int) := by omega
                    have hj2 : (j : Int) < (n : Int) := by omega
                    have hj3 : ((j + 1 : Nat) : Int) - 1 = (j : Int) := by omega
                    clear HP HO HO2 hlt2 e1 e2
                    cases lt
                    · have HF : Hid (R = none) := Lib.hid (HNo.out (.inl (rising_no hkl HO3.out)))
                      obtain rfl := HF.out
                      clear HO3 hkl hkt HFn HFy
                      simp only [Bool.not_false] at hle
                      go_wp2_with fail
                      refine ((HNm _).out).mono ?_
                      rintro e w3 ⟨rfl, hb3⟩
                      have HB3 := Lib.hid (HB.out.trans (hb3.mono HB.out.size))
                      have cp := HE.out w3 hb3
                      obtain ⟨n1, n2, gk, ln⟩ := HAf.out w3 hb3
                      clear hb3
                      go_wp2
                      exact bodyPost_ret (v := .tuple #[.int .i64 ((c : Int) + 1), .bool false]) (by simp [results, Tryd.results51, go_sem]) rfl (.no _ _ (HB11.out.trans (HB3.out.mono HB11.out.size)))
                    · have HRn : Hid (risingK ns (j + 1 + 1) = true) := Lib.hid (rising_next HK.out HO3.out)
                      clear HO3 hkl hkt
                      simp only [Bool.not_true] at hle
                      go_wp2_with fail
                      refine ((HNm _).out).mono ?_
                      rintro e w3 ⟨rfl, hb3⟩
                      have HB3 := Lib.hid (HB.out.trans (hb3.mono HB.out.size))
                      have cp := HE.out w3 hb3
                      obtain ⟨n1, n2, gk, ln⟩ := HAf.out w3 hb3
                      clear hb3
                      cases fq
                      · have HF : Hid (R = none) := Lib.hid (HFn.out rfl)
                        obtain rfl := HF.out
                        clear HFn HFy
                        go_wp2_with fail
                        refine ((HFl _).out).mono ?_
                        rintro e w4 ⟨rfl, rfl⟩
                        go_wp2
                        exact bodyPost_ret (v := .tuple #[.int .i64 ((c : Int) + 1), .bool false]) (by simp [results, Tryd.results51, go_sem]) rfl (.no _ _ (HB11.out.trans (HB3.out.mono HB11.out.size)))
                      · have HFz := Lib.hid (HFy.out rfl)
                        clear HFn HFy
                        go_wp2_with fail
                        refine ((HFl _).out).mono ?_
                        rintro e w4 ⟨rfl, rfl⟩
                        go_wp2
                        go_roundw
                        case rel => exact ⟨j + 1 + 1, by go_num, by omega, HB3, HRn, HFz⟩
                        case measure => simp [intOf]; omega
              · have hkm : k = n := by omega
                have hkm2 := hkm.symm
                subst hkm2
                have HF : Hid (R = ts.foldlM (fun c a => refT r a c) (c + 1)) := Lib.hid (HYes.out (by unfold risingB; rw [HNn.out]; exact HK.out) (flats_of fun i hi => HFs.out i hi (by rw [HM.out] at hi; exact hi)))
                have HN2 := HN1.out.below HB.out HN1.out.lt
                have n1 := HN2.cell 1
                have n2 := HN2.cell 2
                have ln := HN2.lt
                simp at n1 n2
                have HBs := HB
                clear HN2 HNo HYes
                go_wp2
                go_loopw [162, 2] (fun i mn wr => ∃ (k c' : Nat), i = .int .i64 (k : Int) ∧ mn = .int .i64 (c' : Int) ∧ k ≤ n ∧ c' ≤ 200000000000000 ∧ Hid (Below w1.heap.size w1 wr) ∧ Hid ((ts.drop k).foldlM (fun c a => refT r a c) c' = R)) (fun i _ _ => n - (intOf i).toNat)
                case atStart => exact ⟨0, c + 1, rfl, by go_num, by omega, by omega, HBs, Lib.hid HF.out.symm⟩
                case round =>
                  obtain ⟨k, c', rfl, rfl, hk, hc', HB, HD⟩ := hrel
                  have hci' : (c' : Int) ≤ 200000000000000 := by omega
                  by_cases hlt : k < n
                  · have hi1 : (k : Int) < (n : Int) := by omega
                    have hkl : k < ts.length := by rw [HM.out]; exact hlt
                    have HD2 := Lib.hid (refFold_drop (r := r) (c := c') hkl)
                    have HBw := Lib.hid (HB01.out.trans (HB.out.mono HB01.out.size))
                    obtain ⟨b, o, vn, vb, rfl, hb, g0, g1, g2, g3⟩ := (HV.out _ HBw.out).at k hkl
                    have hOx := HOk.out _ (List.getElem_mem hkl)
                    have hKA : Below wr.heap.size wr (wr.alloc (.cells #[.int .i64 ts[k].kind, vn, vb] 25)) := (Below.refl _ wr).alloc (Nat.le_refl _) _
                    have HC3 := Lib.hid (HIH.out ts[k] c' (d + 1) w0 (wr.alloc (.cells #[.int .i64 ts[k].kind, vn, vb] 25)) vn vb (by have := HPos.out; omega) (by have := HPos.out; omega) hc'
                      (by
                        obtain ⟨b', o', vn', vb', e, -, k0, k1, k2, k3⟩ := (HV.out _ (Below.refl _ _)).at k hkl
                        injection e with e
                        injection e with e1 e2
                        subst e1 e2
                        have q1 := (HBw.out.cell (p := ⟨b, o + k * 3 + 1, none⟩) (cell_spot k1).2).symm.trans g1
                        have q2 := (HBw.out.cell (p := ⟨b, o + k * 3 + 2, none⟩) (cell_spot k2).2).symm.trans g2
                        rw [k1] at q1
                        rw [k2] at q2
                        injection q1 with q1
                        injection q2 with q2
                        rw [← q1, ← q2]
                        exact k3) hOx (HBw.out.trans (hKA.mono HBw.out.size)))
                    obtain ⟨an', cn', ab, cb, rfl, rfl⟩ := g3.shape
                    have HKA := Lib.hid hKA
                    have HBd := Lib.hid (fun (n : Nat) (hn : refT r ts[k] c' = some n) => ref_bound r ts[k] c' n hOx hc' hn)
                    generalize ts[k] = x at HD2 g0 g1 g2 g3 HC3 HKA HBd
                    obtain ⟨oc, hoc⟩ : ∃ oc, refT r x c' = oc := ⟨_, rfl⟩
                    rw [hoc] at HD2 HC3 HBd
                    clear hkl hKA hOx g3 hoc
                    go_wp2_with fail
                    refine (HC3.out).mono ?_
                    intro e w3 hv
                    cases hv with
                    | ok n _ hb3 =>
                      have HB3 := Lib.hid (HB.out.trans ((HKA.out.trans (hb3.mono (by simp))).mono HB.out.size))
                      have hn9 := HBd.out n rfl
                      have HE : Hid ((ts.drop (k + 1)).foldlM (fun c a => refT r a c) n = R) := Lib.hid (by rw [← HD.out, HD2.out]; rfl)
                      clear hb3 HD HD2 HC3
                      go_wp2
                      go_roundw
                      case rel => exact ⟨k + 1, n, by go_num, rfl, by omega, hn9, HB3, HE⟩
                      case measure => simp [intOf]; omega
                    | no n _ hb3 =>
                      have HB3 := Lib.hid (HB.out.trans ((HKA.out.trans (hb3.mono (by simp))).mono HB.out.size))
                      have HE : Hid (R = none) := Lib.hid (by rw [← HD.out, HD2.out]; rfl)
                      obtain rfl := HE.out
                      clear hb3 HD HD2 HC3
                      go_wp2
                      exact bodyPost_ret (v := .tuple #[.int .i64 n, .bool false]) (by simp [results, Tryd.results51, go_sem]) rfl (.no _ _ (HB11.out.trans (HB3.out.mono HB11.out.size)))
                  · have hkm : k = n := by omega
                    have HE : Hid (R = some c') := Lib.hid (by rw [← HD.out, List.drop_eq_nil_of_le (by rw [HM.out]; omega)]; rfl)
                    obtain rfl := HE.out
                    subst hkm
                    go_wp2
                    exact bodyPost_ret (v := .tuple #[.int .i64 (c' : Int), .bool true]) (by simp [results, Tryd.results51, go_sem]) rfl (.ok _ _ (HB11.out.trans (HB.out.mono HB11.out.size)))
          · have h0b : ((n : Int) != (m : Int)) = true := by simp; omega
            have HF : Hid (R = none) := Lib.hid (by rw [HQ.out, decide_eq_false h0]; rfl)
            obtain rfl := HF.out
            clear HQ
            go_enter Tryd.func51, Tryd.ntmps51
            rw [hn, hm]
            go_wp2
            exact bodyPost_ret (v := .tuple #[.int .i64 ((c : Int) + 1), .bool false]) (by simp [results, Tryd.results51, go_sem]) rfl (.no _ _ HB11.out)

        · by_cases k9 : kd = 9
          · subst k9
            have HQ : Hid (R = if decide (n = 0) && decide (1 ≤ m) then ts.foldlM (fun c a => refT r a c) (c + 1) else none) := Lib.hid (by rw [HR3.out, if_neg (by omega), if_neg (by omega), if_pos rfl])
            clear HR3 HS HOs
            by_cases h0 : n = 0
            · by_cases h1 : m = 0
              · subst h0 h1
                have HF : Hid (R = none) := Lib.hid HQ.out
                obtain rfl := HF.out
                clear HQ
                go_enter Tryd.func51, Tryd.ntmps51
                rw [hn, hm]
                go_wp2
                exact bodyPost_ret (v := .tuple #[.int .i64 ((c : Int) + 1), .bool false]) (by simp [results, Tryd.results51, go_sem]) rfl (.no _ _ HB11.out)
              · have h1b : ((m : Int) == 0) = false := by simp; omega
                have HF : Hid (R = ts.foldlM (fun c a => refT r a c) (c + 1)) := Lib.hid (by rw [HQ.out, decide_eq_true h0, decide_eq_true (show 1 ≤ m by omega)]; rfl)
                subst h0
                clear HQ
                go_enter Tryd.func51, Tryd.ntmps51
                rw [hn, hm]
                clear hn hm
                go_wp2
                change Code.wp _ _ _ _ (World.alloc w _)
                generalize World.alloc w (.cells #[.int .i64 9, .slice an 0 cn, .slice aa m ca] 25) = w1 at HN1 HB01 HB11 ⊢
                generalize w.heap.size = N at HN1 ⊢
                have HBs := Lib.hid (Below.refl w1.heap.size w1)
                go_loopw [162, 2] (fun i mn wr => ∃ (k c' : Nat), i = .int .i64 (k : Int) ∧ mn = .int .i64 (c' : Int) ∧ k ≤ m ∧ c' ≤ 200000000000000 ∧ Hid (Below w1.heap.size w1 wr) ∧ Hid ((ts.drop k).foldlM (fun c a => refT r a c) c' = R)) (fun i _ _ => m - (intOf i).toNat)
                case atStart => exact ⟨0, c + 1, rfl, by go_num, by omega, by omega, HBs, Lib.hid HF.out.symm⟩
                case round =>
                  obtain ⟨k, c', rfl, rfl, hk, hc', HB, HD⟩ := hrel
                  have hci' : (c' : Int) ≤ 200000000000000 := by omega
                  by_cases hlt : k < m
                  · have hi1 : (k : Int) < (m : Int) := by omega
                    have hkl : k < ts.length := by rw [HM.out]; exact hlt
                    have HD2 := Lib.hid (refFold_drop (r := r) (c := c') hkl)
                    have HBw := Lib.hid (HB01.out.trans (HB.out.mono HB01.out.size))
                    obtain ⟨b, o, vn, vb, rfl, hb, g0, g1, g2, g3⟩ := (HV.out _ HBw.out).at k hkl
                    have hOx := HOk.out _ (List.getElem_mem hkl)
                    have hKA : Below wr.heap.size wr (wr.alloc (.cells #[.int .i64 ts[k].kind, vn, vb] 25)) := (Below.refl _ wr).alloc (Nat.le_refl _) _
                    have HC3 := Lib.hid (HIH.out ts[k] c' (d + 1) w0 (wr.alloc (.cells #[.int .i64 ts[k].kind, vn, vb] 25)) vn vb (by have := HPos.out; omega) (by have := HPos.out; omega) hc'
                      (by
                        obtain ⟨b', o', vn', vb', e, -, k0, k1, k2, k3⟩ := (HV.out _ (Below.refl _ _)).at k hkl
                        injection e with e
                        injection e with e1 e2
                        subst e1 e2
                        have q1 := (HBw.out.cell (p := ⟨b, o + k * 3 + 1, none⟩) (cell_spot k1).2).symm.trans g1
                        have q2 := (HBw.out.cell (p := ⟨b, o + k * 3 + 2, none⟩) (cell_spot k2).2).symm.trans g2
                        rw [k1] at q1
                        rw [k2] at q2
                        injection q1 with q1
                        injection q2 with q2
                        rw [← q1, ← q2]
                        exact k3) hOx (HBw.out.trans (hKA.mono HBw.out.size)))
                    obtain ⟨an', cn', ab, cb, rfl, rfl⟩ := g3.shape
                    have HKA := Lib.hid hKA
                    have HBd := Lib.hid (fun (n : Nat) (hn : refT r ts[k] c' = some n) => ref_bound r ts[k] c' n hOx hc' hn)
                    generalize ts[k] = x at HD2 g0 g1 g2 g3 HC3 HKA HBd
                    obtain ⟨oc, hoc⟩ : ∃ oc, refT r x c' = oc := ⟨_, rfl⟩
                    rw [hoc] at HD2 HC3 HBd
                    clear hkl hKA hOx g3 hoc
                    go_wp2_with fail
                    refine (HC3.out).mono ?_
                    intro e w3 hv
                    cases hv with
                    | ok n _ hb3 =>
                      have HB3 := Lib.hid (HB.out.trans ((HKA.out.trans (hb3.mono (by simp))).mono HB.out.size))
                      have hn9 := HBd.out n rfl
                      have HE : Hid ((ts.drop (k + 1)).foldlM (fun c a => refT r a c) n = R) := Lib.hid (by rw [← HD.out, HD2.out]; rfl)
                      clear hb3 HD HD2 HC3
                      go_wp2
                      go_roundw
                      case rel => exact ⟨k + 1, n, by go_num, rfl, by omega, hn9, HB3, HE⟩
                      case measure => simp [intOf]; omega
                    | no n _ hb3 =>
                      have HB3 := Lib.hid (HB.out.trans ((HKA.out.trans (hb3.mono (by simp))).mono HB.out.size))
                      have HE : Hid (R = none) := Lib.hid (by rw [← HD.out, HD2.out]; rfl)
                      obtain rfl := HE.out
                      clear hb3 HD HD2 HC3
                      go_wp2
                      exact bodyPost_ret (v := .tuple #[.int .i64 n, .bool false]) (by simp [results, Tryd.results51, go_sem]) rfl (.no _ _ (HB11.out.trans (HB3.out.mono HB11.out.size)))
                  · have hkm : k = m := by omega
                    have HE : Hid (R = some c') := Lib.hid (by rw [← HD.out, List.drop_eq_nil_of_le (by rw [HM.out]; omega)]; rfl)
                    obtain rfl := HE.out
                    subst hkm
                    go_wp2
                    exact bodyPost_ret (v := .tuple #[.int .i64 (c' : Int), .bool true]) (by simp [results, Tryd.results51, go_sem]) rfl (.ok _ _ (HB11.out.trans (HB.out.mono HB11.out.size)))

            · have h0i : (0 : Int) < (n : Int) := by omega
              have HF : Hid (R = none) := Lib.hid (by rw [HQ.out, decide_eq_false h0]; rfl)
              obtain rfl := HF.out
              clear HQ
              go_enter Tryd.func51, Tryd.ntmps51
              rw [hn, hm]
              go_wp2
              exact bodyPost_ret (v := .tuple #[.int .i64 ((c : Int) + 1), .bool false]) (by simp [results, Tryd.results51, go_sem]) rfl (.no _ _ HB11.out)
          · have HQ : Hid (R = if flatB kd && decide (n = 0) && decide (m = 0) then some (c + 1) else none) := Lib.hid (by rw [HR3.out, if_neg k7, if_neg k8, if_neg k9])
            clear HR3 HS HV HIH HOk HOs
            by_cases hf : 0 ≤ kd ∧ kd ≤ 6
            · have hcs : kd = 0 ∨ kd = 1 ∨ kd = 2 ∨ kd = 3 ∨ kd = 4 ∨ kd = 5 ∨ kd = 6 := by omega
              by_cases h0 : n = 0
              · by_cases h1 : m = 0
                · subst h0 h1
                  have HF : Hid (R = some (c + 1)) := Lib.hid (by rw [HQ.out]; simp [flatB]; omega)
                  obtain rfl := HF.out
                  clear HQ k7 k8 k9 hf
                  rcases hcs with rfl | rfl | rfl | rfl | rfl | rfl | rfl
                  all_goals
                    go_enter Tryd.func51, Tryd.ntmps51
                    rw [hn, hm]
                    go_wp2
                    go_quiet (fail)
                    go_wp2
                    exact bodyPost_ret (v := .tuple #[.int .i64 ((c : Int) + 1), .bool true]) (by simp [results, Tryd.results51, go_sem]) rfl (.ok (c + 1) _ (drewN_below HB11.out _))
                · have h1b : ((m : Int) == 0) = false := by simp; omega
                  subst h0
                  have HF : Hid (R = none) := Lib.hid (by rw [HQ.out, decide_eq_false h1]; simp)
                  obtain rfl := HF.out
                  clear HQ k7 k8 k9 hf
                  rcases hcs with rfl | rfl | rfl | rfl | rfl | rfl | rfl
                  all_goals
                    go_enter Tryd.func51, Tryd.ntmps51
                    rw [hn, hm]
                    go_wp2
                    go_quiet (fail)
                    go_wp2
                    exact bodyPost_ret (v := .tuple #[.int .i64 ((c : Int) + 1), .bool false]) (by simp [results, Tryd.results51, go_sem]) rfl (.no _ _ (drewN_below HB11.out _))
              · have h0b : ((n : Int) == 0) = false := by simp; omega
                have HF : Hid (R = none) := Lib.hid (by rw [HQ.out, decide_eq_false h0]; simp)
                obtain rfl := HF.out
                clear HQ k7 k8 k9 hf
                rcases hcs with rfl | rfl | rfl | rfl | rfl | rfl | rfl
                all_goals
                  go_enter Tryd.func51, Tryd.ntmps51
                  rw [hn, hm]
                  go_wp2
                  go_quiet (fail)
                  go_wp2
                  exact bodyPost_ret (v := .tuple #[.int .i64 ((c : Int) + 1), .bool false]) (by simp [results, Tryd.results51, go_sem]) rfl (.no _ _ (drewN_below HB11.out _))
            · have e0 : (kd == 0) = false := by simp; omega
              have e1 : (kd == 1) = false := by simp; omega
              have e2 : (kd == 2) = false := by simp; omega
              have e3 : (kd == 3) = false := by simp; omega
              have e4 : (kd == 4) = false := by simp; omega
              have e5 : (kd == 5) = false := by simp; omega
              have e6 : (kd == 6) = false := by simp; omega
              have e7 : (kd == 7) = false := by simp; omega
              have e8 : (kd == 8) = false := by simp; omega
              have e9 : (kd == 9) = false := by simp; omega
              have HF : Hid (R = none) := Lib.hid (by rw [HQ.out, show flatB kd = false by (unfold flatB; simp; omega)]; rfl)
              obtain rfl := HF.out
              clear HQ k7 k8 k9 hf
              go_enter Tryd.func51, Tryd.ntmps51
              rw [hn, hm]
              go_wp2
              exact bodyPost_ret (v := .tuple #[.int .i64 ((c : Int) + 1), .bool false]) (by simp [results, Tryd.results51, go_sem]) rfl (.no _ _ HB11.out)
    · have hc1i : (10000 : Int) < (c : Int) + 1 := by omega
      have HF : Hid (R = none) := Lib.hid (by rw [HR.out, decide_eq_false hc1]; rfl)
      obtain rfl := HF.out
      clear HR
      go_enter Tryd.func51, Tryd.ntmps51
      go_wp2
      exact bodyPost_ret (v := .tuple #[.int .i64 ((c : Int) + 1), .bool false]) (by simp [results, Tryd.results51, go_sem]) rfl (.no _ _ HB11.out)
end TyD
end Go.Proofs.YthcdbmbimdkcfaaDoor
