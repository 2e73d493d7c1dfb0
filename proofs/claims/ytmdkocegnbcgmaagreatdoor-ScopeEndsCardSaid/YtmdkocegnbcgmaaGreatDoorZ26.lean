/- The document's check of a tree. -/
import Derived.Test.YtmdkocegnbcgmaaGreatDoorZ24
import Derived.Test.YtmdkocegnbcgmaaGreatDoorZ25
namespace Go.Proofs.YtmdkocegnbcgmaaGreatDoor
open Go.RowKit ObjM
namespace TreeD

def stepO (T : Option (List Bool)) (ok : Bool) : Option (List Bool) :=
  match T with
  | none => none
  | some u' => if ok = true then some u' else none
theorem step_eq (l : List Nd) (i : Nat) (x : Nd) (u : List Bool) : stepV l i x u = stepO (takeKids i x.kids u) (ownB l x) := rfl
theorem takes_len {n : Nat} {ks : List Int} {u u' : List Bool} (h : takeKids n ks u = some u') : u'.length = u.length := take_len h
set_option maxRecDepth 100000 in
set_option maxHeartbeats 16000000 in
theorem rcheck_any (l : List Nd) (lv : Value) (w : World) (hl5 : l.length ≤ 50000) (hokl : ∀ n ∈ l, NdOk n) (hkl : ∀ n ∈ l, n.kids.length < 1000000) (hts : ∀ n ∈ l, n.text.size ≤ 1000000) (hS : Still w lv l) :
    Calls Tryz.prog 13 #[lv] w (CheckIs l w) := by
  obtain ⟨i0, hi, hz0, hz1, hz2⟩ := info_parts infoBool
  obtain ⟨m, hm⟩ : ∃ m, l.length = m := ⟨_, rfl⟩
  have HM := Lib.hid hm
  have HOl := Lib.hid hokl
  have HKl := Lib.hid hkl
  have HTs := Lib.hid hts
  obtain ⟨al, cl, rfl⟩ := hS.nds.shape
  have hmi : ¬ (50000 : Int) < (m : Int) := by omega
  have HSt : Hid (∀ W, Below w.heap.size w W → Still W (.slice al l.length cl) l) := Lib.hid fun W h => hS.below (Nat.le_refl _) h
  clear hokl hkl hts hS
  rw [hm] at HSt ⊢
  go_enter Tryz.func13, Tryz.ntmps13
  go_wp2_with (at_make; refine wpList_make_full _ rfl _ _ 44 rfl w.heap.size 4 i0 (.bool false) 1 Tryz.underlying44 hi hz0 hz1 .i64 .i64 (m : Int) (m : Int) m rfl rfl rfl rfl ?c1 ?c2 ?c3 ?_)
  case c1 => first | omega | (rw [hz2]; omega)
  case c2 => first | omega | (unfold maxLen; omega)
  intro w1 hrow hgrow
  have hD1 : Has w1 w.heap.size 4 ((List.replicate m false).map Value.bool) := by
    rcases own_shape hrow with ⟨h, _⟩ | ⟨g, cap, cs, h1, h2, h3, h4, h5, h6, h7⟩
    · cases h
    · injection h1 with e1 e2 e3
      injection e1 with e1
      injection e1 with e1
      subst e1 e3
      rw [Nat.mul_one] at h6 h7
      rw [List.take_of_length_le (by omega)] at h7
      have h8 : (madeCells #[Value.bool false] m).toList = List.replicate m (.bool false) := toList_madeCells_one _ _
      have h9 : cs = List.replicate m (.bool false) := h7.trans h8
      rw [List.map_replicate, ← h9]
      exact h3
  have hg1 : Below w.heap.size w w1 := (Below.refl _ _).grown hgrow (by omega) (fun k hk => by cases hk)
  have HD := Lib.hid hD1
  have HB := Lib.hid hg1
  obtain ⟨T0, hT0⟩ : ∃ T0, goV l 0 l (List.replicate m false) = T0 := ⟨_, rfl⟩
  have HV : Hid (checkV l = endV l T0) := Lib.hid (by rw [checkV_eq, HM.out, hT0])
  have HT0 : Hid (goV l 0 (l.drop 0) (List.replicate m false) = T0) := Lib.hid hT0
  have HLast : Hid (∀ u, T0 = .inr u → 0 < m → u.getD (m - 1) false = false) := Lib.hid fun u h h0 => by
    rw [go_last (m := m - 1) l (by rw [HM.out]; omega) (hT0.trans h)]
    rw [List.getD_eq_getElem?_getD, List.getElem?_replicate]
    split <;> rfl
  clear hT0 hm hD1 hg1 hrow hgrow hi hz0 hz1 hz2
  go_wp2
  go_loopw [20] (fun iv wr => ∃ (k : Nat) (u : List Bool), iv = .int .i64 (k : Int) ∧ k ≤ m ∧ u.length = m ∧ Hid (Below w.heap.size w wr) ∧ Hid (Has wr w.heap.size 4 (u.map Value.bool)) ∧ Hid (Done l k) ∧ Hid (goV l k (l.drop k) u = T0)) (fun iv _ => m - (intOf iv).toNat)
  case atStart => exact ⟨0, List.replicate m false, rfl, by omega, by simp, HB, HD, Lib.hid (fun i x h => by omega), HT0⟩
  case round =>
    obtain ⟨k, u, rfl, hk, hum, HBr, HDr, HDn, HTr⟩ := hrel
    clear HB HD HT0
    by_cases hlt : k < m
    · have hk1 : (k : Int) < (m : Int) := by omega
      have hk0 : (0 : Int) ≤ (k : Int) := by omega
      have hkl : k < l.length := by rw [HM.out]; exact hlt
      have HGo := Lib.hid (go_cons l k hkl u)
      have HGx : Hid (l[k]? = some l[k]) := Lib.hid (List.getElem?_eq_getElem hkl)
      rw [HTr.out] at HGo
      have hnd := (HSt.out w (Below.refl _ w)).nds
      have hcap := (HSt.out w (Below.refl _ w)).cap
      obtain ⟨b, o, kv, hb1, hb2, d0, d1, d2, d3, d4⟩ := hnd.at k hkl
      obtain ⟨av, cv, rfl⟩ := d4.shape
      subst hb1
      have hcp := hcap b o _ cl rfl k hkl _ _ _ d2
      have hokx := HOl.out _ (List.getElem_mem hkl)
      have hkx := HKl.out _ (List.getElem_mem hkl)
      have htx := HTs.out _ (List.getElem_mem hkl)
      have HKd := Lib.hid (fun (W : World) (h : Below w.heap.size w W) => d4.below (Nat.le_refl _) h)
      generalize l[k] = x at HGo HGx d0 d1 d2 d3 d4 hcp hokx hkx htx HKd
      obtain ⟨x0, x1, ks, x3⟩ := x
      simp only at d0 d1 d2 d3 d4 hcp hkx htx HKd
      clear hnd hcap d4 hokx HTr
      have hA1 : Below wr.heap.size wr (wr.alloc (.cells #[.int .i64 x0, .string x1, .slice av ks.length cv, .int .i64 x3] 40)) := (Below.refl _ wr).alloc (Nat.le_refl _) _
      have HA1 := Lib.hid hA1
      have hI0 : AtI w (wr.alloc (.cells #[.int .i64 x0, .string x1, .slice av ks.length cv, .int .i64 x3] 40)) w.heap.size wr.heap.size [.int .i64 x0, .string x1, .slice av ks.length cv, .int .i64 x3] u (.slice none 0 0) [] :=
        ⟨HBr.out.alloc HBr.out.size _, HDr.out.below hA1 HDr.out.lt, Has.new wr _ _, World.ownsRow_nil _ _ _ _, Nat.le_refl _⟩
      have HI0 := Lib.hid hI0
      clear hI0 hA1
      obtain ⟨T1, hT1⟩ : ∃ T1, takeKids k ks u = T1 := ⟨_, rfl⟩
      have HT1 : Hid (takeKids k (ks.drop 0) u = T1) := Lib.hid hT1
      have HStep : Hid (stepV l k ⟨x0, x1, ks, x3⟩ u = stepO T1 (ownB l ⟨x0, x1, ks, x3⟩)) := Lib.hid (by rw [step_eq, ← hT1])
      have HKin : Hid (T1 ≠ none → ∀ y ∈ ks, 0 ≤ y ∧ y < (k : Int)) := Lib.hid fun h => by
        cases hT : T1 with
        | none => exact absurd hT h
        | some v => exact take_kids (hT1.trans hT)
      obtain ⟨nk, hnk⟩ : ∃ nk, ks.length = nk := ⟨_, rfl⟩
      have HNk := Lib.hid hnk
      rw [hnk] at hkx hcp HKd HI0 HA1 d2
      have g0 := (HBr.out.cell (p := ⟨b, _, none⟩) (show b < w.heap.size by omega)).trans d0
      have g1 := (HBr.out.cell (p := ⟨b, _, none⟩) (show b < w.heap.size by omega)).trans d1
      have g2 := (HBr.out.cell (p := ⟨b, _, none⟩) (show b < w.heap.size by omega)).trans d2
      have g3 := (HBr.out.cell (p := ⟨b, _, none⟩) (show b < w.heap.size by omega)).trans d3
      have gl : b < wr.heap.size := Nat.lt_of_lt_of_le hb2 HBr.out.size
      have n2 := HI0.out.n.cell 2
      have nl := HI0.out.n.lt
      simp only [List.getElem?_cons_succ, List.getElem?_cons_zero] at n2
      have HBad : Hid (stepV l k ⟨x0, x1, ks, x3⟩ u = none → checkV l = ((k : Int), 60)) := Lib.hid fun h => by
        rw [HV.out]
        have := HGo.out
        rw [h] at this
        rw [this]
        rfl
      clear hT1 hnk HDr HBr d0 d1 d2 d3 HA1
      go_wp2
      generalize World.alloc wr (.cells #[.int .i64 x0, .string x1, .slice av nk cv, .int .i64 x3] 40) = w2 at HI0 n2 nl ⊢
      generalize wr.heap.size = N at HI0 n2 nl ⊢
      clear g0 g1 g2 g3 gl
      go_loopg [28, 7] nk (fun gk iv sv wr3 => ∃ (j : Nat) (v : List Bool) (s : Value), iv = .int .i64 (j : Int) ∧ s = sv ∧ j ≤ nk ∧ gk + j = nk ∧ v.length = m ∧ Hid (AtI w wr3 w.heap.size N [.int .i64 x0, .string x1, .slice av nk cv, .int .i64 x3] v s (kindsOf l (ks.take j))) ∧ Hid (takeKids k (ks.drop j) v = T1))
      case atStart => exact ⟨0, u, _, rfl, rfl, by omega, by omega, hum, HI0, HT1⟩
      case round =>
        obtain ⟨j, v, s, rfl, rfl, hj, hgk, hvm, HI, HTj⟩ := hrel
        clear HI0 HT1 n2 nl
        have n2 := HI.out.n.cell 2
        have nl := HI.out.n.lt
        simp only [List.getElem?_cons_succ, List.getElem?_cons_zero] at n2
        by_cases hjlt : j < nk
        · have hj1 : (j : Int) < (nk : Int) := by omega
          have hj0 : (0 : Int) ≤ (j : Int) := by omega
          have hjc : (j : Int) < (cv : Int) := by omega
          have hjl : j < ks.length := by rw [HNk.out]; exact hjlt
          have hkv := HKd.out _ HI.out.b
          obtain ⟨g, o2, hg1, hg2, z0⟩ := hkv.at j hjl
          subst hg1
          have HYes : Hid (∀ q : Nat, ks[j] = (q : Int) → q < k → v.getD q false = false → takeKids k (ks.drop (j + 1)) (v.set q true) = T1) := Lib.hid fun q h1 h2 h3 => by rw [← HTj.out, take_drop_yes hjl h1 h2 h3]
          have HNo : Hid (¬ (0 ≤ ks[j] ∧ ks[j] < (k : Int) ∧ v.getD ks[j].toNat false = false) → T1 = none) := Lib.hid fun h => by rw [← HTj.out, take_drop_no hjl h]
          have HKt := Lib.hid (kinds_take (l := l) hjl)
          generalize ks[j] = y at z0 HYes HNo HKt
          by_cases hin : 0 ≤ y ∧ y < (k : Int)
          · obtain ⟨q, rfl⟩ : ∃ q : Nat, y = (q : Int) := ⟨y.toNat, by omega⟩
            have hq0 : (0 : Int) ≤ (q : Int) := by omega
            have hqk : (q : Int) < (k : Int) := by omega
            have hqm : (q : Int) < (m : Int) := by omega
            have hqv : q < v.length := by omega
            have hql : q < l.length := by rw [HM.out]; omega
            have db := (HI.out.d.cell q).trans (bools_get hqv)
            have df := HI.out.d.frozen q
            have dl := HI.out.d.lt
            simp only [Int.toNat_natCast] at HNo
            obtain ⟨vb, hvb⟩ : ∃ vb, v.getD q false = vb := ⟨_, rfl⟩
            rw [hvb] at db HNo
            cases vb
            · have HT2 := Lib.hid (HYes.out q rfl (by omega) hvb)
              obtain ⟨b3, o3, kv3, hb6, hb7, f0, -⟩ := (HSt.out _ HI.out.b).nds.at q hql
              injection hb6 with hb6
              injection hb6 with hb8 hb9
              subst hb8 hb9
              have hkq : kindAt l (q : Int) = l[q].kind := kindAt_q hql
              rw [hkq] at HKt
              have hvm2 : (v.set q true).length = m := by rw [List.length_set]; exact hvm
              obtain ⟨v2, W2, hrun, hI2⟩ := HI.out.push 31 q l[q].kind (by simp [kindsOf, List.length_take]; omega)
              rw [← HKt.out] at hI2
              have HRun := Lib.hid hrun
              have HI2 := Lib.hid hI2
              have hbne : b ≠ w.heap.size := by omega
              have hbl : b < wr.heap.size := by omega
              have fs : (wr.setCell ⟨w.heap.size, q, none⟩ (.bool true)).cell? ⟨b, o + q * 4, none⟩ = some (.int .i64 l[q].kind) := by
                rw [World.cell?_setCell_other _ _ _ _ (by simp)]
                exact f0
              generalize l[q].kind = z at HRun fs f0
              clear HYes HNo HTj hvb hrun hI2 HKt hkq
              go_wp2_with (at_builtin; refine wpList_append_run (by rfl) (.tmp 49) (.tmp 55) 31 rfl _ _ _ _ rfl rfl HRun.out ?_)
              go_roundg (gk - 1)
              case measure => omega
              case rel => exact ⟨j + 1, v.set q true, _, by go_num, rfl, by omega, by omega, hvm2, HI2, HT2⟩
            · have hTn := HNo.out (by simp)
              subst hTn
              have HC := Lib.hid (HBad.out (by rw [HStep.out]; rfl))
              clear HYes HNo HTj hvb
              go_wp2
              go_ret2
              exact ⟨(by rw [HC.out]; rfl), HI.out.b⟩
          · have hTn := HNo.out (by intro h; exact hin ⟨h.1, h.2.1⟩)
            subst hTn
            have HC := Lib.hid (HBad.out (by rw [HStep.out]; rfl))
            have hy : ¬ (0 : Int) ≤ y ∨ ((0 : Int) ≤ y ∧ ¬ y < (k : Int)) := by omega
            clear HYes HNo HTj hin
            rcases hy with hy | ⟨hy, hy2⟩
            all_goals
              go_wp2
              go_ret2
              exact ⟨(by rw [HC.out]; rfl), HI.out.b⟩
        · have hjn : j = nk := by omega
          have hTs : T1 = some v := by
            rw [← HTj.out, List.drop_eq_nil_of_le (by rw [HNk.out]; omega)]
            rfl
          subst hjn hTs
          have HKs : Hid (∀ y ∈ ks, 0 ≤ y ∧ y < (k : Int)) := Lib.hid (HKin.out (by simp))
          have HI2 : Hid (AtI w wr w.heap.size N [.int .i64 x0, .string x1, .slice av j cv, .int .i64 x3] v s (kindsOf l ks)) := Lib.hid (by
            have := HI.out
            rwa [List.take_of_length_le (by rw [HNk.out]; omega)] at this)
          have HOwn : Hid (ownB l ⟨x0, x1, ks, x3⟩ = (decide (0 ≤ x3) && (rfitB x0 (kindsOf l ks) && (rtextB ⟨x0, x1, ks, x3⟩ && rextraB l ⟨x0, x1, ks, x3⟩)))) := Lib.hid (own_same (by rw [HM.out]; omega) HDn.out HKs.out)
          have HNo : Hid (ownB l ⟨x0, x1, ks, x3⟩ = false → checkV l = ((k : Int), 60)) := Lib.hid fun h => HBad.out (by rw [HStep.out, h]; rfl)
          have HYs : Hid (ownB l ⟨x0, x1, ks, x3⟩ = true → stepV l k ⟨x0, x1, ks, x3⟩ u = some v) := Lib.hid fun h => by rw [HStep.out, h]; rfl
          have n0 := HI2.out.n.cell 0
          have n1 := HI2.out.n.cell 1
          have n3 := HI2.out.n.cell 3
          simp only [List.getElem?_cons_succ, List.getElem?_cons_zero] at n0 n1 n3
          have HB2 := Lib.hid HI2.out.b
          clear HI HTj HKin HStep HBad
          by_cases hx3 : 0 ≤ x3
          · have hkk := own_kids HI2.out.o
            have HFit := Lib.hid (kids_any x0 (kindsOf l ks) s wr hkk (by simp only [kindsOf, List.length_map, HNk.out]; omega))
            obtain ⟨fb, hfb⟩ : ∃ fb, rfitB x0 (kindsOf l ks) = fb := ⟨_, rfl⟩
            rw [hfb] at HFit HOwn
            have HFb := Lib.hid hfb
            clear hfb hkk
            go_wp2_with fail
            refine (HFit.out).mono ?_
            rintro e w3 ⟨rfl, hw⟩
            subst hw
            clear HFit
            cases fb
            · have HC := Lib.hid (HNo.out (by rw [HOwn.out, Bool.false_and, Bool.and_false]))
              clear HNo HYs HOwn
              go_wp2
              go_ret2
              exact ⟨(by rw [HC.out]; rfl), HB2.out⟩
            · have htx2 := rtext_any ⟨x0, x1, ks, x3⟩ htx av cv wr (HSt.out _ HB2.out).tt.tm.tab
              simp only [HNk.out] at htx2
              have HTx := Lib.hid htx2
              obtain ⟨tb, htb⟩ : ∃ tb, rtextB ⟨x0, x1, ks, x3⟩ = tb := ⟨_, rfl⟩
              rw [htb] at HTx HOwn
              have HTb := Lib.hid htb
              have HDr := Lib.hid HI2.out.d
              have hsz := HB2.out.size
              clear htx2 htb HI2
              go_wp2_with fail
              refine (HTx.out).mono ?_
              rintro e w3 ⟨rfl, hb3⟩
              have HB3 := Lib.hid (HB2.out.trans (hb3.mono hsz))
              have HD3 := Lib.hid (HDr.out.below hb3 HDr.out.lt)
              clear HTx hb3 HDr n0 n1 n2 n3 nl
              cases tb
              · have HC := Lib.hid (HNo.out (by rw [HOwn.out, Bool.false_and, Bool.and_false, Bool.and_false]))
                clear HNo HYs HOwn
                go_wp2
                go_ret2
                exact ⟨(by rw [HC.out]; rfl), HB3.out⟩
              · have hk36 := rfit_kind HFb.out
                have HEx := Lib.hid (extra_any l k ⟨x0, x1, ks, x3⟩ _ w3 ⟨HSt.out _ HB3.out, HDn.out, by rw [HM.out]; omega, HGx.out, HKs.out, by rw [HNk.out]; omega, by omega, HOl.out, by rw [fit_same _ hk36.1 hk36.2]; exact HFb.out, HTb.out⟩)
                obtain ⟨eb, heb⟩ : ∃ eb, rextraB l ⟨x0, x1, ks, x3⟩ = eb := ⟨_, rfl⟩
                have HEb := Lib.hid heb
                have hsz3 := HB3.out.size
                clear heb
                go_wp2_with fail
                refine (HEx.out).mono ?_
                rintro e w4 ⟨rfl, hb4⟩
                have HB4 := Lib.hid (HB3.out.trans (hb4.mono hsz3))
                have HD4 := Lib.hid (HD3.out.below hb4 HD3.out.lt)
                rw [HEb.out]
                rw [HEb.out] at HOwn
                clear HEx hb4 HEb HD3
                cases eb
                · have HC := Lib.hid (HNo.out (by rw [HOwn.out, Bool.and_false, Bool.and_false, Bool.and_false]))
                  clear HNo HYs HOwn
                  go_wp2
                  go_ret2
                  exact ⟨(by rw [HC.out]; rfl), HB4.out⟩
                · have hs := HYs.out (by rw [HOwn.out, decide_eq_true hx3]; rfl)
                  have HT4 : Hid (goV l (k + 1) (l.drop (k + 1)) v = T0) := Lib.hid (by
                    have := HGo.out
                    rw [hs] at this
                    exact this.symm)
                  have HDn4 := Lib.hid (HDn.out.next HGx.out (step_good hs).1)
                  clear hs HNo HYs HOwn HGo HGx HDn
                  go_wp2
                  go_roundw
                  case rel => exact ⟨k + 1, v, by go_num, by omega, hvm, HB4, HD4, HDn4, HT4⟩
                  case measure => simp [intOf]; omega
          · have HC := Lib.hid (HNo.out (by rw [HOwn.out, decide_eq_false hx3]; rfl))
            have hx3n : x3 < 0 := by omega
            clear HNo HYs HOwn
            go_wp2
            go_ret2
            exact ⟨(by rw [HC.out]; rfl), HB2.out⟩
    · have hkm : k = m := by omega
      subst hkm
      have hTe : T0 = .inr u := by
        rw [← HTr.out, List.drop_eq_nil_of_le (by rw [HM.out]; exact Nat.le_refl _)]
        rfl
      have hV : checkV l = if l = [] then (0, 60) else if wholeB l u = false then ((l.length : Int) - 1, 60) else if 200 < deepV l then (0, 61) else (0, 0) := by
        rw [HV.out, hTe]
        rfl
      have hL := HLast.out u hTe
      clear HV HTr HDn HLast hTe
      by_cases hz : k = 0
      · subst hz
        have hnil : l = [] := List.eq_nil_of_length_eq_zero HM.out
        rw [if_pos hnil] at hV
        have HC := Lib.hid hV
        clear hV hL
        go_wp2
        go_ret2
        exact ⟨(by rw [HC.out]; rfl), HBr.out⟩
      · have hpos : 0 < k := by omega
        rw [if_neg (by intro e; rw [e] at HM; exact hz HM.out.symm), ← rwhole_same (by rw [HM.out]; exact hpos) (by rw [HM.out]; exact hL hpos)] at hV
        have HV := Lib.hid hV
        obtain ⟨R, hR⟩ : ∃ R, rwholeFrom l u 0 = R := ⟨_, rfl⟩
        rw [hR] at HV
        have HR0 := Lib.hid hR
        have hw1 : wrap64 ((k : Int) - 1) = (k : Int) - 1 := NumM.w64_id (by omega) (by omega)
        have hk1 : ¬ (k : Int) - 1 < 0 := by omega
        clear hV hR hL
        go_wp2
        go_loopw [88] (fun iv wr2 => ∃ j : Nat, iv = .int .i64 (j : Int) ∧ j ≤ k ∧ Hid (wr2 = wr) ∧ Hid (rwholeFrom l u j = R)) (fun iv _ => k - (intOf iv).toNat)
        case atStart => exact ⟨0, rfl, by omega, Lib.hid rfl, HR0⟩
        case round =>
          obtain ⟨j, rfl, hj, HW, HRj⟩ := hrel
          obtain rfl := HW.out
          clear HR0 HW
          by_cases hjlt : j < k
          · have hj1 : (j : Int) < (k : Int) := by omega
            have hj0 : (0 : Int) ≤ (j : Int) := by omega
            have hjl : j < l.length := by rw [HM.out]; exact hjlt
            have hju : j < u.length := by omega
            obtain ⟨b, o, kv, hb1, hb2, d0, -⟩ := (HSt.out _ HBr.out).nds.at j hjl
            subst hb1
            have db := (HDr.out.cell j).trans (bools_get hju)
            have df := HDr.out.frozen j
            have dl := HDr.out.lt
            have hst := rwhole_step (u := u) hjl
            rw [HRj.out, kindAt_q hjl, HM.out] at hst
            have hlast : decide (j = k - 1) = decide ((j : Int) = (k : Int) - 1) := by
              rw [decide_eq_decide]
              omega
            rw [hlast] at hst
            generalize l[j].kind = z at d0 hst
            obtain ⟨ub, hub⟩ : ∃ ub, u.getD j false = ub := ⟨_, rfl⟩
            obtain ⟨zb, hzb⟩ : ∃ zb, (z == 1) = zb := ⟨_, rfl⟩
            obtain ⟨lb, hlb⟩ : ∃ lb, ((j : Int) == (k : Int) - 1) = lb := ⟨_, rfl⟩
            have e1 : decide (z = 1) = zb := by rw [← hzb]; rfl
            have e2 : decide ((j : Int) = (k : Int) - 1) = lb := by rw [← hlb]; rfl
            rw [hub, e1, e2] at hst
            rw [hub] at db
            have HSt2 := Lib.hid hst
            clear hst hub HRj e1 e2 hlast
            cases zb
            · cases lb
              · cases ub
                · have hRf : R = false := by rw [HSt2.out]; rfl
                  have HC : Hid (checkV l = ((k : Int) - 1, 60)) := Lib.hid (by
                    have h := HV.out
                    rw [if_pos hRf, HM.out] at h
                    exact h)
                  clear HV hRf HSt2
                  go_wp2
                  go_ret2
                  exact ⟨(by rw [HC.out]; rfl), HBr.out⟩
                · have HR2 : Hid (rwholeFrom l u (j + 1) = R) := Lib.hid (by rw [HSt2.out]; rfl)
                  clear HSt2
                  go_wp2
                  go_roundw
                  case rel => exact ⟨j + 1, by go_num, by omega, (by first | exact Lib.hid rfl | exact Lib.hid trivial), HR2⟩
                  case measure => simp [intOf]; omega
              · cases ub
                · have hRf : R = false := by rw [HSt2.out]; rfl
                  have HC : Hid (checkV l = ((k : Int) - 1, 60)) := Lib.hid (by
                    have h := HV.out
                    rw [if_pos hRf, HM.out] at h
                    exact h)
                  clear HV hRf HSt2
                  go_wp2
                  go_ret2
                  exact ⟨(by rw [HC.out]; rfl), HBr.out⟩
                · have hRf : R = false := by rw [HSt2.out]; rfl
                  have HC : Hid (checkV l = ((k : Int) - 1, 60)) := Lib.hid (by
                    have h := HV.out
                    rw [if_pos hRf, HM.out] at h
                    exact h)
                  clear HV hRf HSt2
                  go_wp2
                  go_ret2
                  exact ⟨(by rw [HC.out]; rfl), HBr.out⟩
            · cases lb
              · cases ub
                · have hRf : R = false := by rw [HSt2.out]; rfl
                  have HC : Hid (checkV l = ((k : Int) - 1, 60)) := Lib.hid (by
                    have h := HV.out
                    rw [if_pos hRf, HM.out] at h
                    exact h)
                  clear HV hRf HSt2
                  go_wp2
                  go_ret2
                  exact ⟨(by rw [HC.out]; rfl), HBr.out⟩
                · have hRf : R = false := by rw [HSt2.out]; rfl
                  have HC : Hid (checkV l = ((k : Int) - 1, 60)) := Lib.hid (by
                    have h := HV.out
                    rw [if_pos hRf, HM.out] at h
                    exact h)
                  clear HV hRf HSt2
                  go_wp2
                  go_ret2
                  exact ⟨(by rw [HC.out]; rfl), HBr.out⟩
              · cases ub
                · have HR2 : Hid (rwholeFrom l u (j + 1) = R) := Lib.hid (by rw [HSt2.out]; rfl)
                  clear HSt2
                  go_wp2
                  go_roundw
                  case rel => exact ⟨j + 1, by go_num, by omega, (by first | exact Lib.hid rfl | exact Lib.hid trivial), HR2⟩
                  case measure => simp [intOf]; omega
                · have hRf : R = false := by rw [HSt2.out]; rfl
                  have HC : Hid (checkV l = ((k : Int) - 1, 60)) := Lib.hid (by
                    have h := HV.out
                    rw [if_pos hRf, HM.out] at h
                    exact h)
                  clear HV hRf HSt2
                  go_wp2
                  go_ret2
                  exact ⟨(by rw [HC.out]; rfl), HBr.out⟩
          · have hRt : R = true := by rw [← HRj.out, rwhole_end (by rw [HM.out]; exact hjlt)]
            have hjk : j = k := by omega
            have HDp := Lib.hid (refDeep_any l _ wr (HSt.out _ HBr.out).nds HOl.out (by rw [HM.out]; omega))
            have hsz := HBr.out.size
            have HV2 : Hid (checkV l = if 200 < deepV l then (0, 61) else (0, 0)) := Lib.hid (by
              have h := HV.out
              rw [hRt, if_neg (by decide)] at h
              exact h)
            subst hRt hjk
            clear HV HRj
            go_wp2_with fail
            refine (HDp.out).mono ?_
            rintro e w5 ⟨rfl, hb5⟩
            have HB5 := Lib.hid (HBr.out.trans (hb5.mono hsz))
            have hv := HV2.out
            clear hb5 HV2 HDp
            by_cases hd : 200 < deepV l
            · rw [if_pos hd] at hv
              have HC := Lib.hid hv
              generalize deepV l = dv at hd ⊢
              clear hv
              go_wp2
              go_ret2
              exact ⟨(by rw [HC.out]; rfl), HB5.out⟩
            · rw [if_neg hd] at hv
              have HC := Lib.hid hv
              generalize deepV l = dv at hd ⊢
              clear hv
              go_wp2
              go_ret2
              exact ⟨(by rw [HC.out]; rfl), HB5.out⟩
end TreeD
end Go.Proofs.YtmdkocegnbcgmaaGreatDoor

namespace Go.Proofs.YtmdkocegnbcgmaaGreatDoor
open Go.RowKit ObjM
namespace TreeD

/-- What a visit tells: nodes, and how deep they stand. -/
def visV (l : List Nd) : Nat → Int → Int → List (Int × Int)
  | 0, _, _ => []
  | f + 1, n, d => (n, d) :: (ndAt l n).kids.flatMap fun k => visV l f k (d + 1)
theorem flatMap_congr' {α β : Type} {f g : α → List β} : ∀ {xs : List α}, (∀ x ∈ xs, f x = g x) → xs.flatMap f = xs.flatMap g
  | [], _ => rfl
  | x :: r, h => by
    rw [List.flatMap_cons, List.flatMap_cons, h x (by simp), flatMap_congr' (fun y hy => h y (by simp [hy]))]
theorem kids_low {l : List Nd} {N n : Nat} (hD : Done l N) (hn : n < N) (hN : N ≤ l.length) : ∀ k ∈ (ndAt l (n : Int)).kids, 0 ≤ k ∧ k < (n : Int) := by
  have hnl : n < l.length := by omega
  rw [ndAt_q hnl]
  exact (hD n l[n] hn (List.getElem?_eq_getElem hnl)).kids
theorem vis_fuel {l : List Nd} {N : Nat} (hD : Done l N) (hN : N ≤ l.length) : ∀ (f g n : Nat) (d : Int), n < N → n < f → n < g → visV l f (n : Int) d = visV l g (n : Int) d
  | 0, _, _, _, _, h, _ => by omega
  | _ + 1, 0, _, _, _, _, h => by omega
  | f + 1, g + 1, n, d, hn, hf, hg => by
    unfold visV
    congr 1
    refine flatMap_congr' ?_
    intro k hk
    have hkk := kids_low hD hn hN k hk
    obtain ⟨q, rfl⟩ : ∃ q : Nat, k = (q : Int) := ⟨k.toNat, by omega⟩
    exact vis_fuel hD hN f g q (d + 1) (by omega) (by omega) (by omega)
theorem vis_len (l : List Nd) : ∀ (f : Nat) (n d e : Int), (visV l f n d).length = (visV l f n e).length
  | 0, _, _, _ => rfl
  | f + 1, n, d, e => by
    unfold visV
    rw [List.length_cons, List.length_cons, List.length_flatMap, List.length_flatMap]
    congr 2
    refine List.map_congr_left ?_
    intro k _
    exact vis_len l f k (d + 1) (e + 1)
/-- How many nodes stand at and below one. -/
def szV (l : List Nd) (n : Nat) : Nat := (visV l (n + 1) (n : Int) 0).length
theorem sz_step {l : List Nd} {N n : Nat} (hD : Done l N) (hn : n < N) (hN : N ≤ l.length) : szV l n = 1 + ((ndAt l (n : Int)).kids.map fun k => szV l k.toNat).sum := by
  unfold szV visV
  rw [List.length_cons, List.length_flatMap, Nat.add_comm]
  congr 2
  refine List.map_congr_left ?_
  intro k hk
  have hkk := kids_low hD hn hN k hk
  obtain ⟨q, rfl⟩ : ∃ q : Nat, k = (q : Int) := ⟨k.toNat, by omega⟩
  rw [Int.toNat_natCast, vis_fuel hD hN n (q + 1) q _ (by omega) (by omega) (by omega)]
  exact vis_len l _ _ _ _
/-- The sizes of what is no kid yet. -/
def restS (l : List Nd) (u : List Bool) (i : Nat) : Nat := ((List.range i).map fun n => if u.getD n false = true then 0 else szV l n).sum
theorem sum_upd {f g : Nat → Nat} {k c : Nat} (h : ∀ n, n ≠ k → f n = g n) (hk : f k = g k + c) : ∀ i, k < i → ((List.range i).map f).sum = ((List.range i).map g).sum + c
  | 0, hi => by omega
  | i + 1, hi => by
    rw [List.range_succ, List.map_append, List.map_append, List.sum_append, List.sum_append]
    simp only [List.map_cons, List.map_nil, List.sum_cons, List.sum_nil, Nat.add_zero]
    by_cases he : k = i
    · subst he
      have : ((List.range k).map f) = ((List.range k).map g) := by
        refine List.map_congr_left ?_
        intro n hn
        rw [List.mem_range] at hn
        exact h n (by omega)
      rw [this, hk]
      omega
    · rw [sum_upd h hk i (by omega), h i (fun e => he e.symm)]
      omega
theorem rest_take {l : List Nd} {i : Nat} : ∀ {ks : List Int} {u u' : List Bool}, i ≤ u.length → takeKids i ks u = some u' → restS l u i = restS l u' i + (ks.map fun k => szV l k.toNat).sum
  | [], u, u', _, h => by injection h with h; rw [h]; simp
  | k :: r, u, u', hu, h => by
    unfold takeKids at h
    split at h
    · rename_i hc
      obtain ⟨h1, h2, h3⟩ := hc
      have hr := rest_take (l := l) (i := i) (ks := r) (by rw [List.length_set]; exact hu) h
      have hone : restS l u i = restS l (u.set k.toNat true) i + szV l k.toNat := by
        unfold restS
        refine sum_upd (k := k.toNat) ?_ ?_ i (by omega)
        · intro n hn
          simp only [List.getD_eq_getElem?_getD]
          rw [List.getElem?_set_ne (fun e => hn e.symm)]
        · have h4 : (u.set k.toNat true).getD k.toNat false = true := by
            rw [List.getD_eq_getElem?_getD, List.getElem?_set_self (by omega)]
            rfl
          rw [if_neg (by rw [h3]; decide), if_pos h4, Nat.zero_add]
      rw [hone, hr, List.map_cons, List.sum_cons]
      omega
    · cases h
theorem take_above {n m : Nat} (hm : n ≤ m) {ks : List Int} {u u' : List Bool} (h : takeKids n ks u = some u') : u'.getD m false = u.getD m false := take_last hm h
theorem go_sum {l : List Nd} : ∀ (r : List Nd) {i : Nat} {u u' : List Bool}, l.drop i = r → i ≤ l.length → u.length = l.length → Done l i → (∀ n, i ≤ n → u.getD n false = false) → restS l u i = i → goV l i r u = .inr u' → restS l u' l.length = l.length ∧ Done l l.length
  | [], i, u, u', hr, hi, hu, hD, h0, hs, h => by
    injection h with h
    subst h
    have : i = l.length := by
      have := congrArg List.length hr
      rw [List.length_drop] at this
      simp at this
      omega
    subst this
    exact ⟨hs, hD⟩
  | x :: r, i, u, u', hr, hi, hu, hD, h0, hs, h => by
    have hlt : i < l.length := by
      have := congrArg List.length hr
      rw [List.length_drop, List.length_cons] at this
      omega
    have hx : l[i]? = some x := by
      have := List.drop_eq_getElem_cons hlt
      rw [hr] at this
      injection this with h1 h2
      rw [List.getElem?_eq_getElem hlt, ← h1]
    have hr2 : l.drop (i + 1) = r := by
      have := List.drop_eq_getElem_cons hlt
      rw [hr] at this
      injection this with h1 h2
      exact h2.symm
    unfold goV at h
    split at h
    · cases h
    · rename_i v hv
      obtain ⟨hg, ht⟩ := step_good hv
      have hD2 := hD.next hx hg
      refine go_sum r hr2 (by omega) (by rw [take_len ht]; exact hu) hD2 ?_ ?_ h
      · intro n hn
        rw [take_last (by omega) ht]
        exact h0 n (by omega)
      · have h1 := rest_take (l := l) (by omega) ht
        have h2 := sz_step hD2 (Nat.lt_succ_self i) (by omega)
        have hnd : ndAt l (i : Int) = x := by
          rw [ndAt_q hlt]
          exact (List.getElem?_eq_some_iff.1 hx).2
        rw [hnd] at h2
        have h3 : restS l v (i + 1) = restS l v i + szV l i := by
          unfold restS
          rw [List.range_succ, List.map_append, List.sum_append]
          have h4 : v.getD i false = false := by
            rw [take_last (Nat.le_refl _) ht]
            exact h0 i (Nat.le_refl _)
          simp only [List.map_cons, List.map_nil, List.sum_cons, List.sum_nil, Nat.add_zero]
          rw [if_neg (by rw [h4]; decide)]
        rw [h3, h2]
        omega
theorem zeros_sum : ∀ m : Nat, ((List.range m).map fun _ => 0).sum = 0
  | 0 => rfl
  | m + 1 => by
    rw [List.range_succ, List.map_append, List.sum_append, zeros_sum m]
    rfl
/-- What a tree that is checked is like. -/
structure IsTree (l : List Nd) : Prop where
  pos : 0 < l.length
  done : Done l l.length
  size : szV l (l.length - 1) = l.length
theorem tree_of {l : List Nd} (h : (checkV l).2 = 0) : IsTree l := by
  rw [checkV_eq] at h
  cases hg : goV l 0 l (List.replicate l.length false) with
  | inl i => rw [hg] at h; exact absurd h (by show ¬ (60 : Int) = 0; decide)
  | inr u =>
    rw [hg] at h
    unfold endV at h
    by_cases hz : l = []
    · rw [hz] at h
      simp at h
    · have hpos : 0 < l.length := List.length_pos_iff.2 hz
      simp only [if_neg hz] at h
      by_cases hw : wholeB l u = false
      · rw [if_pos hw] at h
        simp at h
      · have hw1 : wholeB l u = true := by
          cases hb : wholeB l u
          · exact absurd hb hw
          · rfl
        have h00 : ∀ n, (List.replicate l.length false).getD n false = false := by
          intro n
          rw [List.getD_eq_getElem?_getD, List.getElem?_replicate]
          split <;> rfl
        obtain ⟨hs, hD⟩ := go_sum (l := l) l (i := 0) (u := List.replicate l.length false) rfl (by omega) (by simp) (fun i x h => by omega) (fun n _ => h00 n) rfl hg
        refine ⟨hpos, hD, ?_⟩
        have hlast : u.getD (l.length - 1) false = false := by
          rw [go_last (m := l.length - 1) l (by omega) hg]
          exact h00 _
        unfold wholeB at hw1
        simp only [Bool.and_eq_true, List.all_eq_true, List.mem_range, decide_eq_true_eq] at hw1
        obtain ⟨m, hm⟩ : ∃ m, l.length = m + 1 := ⟨l.length - 1, by omega⟩
        have hm1 : l.length - 1 = m := by omega
        rw [hm1] at hlast hw1 ⊢
        have hsum : restS l u (m + 1) = szV l m := by
          unfold restS
          rw [List.range_succ, List.map_append, List.sum_append]
          simp only [List.map_cons, List.map_nil, List.sum_cons, List.sum_nil, Nat.add_zero]
          rw [if_neg (by rw [hlast]; decide)]
          have hz0 : ((List.range m).map fun n => if u.getD n false = true then 0 else szV l n) = (List.range m).map fun _ => 0 := by
            refine List.map_congr_left ?_
            intro n hn
            rw [List.mem_range] at hn
            rw [if_pos (hw1.2 n hn).1]
          rw [hz0, zeros_sum, Nat.zero_add]
        rw [hm] at hs
        omega
/-- The walk of a tree. -/
def walkV (l : List Nd) : List (Int × Int) := visV l l.length ((l.length : Int) - 1) 0
theorem walk_len {l : List Nd} (h : IsTree l) : (walkV l).length = l.length := by
  have h1 := h.size
  unfold szV at h1
  unfold walkV
  have hp := h.pos
  have e : (l.length : Int) - 1 = ((l.length - 1 : Nat) : Int) := by omega
  rw [e]
  have e2 : l.length - 1 + 1 = l.length := by omega
  rw [e2] at h1
  exact h1
/-- What a stack's nodes tell, the last first. -/
def stackV (l : List Nd) (ns ds : List Int) : List (Int × Int) := (ns.zip ds).reverse.flatMap fun p => visV l l.length p.1 p.2
theorem stack_nil (l : List Nd) : stackV l [] [] = [] := rfl
theorem stack_snoc (l : List Nd) {ns ds : List Int} (h : ns.length = ds.length) (n d : Int) : stackV l (ns ++ [n]) (ds ++ [d]) = visV l l.length n d ++ stackV l ns ds := by
  unfold stackV
  rw [List.zip_append h]
  simp
/-- A node is taken off: it, and its kids, the first on top. -/
theorem vis_take {l : List Nd} (h : IsTree l) {n : Nat} (hn : n < l.length) (d : Int) : visV l l.length (n : Int) d = ((n : Int), d) :: (ndAt l (n : Int)).kids.flatMap fun k => visV l l.length k (d + 1) := by
  obtain ⟨m, hm⟩ : ∃ m, l.length = m + 1 := ⟨l.length - 1, by omega⟩
  have h1 : visV l l.length (n : Int) d = ((n : Int), d) :: (ndAt l (n : Int)).kids.flatMap fun k => visV l m k (d + 1) := by
    rw [hm]
    rfl
  rw [h1]
  congr 1
  refine flatMap_congr' ?_
  intro k hk
  have hkk := kids_low h.done hn (Nat.le_refl _) k hk
  obtain ⟨q, rfl⟩ : ∃ q : Nat, k = (q : Int) := ⟨k.toNat, by omega⟩
  exact vis_fuel h.done (Nat.le_refl _) m l.length q (d + 1) (by omega) (by omega) (by omega)
theorem stack_kids (l : List Nd) (d : Int) : ∀ (ks : List Int) {ns ds : List Int}, ns.length = ds.length → stackV l (ns ++ ks.reverse) (ds ++ List.replicate ks.length d) = (ks.flatMap fun k => visV l l.length k d) ++ stackV l ns ds
  | [], ns, ds, _ => by simp
  | k :: r, ns, ds, h => by
    have hl : (ns ++ r.reverse).length = (ds ++ List.replicate r.length d).length := by simp [h]
    have h1 := stack_snoc l hl k d
    rw [List.reverse_cons, ← List.append_assoc, List.length_cons, List.replicate_succ', ← List.append_assoc, h1, stack_kids l d r h, List.flatMap_cons, List.append_assoc]
end TreeD
end Go.Proofs.YtmdkocegnbcgmaaGreatDoor

namespace Go.Proofs.YtmdkocegnbcgmaaGreatDoor
open Go.RowKit ObjM
namespace TreeD

def four {α : Type} (a b c d : α) : Nat → α
  | 0 => a
  | 1 => b
  | 2 => c
  | _ => d
def updF {α : Type} (f : Nat → α) (i : Nat) (x : α) : Nat → α := fun j => if j = i then x else f j
set_option maxRecDepth 100000 in
theorem app_int2 (ty : TypeId) {W : World} {B : Nat} {v : Value} {zs : List Int} (z : Int) (h : W.ownsRow B 3 1 v zs.length (zs.map (Value.int .i64))) (hn : zs.length ≤ 100000000) (hB : B ≤ W.heap.size) (ad c0 : Nat) (hc : W.cell? ⟨ad, 0, none⟩ = some (.int .i64 z)) :
    ∃ v2 W2, (Builtin.append_ #[31, 31] ty #[v, .slice (some ⟨ad, 0, none⟩) 1 c0]).run Tryz.prog W = .ok v2 W2 ∧ W2.ownsRow B 3 1 v2 (zs ++ [z]).length ((zs ++ [z]).map (Value.int .i64)) ∧ W.grownBy W2 v.ownBlock ∧ (v2.ownBlock = v.ownBlock ∨ v2.ownBlock = some W.heap.size) := by
  obtain ⟨i0, hi, hz0, hz1, hz2⟩ := info_parts infoIntT
  obtain ⟨v2, w5, hrun, ho, hk5, -, hv5⟩ := run_append_own_at (P := Tryz.prog) (w := W) B 31 ty 3 i0 (.int .i64 0) 1 8 Tryz.underlying31 hi hz0 hz1 hz2 rfl (by decide) v _ _ h ⟨ad, 0, none⟩ 1 c0 [.int .i64 z] rfl
    (fun k u hk => by
      have hk1 := (List.getElem?_eq_some_iff.1 hk).1
      simp at hk1
      subst hk1
      simp at hk
      subst hk
      rw [at_add]
      exact hc)
    (fun u hu => by simp at hu; rw [hu]; rfl) (by unfold maxLen; omega) (by omega) hB
  exact ⟨v2, w5, hrun, by simpa using ho, hk5, hv5⟩
structure RowsAt (w wr : World) (v : Nat → Value) (z : Nat → List Int) : Prop where
  b : Below w.heap.size w wr
  o : ∀ i, i < 4 → wr.ownsRow w.heap.size 3 1 (v i) (z i).length ((z i).map (Value.int .i64))
  d : ∀ i j, i < 4 → j < 4 → i ≠ j → ∀ g, (v i).ownBlock = some g → (v j).ownBlock ≠ some g
theorem RowsAt.congr {w wr : World} {v v' : Nat → Value} {z z' : Nat → List Int} (h : RowsAt w wr v z) (hv : ∀ i, i < 4 → v i = v' i) (hz : ∀ i, i < 4 → z i = z' i) : RowsAt w wr v' z' :=
  ⟨h.b, fun i hi => by rw [← hv i hi, ← hz i hi]; exact h.o i hi, fun i j hi hj => by rw [← hv i hi, ← hv j hj]; exact h.d i j hi hj⟩
theorem RowsAt.drew {w wr : World} {v : Nat → Value} {z : Nat → List Int} (h : RowsAt w wr v z) : RowsAt w wr.drew v z := ⟨h.b.drew, fun i hi => own_drew (h.o i hi), h.d⟩
theorem RowsAt.same {w wr W : World} {v : Nat → Value} {z : Nat → List Int} (h : RowsAt w wr v z) (h1 : W.heap = wr.heap) (h2 : W.os = wr.os) (h3 : W.tape = wr.tape) (h4 : W.output = wr.output) : RowsAt w W v z := by
  have hb : Below wr.heap.size wr W := ⟨h2, h3, h4, by rw [h1]; exact Nat.le_refl _, fun k _ => by rw [h1]⟩
  refine ⟨h.b.trans (hb.mono h.b.size), fun i hi => ?_, h.d⟩
  exact own_keeps (h.o i hi) (Keeps.below' hb []) (fun g _ => by simp)
theorem RowsAt.push {w wr : World} {v : Nat → Value} {z : Nat → List Int} (h : RowsAt w wr v z) {i : Nat} (hi : i < 4) (ty : TypeId) (x : Int) (hn : (z i).length ≤ 100000000) :
    ∃ v2 W2, (Builtin.append_ #[31, 31] ty #[v i, .slice (some ⟨wr.heap.size, 0, none⟩) 1 1]).run Tryz.prog (wr.alloc (.cells #[.int .i64 x] 3)) = .ok v2 W2 ∧ RowsAt w W2 (updF v i v2) (updF z i (z i ++ [x])) := by
  have hc : (wr.alloc (.cells #[.int .i64 x] 3)).cell? ⟨wr.heap.size, 0, none⟩ = some (.int .i64 x) := (Has.new wr 3 [.int .i64 x]).cell 0
  have hs : (wr.alloc (.cells #[.int .i64 x] 3)).heap.size = wr.heap.size + 1 := by simp
  have hB := h.b.size
  obtain ⟨v2, W2, hrun, ho, hg, hb⟩ := app_int2 ty x ((h.o i hi).alloc (.cells #[.int .i64 x] 3)) hn (by omega) wr.heap.size 1 hc
  refine ⟨v2, W2, hrun, ?_, ?_, ?_⟩
  · exact (h.b.alloc hB _).grown hg (by omega) (fun g he => (own_lt (h.o i hi) g he).1)
  · intro j hj
    by_cases he : j = i
    · subst he
      simp only [updF, if_true]
      exact ho
    · simp only [updF, if_neg he]
      refine own_keeps ((h.o j hj).alloc (.cells #[.int .i64 x] 3)) (Keeps.grown hg) ?_
      intro g hgj hm
      exact h.d j i hj hi he g hgj (by simpa using hm)
  · have hfar : ∀ j, j < 4 → j ≠ i → ∀ g, (v j).ownBlock = some g → v2.ownBlock ≠ some g := by
      intro j hj hne g hgj he
      rcases hb with hb | hb
      · rw [hb] at he
        exact h.d j i hj hi hne g hgj he
      · rw [hb] at he
        injection he with he
        have := (own_lt (h.o j hj) g hgj).2
        omega
    intro j k hj hk hjk g
    by_cases h1 : j = i
    · subst h1
      simp only [updF, if_true, if_neg hjk.symm]
      intro he hgk
      exact hfar k hk hjk.symm g hgk he
    · by_cases h2 : k = i
      · subst h2
        simp only [updF, if_true, if_neg h1]
        intro he
        exact hfar j hj h1 g he
      · simp only [updF, if_neg h1, if_neg h2]
        exact h.d j k hj hk hjk g
theorem RowsAt.pop {w wr : World} {v : Nat → Value} {z : Nat → List Int} (h : RowsAt w wr v z) {i g n cap : Nat} (hi : i < 4) {zs : List Int} (hv : v i = .slice (some ⟨g, 0, none⟩) (n + 1) cap) (hz : (z i).take n = zs) (hl : (z i).length = n + 1) :
    RowsAt w wr (updF v i (.slice (some ⟨g, 0, none⟩) n cap)) (updF z i zs) := by
  have hzl : zs.length = n := by rw [← hz, List.length_take, hl]; omega
  refine ⟨h.b, ?_, ?_⟩
  · intro j hj
    by_cases he : j = i
    · subst he
      simp only [updF, if_true]
      have ho := h.o j hj
      rw [hv, hl] at ho
      have := own_take ho (m := n) (by omega)
      rw [Nat.mul_one, ← List.map_take, hz] at this
      rw [hzl]
      exact this
    · simp only [updF, if_neg he]
      exact h.o j hj
  · have hb : (Value.slice (some ⟨g, 0, none⟩) n cap).ownBlock = (v i).ownBlock := by rw [hv]; rfl
    intro j k hj hk hjk g2
    by_cases h1 : j = i
    · subst h1
      simp only [updF, if_true, if_neg hjk.symm, hb]
      exact h.d j k hj hk hjk g2
    · by_cases h2 : k = i
      · subst h2
        simp only [updF, if_true, if_neg h1, hb]
        exact h.d j k hj hk hjk g2
      · simp only [updF, if_neg h1, if_neg h2]
        exact h.d j k hj hk hjk g2
theorem upd0 {α : Type} (a b c d x : α) : ∀ i, i < 4 → updF (four a b c d) 0 x i = four x b c d i
  | 0, _ | 1, _ | 2, _ | 3, _ => rfl
theorem upd1 {α : Type} (a b c d x : α) : ∀ i, i < 4 → updF (four a b c d) 1 x i = four a x c d i
  | 0, _ | 1, _ | 2, _ | 3, _ => rfl
theorem upd2 {α : Type} (a b c d x : α) : ∀ i, i < 4 → updF (four a b c d) 2 x i = four a b x d i
  | 0, _ | 1, _ | 2, _ | 3, _ => rfl
theorem upd3 {α : Type} (a b c d x : α) : ∀ i, i < 4 → updF (four a b c d) 3 x i = four a b c x i
  | 0, _ | 1, _ | 2, _ | 3, _ => rfl
/-- A row that isn't empty: where its last number lies. -/
theorem RowsAt.last {w wr : World} {v : Nat → Value} {z : Nat → List Int} (h : RowsAt w wr v z) {i n : Nat} (hi : i < 4) {zs : List Int} {x : Int} (hz : z i = zs ++ [x]) (hl : zs.length = n) : ∃ g cap, v i = .slice (some ⟨g, 0, none⟩) (n + 1) cap ∧ n + 1 ≤ cap ∧ cap ≤ maxLen ∧ wr.cell? ⟨g, n, none⟩ = some (.int .i64 x) ∧ g < wr.heap.size := by
  have ho := h.o i hi
  have hlen : (z i).length = n + 1 := by rw [hz, List.length_append, hl]; rfl
  rw [hlen] at ho
  rcases own_shape ho with ⟨-, h2, -⟩ | ⟨g, cap, cs, h1, -, h3, h4, h5, -, -⟩
  · omega
  · rw [h1] at ho
    have hc := own_cell ho n (by rw [List.length_map, hlen]; omega)
    refine ⟨g, cap, h1, h4, h5, ?_, h3.lt⟩
    rw [hc]
    simp only [List.getElem_map, hz]
    subst hl
    simp
theorem flat_len {α β : Type} {f : α → List β} : ∀ {xs : List α}, (∀ x ∈ xs, 0 < (f x).length) → xs.length ≤ (xs.flatMap f).length
  | [], _ => by simp
  | x :: r, h => by
    rw [List.flatMap_cons, List.length_append, List.length_cons]
    have := h x (by simp)
    have := flat_len (xs := r) (f := f) (fun y hy => h y (by simp [hy]))
    omega
theorem stack_len {l : List Nd} (h0 : 0 < l.length) {ns ds : List Int} (h : ns.length = ds.length) : ns.length ≤ (stackV l ns ds).length := by
  unfold stackV
  have h1 : (ns.zip ds).reverse.length = ns.length := by rw [List.length_reverse, List.length_zip]; omega
  rw [← h1]
  refine flat_len ?_
  intro p _
  obtain ⟨m, hm⟩ : ∃ m, l.length = m + 1 := ⟨l.length - 1, by omega⟩
  rw [hm]
  simp [visV]
/-- What is on the stack, what is told. -/
structure WalkOf (l : List Nd) (z6 z7 ns ds : List Int) : Prop where
  l1 : z6.length = z7.length
  l2 : ns.length = ds.length
  s : z6.zip z7 ++ stackV l ns ds = walkV l
  k : ∀ p ∈ ns.zip ds, 0 ≤ p.1 ∧ 0 ≤ p.2 ∧ p.1 + p.2 < (l.length : Int)
theorem WalkOf.start {l : List Nd} (h : IsTree l) : WalkOf l [] [] [(l.length : Int) - 1] [0] := by
  refine ⟨rfl, rfl, ?_, ?_⟩
  · rw [List.zip_nil_left, List.nil_append]
    have := stack_snoc l (ns := []) (ds := []) rfl ((l.length : Int) - 1) 0
    rw [stack_nil, List.append_nil] at this
    exact this
  · intro p hp
    simp at hp
    subst hp
    have := h.pos
    simp only
    omega
theorem WalkOf.len {l : List Nd} {z6 z7 ns ds : List Int} (h : WalkOf l z6 z7 ns ds) (ht : IsTree l) : z6.length + ns.length ≤ l.length := by
  have h1 := congrArg List.length h.s
  rw [List.length_append, List.length_zip, walk_len ht] at h1
  have h2 := stack_len ht.pos h.l2
  have := h.l1
  omega
theorem WalkOf.done {l : List Nd} {z6 z7 : List Int} (h : WalkOf l z6 z7 [] []) : z6 = (walkV l).map (·.1) ∧ z7 = (walkV l).map (·.2) := by
  have hs := h.s
  rw [stack_nil, List.append_nil] at hs
  rw [← hs]
  exact ⟨(List.map_fst_zip (by have := h.l1; omega)).symm, (List.map_snd_zip (by have := h.l1; omega)).symm⟩
theorem WalkOf.top {l : List Nd} {z6 z7 ns ds : List Int} {n d : Int} (h : WalkOf l z6 z7 (ns ++ [n]) (ds ++ [d])) : ns.length = ds.length ∧ 0 ≤ n ∧ 0 ≤ d ∧ n + d < (l.length : Int) := by
  have h2 := h.l2
  simp at h2
  refine ⟨h2, ?_⟩
  have := h.k (n, d) (by rw [List.zip_append h2]; simp)
  exact this
theorem WalkOf.step {l : List Nd} (ht : IsTree l) {z6 z7 ns ds : List Int} {n : Nat} {d : Int} (h : WalkOf l z6 z7 (ns ++ [(n : Int)]) (ds ++ [d])) :
    WalkOf l (z6 ++ [(n : Int)]) (z7 ++ [d]) (ns ++ (ndAt l (n : Int)).kids.reverse) (ds ++ List.replicate (ndAt l (n : Int)).kids.length (d + 1)) := by
  obtain ⟨h2, h3, h4, h5⟩ := h.top
  have hn : n < l.length := by omega
  refine ⟨by simp [h.l1], by simp [h2], ?_, ?_⟩
  · rw [← h.s, stack_kids l (d + 1) _ h2, stack_snoc l h2, vis_take ht hn, List.zip_append h.l1]
    simp
  · intro p hp
    rw [List.zip_append h2, List.mem_append] at hp
    rcases hp with hp | hp
    · exact h.k p (by rw [List.zip_append h2]; simp [hp])
    · obtain ⟨p1, p2⟩ := p
      have hz := List.of_mem_zip hp
      have hk := kids_low ht.done hn (Nat.le_refl _) p1 (by simpa using hz.1)
      have he := (List.mem_replicate.1 hz.2).2
      simp only
      omega
theorem rev_drop {ks : List Int} {r : Nat} (hr : r < ks.length) : (ks.drop r).reverse = (ks.drop (r + 1)).reverse ++ [ks[r]] := by
  rw [List.drop_eq_getElem_cons hr, List.reverse_cons]
theorem repl_less {n r : Nat} (hr : r < n) (x : Int) : List.replicate (n - r) x = List.replicate (n - (r + 1)) x ++ [x] := by
  have : n - r = (n - (r + 1)) + 1 := by omega
  rw [this, List.replicate_succ']
end TreeD
end Go.Proofs.YtmdkocegnbcgmaaGreatDoor
